/- The contract of impl.AreSameShape: it answers as the model does. Condition: the limbs of both lie in rows of their own. -/
import Derived.Test.YtnoocpokicccpaaDistsI
import Derived.Test.YtnoocpokicccpaaSlic
import Derived.Test.YtnoocpokicccpaaSameS
namespace Go.Proofs.Ytnoocpokicccpaa
open Go.RowKit

theorem dists_same {m i : Nat} {ls ks : List Lb} : distsTo m ls i m = distsTo m ks i m ↔ ∀ j, j < m → dist m ls i j = dist m ks i j := by
  constructor
  · intro h j hj
    have a := distsTo_at (m := m) (ls := ls) (i := i) (k := m) (r := j) (by rw [distsTo_len]; exact hj)
    have b := distsTo_at (m := m) (ls := ks) (i := i) (k := m) (r := j) (by rw [distsTo_len]; exact hj)
    rw [← a, ← b]
    simp only [h]
  · intro h
    refine List.ext_getElem (by rw [distsTo_len, distsTo_len]) fun k h1 h2 => ?_
    rw [distsTo_at, distsTo_at]
    exact h k (by rw [distsTo_len] at h1; exact h1)
theorem same_no {m i : Nat} {ls ks : List Lb} (hi : i < m) (h : distsTo m ls i m ≠ distsTo m ks i m) : sameD m ls ks = false := by
  cases hs : sameD m ls ks with
  | false => rfl
  | true =>
    refine absurd (dists_same.2 fun j hj => ?_) h
    have a := sameD_iff.1 hs
    by_cases e : j = i
    · subst e
      rw [dist_self, dist_self]
    · by_cases c : j < i
      · exact a i j hi c
      · rw [dist_comm (m := m) (ls := ls), dist_comm (m := m) (ls := ks)]
        exact a j i hj (by omega)

set_option maxRecDepth 100000 in
set_option maxHeartbeats 1600000 in
theorem implSame_yes (m : Nat) (v u : Value) (ls ks : List Lb) (b1 b2 : Nat) (w : World) (hown : OwnL w b1 v ls) (hown2 : OwnL w b2 u ks) (hok : bodyOk m ls = true) (hok2 : bodyOk m ks = true) :
    Calls Try.prog 18 #[bodyV (m : Int) v, bodyV (m : Int) u] w fun e w' => e = .returned (.bool (sameD m ls ks)) ∧ Below w.heap.size w w' := by
  have hl1 := ok_parts' hok
  have hl2 := ok_parts' hok2
  have CS := Lib.hid (fun W h => hok ▸ implOk m v ls b1 W h (by omega))
  have CT := Lib.hid (fun W h => hok2 ▸ implOk m u ks b2 W h (by omega))
  have C1 := Lib.hid (fun i (hi : i < m) W hW => implDists_yes m i v ls b1 W hW hok hi)
  have C2 := Lib.hid (fun i (hi : i < m) W hW => implDists_yes m i u ks b2 W hW hok2 hi)
  obtain ⟨A, c, e⟩ := hown.slice
  subst e
  obtain ⟨D, d, e⟩ := hown2.slice
  subst e
  have OWN := Lib.hid hown
  have OWN2 := Lib.hid hown2
  have BX := Lib.hid (boxes2 (J := (m : Int)) (K := (m : Int)) hown hown2)
  have hm := hl1.2.2.1
  clear hown hok hown2 hok2 hl1 hl2
  unfold bodyV at CS CT C1 C2 ⊢
  go_enter Try.func18, Try.ntmps18
  go_wp2_with fail
  refine (CS.out _ ((OWN.out.alloc _).alloc _)).mono ?_
  rintro e w1 ⟨rfl, b1'⟩
  simp only [World.size_alloc] at b1'
  have B1 := Lib.hid b1'
  have hs1 := b1'.size
  simp only [World.size_alloc] at hs1
  clear b1'
  obtain ⟨x0, x1, y0, y1, o1, o2, bw⟩ := BX.out w1 B1.out
  go_wp2_with fail
  refine (CT.out _ o2).mono ?_
  rintro e w2 ⟨rfl, b2'⟩
  have B2 := Lib.hid (B1.out.trans (b2'.mono hs1))
  clear b2' x0 x1 y0 y1 o1 o2 bw
  obtain ⟨x0, x1, y0, y1, o1, o2, bw⟩ := BX.out w2 B2.out
  go_wp2_with fail
  clear x0 x1 y0 y1 o1 o2 bw
  go_loopw [23] (fun iv wr => ∃ i : Nat, i ≤ m ∧ iv = .int .i64 (i : Int) ∧ (∀ a, a < i → distsTo m ls a m = distsTo m ks a m) ∧ Below (w.heap.size + 2) ((w.alloc (.cells #[.int .i64 (m : Int), .slice A ls.length c] 26)).alloc (.cells #[.int .i64 (m : Int), .slice D ks.length d] 26)) wr) (fun iv _ => m - (intOf iv).toNat)
  case atStart => exact ⟨0, by omega, rfl, fun a h => absurd h (Nat.not_lt_zero a), B2.out⟩
  case round =>
    obtain ⟨i, hi, rfl, hall, hbel⟩ := hrel
    have AL := Lib.hid hall
    have HQ := Lib.hid hbel
    have K := Lib.hid (BX.out wr hbel)
    have hwq := hbel.size
    simp only [World.size_alloc] at hwq
    clear hall hbel
    by_cases hlt : i < m
    · have him : (i : Int) < (m : Int) := by omega
      have C1k := Lib.hid (C1.out i hlt)
      have C2k := Lib.hid (C2.out i hlt)
      have hZ1 := distsTo_len m ls i m
      have hZ2 := distsTo_len m ks i m
      obtain ⟨x0, x1, y0, y1, -⟩ := K.out
      by_cases hd : distsTo m ls i m = distsTo m ks i m
      · have RN := Lib.hid (show ∀ a, a < i + 1 → distsTo m ls a m = distsTo m ks a m from fun a ha => if e : a = i then by rw [e]; exact hd else AL.out a (by omega))
        have SI := Lib.hid (show sameI (distsTo m ls i m) (distsTo m ks i m) = true from decide_eq_true hd)
        generalize distsTo m ls i m = Z1 at C1k SI hZ1
        generalize distsTo m ks i m = Z2 at C2k SI hZ2
        have CE := Lib.hid (show ∀ v3 v4 c1 c2 W, OwnI W c1 v3 Z1 → OwnI W c2 v4 Z2 → Calls Try.prog 43 #[v3, v4] W fun e w' => e = .returned (.bool true) ∧ Below W.heap.size W w' from fun v3 v4 c1 c2 W h1 h2 => by have := equal_any v3 v4 Z1 Z2 c1 c2 W h1 h2 (by omega) (by omega); rwa [SI.out] at this)
        clear hd SI
        go_wp2_with fail
        go_region_held3 (fun w' => w'.cell? ⟨w.heap.size, 0, none⟩ = some (.int .i64 (m : Int)) ∧ w'.cell? ⟨w.heap.size, 1, none⟩ = some (.slice A ls.length c) ∧ w'.cell? ⟨w.heap.size + 1, 0, none⟩ = some (.int .i64 (m : Int)) ∧ w'.cell? ⟨w.heap.size + 1, 1, none⟩ = some (.slice D ks.length d))
          (first | exact ⟨x0, x1, y0, y1⟩ | exact quad K3.out | exact quad K4.out | exact quad K5.out) (first | (go_at_call 15; (with_reducible refine (C1k.out _ ?_).mono ?_); (exact K.out.2.2.2.2.1); rintro e w3 ⟨v3, rfl, o3, b3⟩; have O3 := Lib.hid o3; have H3 := Lib.hid (HQ.out.trans ((undrew b3).mono hwq)); have K3 := Lib.hid (BX.out w3 H3.out); have hw3 : w.heap.size + 2 ≤ w3.heap.size := (by have := (undrew b3).size; omega)) | (go_at_call 15; (with_reducible refine (C2k.out _ ?_).mono ?_); (exact K3.out.2.2.2.2.2.1); rintro e w4 ⟨v4, rfl, o4, b4⟩; have H4 := Lib.hid (H3.out.trans (b4.mono hw3)); have O34 := Lib.hid (O3.out.below b4); have O4 := Lib.hid o4; have K4 := Lib.hid (BX.out w4 H4.out); have hw4 : w.heap.size + 2 ≤ w4.heap.size := (by have := b4.size; omega)) | (go_at_call 43; (with_reducible refine (CE.out _ _ _ _ _ O34.out O4.out).mono ?_); rintro e w5 ⟨rfl, b5⟩; have H5 := Lib.hid (H4.out.trans (b5.mono hw4)); have K5 := Lib.hid (BX.out w5 H5.out)))
        clear b3 b4 x0 x1 y0 y1
        go_wp2
        exact ⟨⟨i + 1, by omega, by go_num, RN.out, H5.out⟩, by simp [intOf]; omega⟩
      · have SI := Lib.hid (show sameI (distsTo m ls i m) (distsTo m ks i m) = false from decide_eq_false hd)
        have NO := Lib.hid (same_no hlt hd)
        generalize distsTo m ls i m = Z1 at C1k SI hZ1
        generalize distsTo m ks i m = Z2 at C2k SI hZ2
        have CE := Lib.hid (show ∀ v3 v4 c1 c2 W, OwnI W c1 v3 Z1 → OwnI W c2 v4 Z2 → Calls Try.prog 43 #[v3, v4] W fun e w' => e = .returned (.bool false) ∧ Below W.heap.size W w' from fun v3 v4 c1 c2 W h1 h2 => by have := equal_any v3 v4 Z1 Z2 c1 c2 W h1 h2 (by omega) (by omega); rwa [SI.out] at this)
        clear hd SI
        go_wp2_with fail
        go_region_held3 (fun w' => w'.cell? ⟨w.heap.size, 0, none⟩ = some (.int .i64 (m : Int)) ∧ w'.cell? ⟨w.heap.size, 1, none⟩ = some (.slice A ls.length c) ∧ w'.cell? ⟨w.heap.size + 1, 0, none⟩ = some (.int .i64 (m : Int)) ∧ w'.cell? ⟨w.heap.size + 1, 1, none⟩ = some (.slice D ks.length d))
          (first | exact ⟨x0, x1, y0, y1⟩ | exact quad K3.out | exact quad K4.out | exact quad K5.out) (first | (go_at_call 15; (with_reducible refine (C1k.out _ ?_).mono ?_); (exact K.out.2.2.2.2.1); rintro e w3 ⟨v3, rfl, o3, b3⟩; have O3 := Lib.hid o3; have H3 := Lib.hid (HQ.out.trans ((undrew b3).mono hwq)); have K3 := Lib.hid (BX.out w3 H3.out); have hw3 : w.heap.size + 2 ≤ w3.heap.size := (by have := (undrew b3).size; omega)) | (go_at_call 15; (with_reducible refine (C2k.out _ ?_).mono ?_); (exact K3.out.2.2.2.2.2.1); rintro e w4 ⟨v4, rfl, o4, b4⟩; have H4 := Lib.hid (H3.out.trans (b4.mono hw3)); have O34 := Lib.hid (O3.out.below b4); have O4 := Lib.hid o4; have K4 := Lib.hid (BX.out w4 H4.out); have hw4 : w.heap.size + 2 ≤ w4.heap.size := (by have := b4.size; omega)) | (go_at_call 43; (with_reducible refine (CE.out _ _ _ _ _ O34.out O4.out).mono ?_); rintro e w5 ⟨rfl, b5⟩; have H5 := Lib.hid (H4.out.trans (b5.mono hw4)); have K5 := Lib.hid (BX.out w5 H5.out)))
        clear b3 b4 x0 x1 y0 y1
        go_wp2
        go_ret
        exact ⟨by rw [NO.out]; rfl, K5.out.2.2.2.2.2.2⟩
    · obtain rfl : i = m := by omega
      have ALL := Lib.hid (sameD_iff.2 fun a b ha hb => dists_same.1 (AL.out a ha) b (by omega))
      obtain ⟨x0, x1, y0, y1, -, -, bw⟩ := K.out
      go_wp2
      go_ret
      exact ⟨by rw [ALL.out]; rfl, bw⟩

set_option maxRecDepth 100000 in
set_option maxHeartbeats 800000 in
theorem implSame_no (J K : Int) (v u : Value) (ls ks : List Lb) (b1 b2 : Nat) (w : World) (hown : OwnL w b1 v ls) (hown2 : OwnL w b2 u ks) (hl : ls.length ≤ 2000000) (hl2 : ks.length ≤ 2000000) (h : ¬ (bodyOk J ls = true ∧ bodyOk K ks = true ∧ J = K)) :
    Calls Try.prog 18 #[bodyV J v, bodyV K u] w fun e w' => e = .returned (.bool false) ∧ Below w.heap.size w w' := by
  have CS := Lib.hid (fun W h => implOk J v ls b1 W h hl)
  have CT := Lib.hid (fun W h => implOk K u ks b2 W h hl2)
  obtain ⟨A, c, e⟩ := hown.slice
  subst e
  obtain ⟨D, d, e⟩ := hown2.slice
  subst e
  have OWN := Lib.hid hown
  have OWN2 := Lib.hid hown2
  have BX := Lib.hid (boxes2 (J := J) (K := K) hown hown2)
  clear hown hown2
  unfold bodyV at CS CT ⊢
  cases hok : bodyOk J ls with
  | false =>
    rw [hok] at CS
    clear h hok
    go_enter Try.func18, Try.ntmps18
    go_wp2_with fail
    refine (CS.out _ ((OWN.out.alloc _).alloc _)).mono ?_
    rintro e w1 ⟨rfl, b1'⟩
    simp only [World.size_alloc] at b1'
    obtain ⟨-, -, -, -, -, -, bw⟩ := BX.out w1 b1'
    clear b1'
    go_wp2
    go_ret
    exact ⟨rfl, bw⟩
  | true =>
    rw [hok] at CS
    cases hok2 : bodyOk K ks with
    | false =>
      rw [hok2] at CT
      clear h hok hok2
      go_enter Try.func18, Try.ntmps18
      go_wp2_with fail
      refine (CS.out _ ((OWN.out.alloc _).alloc _)).mono ?_
      rintro e w1 ⟨rfl, b1'⟩
      simp only [World.size_alloc] at b1'
      have B1 := Lib.hid b1'
      have hs1 := b1'.size
      simp only [World.size_alloc] at hs1
      clear b1'
      obtain ⟨x0, x1, y0, y1, o1, o2, bw⟩ := BX.out w1 B1.out
      go_wp2_with fail
      refine (CT.out _ o2).mono ?_
      rintro e w2 ⟨rfl, b2'⟩
      have B2 := Lib.hid (B1.out.trans (b2'.mono hs1))
      clear b2' x0 x1 y0 y1 o1 o2 bw
      obtain ⟨-, -, -, -, -, -, bw⟩ := BX.out w2 B2.out
      go_wp2
      go_ret
      exact ⟨rfl, bw⟩
    | true =>
      rw [hok2] at CT
      have hne : (J != K) = true := by
        simp only [bne_iff_ne, ne_eq]
        exact fun e => h ⟨hok, hok2, e⟩
      clear h hok hok2
      go_enter Try.func18, Try.ntmps18
      go_wp2_with fail
      refine (CS.out _ ((OWN.out.alloc _).alloc _)).mono ?_
      rintro e w1 ⟨rfl, b1'⟩
      simp only [World.size_alloc] at b1'
      have B1 := Lib.hid b1'
      have hs1 := b1'.size
      simp only [World.size_alloc] at hs1
      clear b1'
      obtain ⟨x0, x1, y0, y1, o1, o2, bw⟩ := BX.out w1 B1.out
      go_wp2_with fail
      refine (CT.out _ o2).mono ?_
      rintro e w2 ⟨rfl, b2'⟩
      have B2 := Lib.hid (B1.out.trans (b2'.mono hs1))
      clear b2' x0 x1 y0 y1 o1 o2 bw
      obtain ⟨x0, x1, y0, y1, o1, o2, bw⟩ := BX.out w2 B2.out
      go_wp2
      go_ret
      exact ⟨rfl, bw⟩

theorem implSame (J K : Int) (v u : Value) (ls ks : List Lb) (b1 b2 : Nat) (w : World) (hown : OwnL w b1 v ls) (hown2 : OwnL w b2 u ks) (hl : ls.length ≤ 2000000) (hl2 : ks.length ≤ 2000000) :
    Calls Try.prog 18 #[bodyV J v, bodyV K u] w fun e w' => e = .returned (.bool (sameShape J K ls ks)) ∧ Below w.heap.size w w' := by
  by_cases h : bodyOk J ls = true ∧ bodyOk K ks = true ∧ J = K
  · obtain ⟨hok, hok2, rfl⟩ := h
    obtain ⟨_, _, hJ1, hJ2⟩ := ok_len hok
    obtain ⟨m, rfl⟩ := Int.eq_ofNat_of_zero_le (show 0 ≤ J by omega)
    rw [show sameShape m m ls ks = sameD m ls ks by simp [sameShape, hok, hok2]]
    exact implSame_yes m v u ls ks b1 b2 w hown hown2 hok hok2
  · rw [show sameShape J K ls ks = false by
      cases h1 : bodyOk J ls <;> cases h2 : bodyOk K ks <;> simp [sameShape, h1, h2]
      exact fun e => absurd ⟨h1, h2, e⟩ h]
    exact implSame_no J K v u ls ks b1 b2 w hown hown2 hl hl2 h
end Go.Proofs.Ytnoocpokicccpaa
