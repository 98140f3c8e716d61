/- The contract of spec.AreSameShape. Condition: each body's limbs lie in a row of their own. -/
import Derived.Test.YtnoocpokicccpaaDistF
import Derived.Deep.RegionHeld3
namespace Go.Proofs.Ytnoocpokicccpaa
open Go.RowKit

/-- Two valid bodies of m joints have the same distances. -/
def sameD (m : Nat) (ls ks : List Lb) : Bool := (List.range m).all fun i => (List.range i).all fun j => decide (dist m ls i j = dist m ks i j)
theorem sameD_iff {m : Nat} {ls ks : List Lb} : sameD m ls ks = true ↔ ∀ i j, i < m → j < i → dist m ls i j = dist m ks i j := by
  simp only [sameD, List.all_eq_true, List.mem_range, decide_eq_true_eq]
  exact ⟨fun h i j hi hj => h i hi j hj, fun h i hi j hj => h i j hi hj⟩
theorem sameD_not {m i j : Nat} {ls ks : List Lb} (hi : i < m) (hj : j < i) (h : dist m ls i j ≠ dist m ks i j) : sameD m ls ks = false := by
  cases e : sameD m ls ks
  · rfl
  · exact absurd (sameD_iff.1 e i j hi hj) h
def sameShape (J K : Int) (ls ks : List Lb) : Bool := bodyOk J ls && (bodyOk K ks && (decide (J = K) && sameD J.toNat ls ks))

theorem quad {a b c d e : Prop} (h : a ∧ b ∧ c ∧ d ∧ e) : a ∧ b ∧ c ∧ d := ⟨h.1, h.2.1, h.2.2.1, h.2.2.2.1⟩
theorem boxes2 {w : World} {b1 b2 : Nat} {J K : Int} {A D : Option Addr} {n c p d : Nat} {ls ks : List Lb} (h1 : OwnL w b1 (.slice A n c) ls) (h2 : OwnL w b2 (.slice D p d) ks) (wr : World)
    (hb : Below (w.heap.size + 2) ((w.alloc (.cells #[.int .i64 J, .slice A n c] 26)).alloc (.cells #[.int .i64 K, .slice D p d] 26)) wr) :
    wr.cell? ⟨w.heap.size, 0, none⟩ = some (.int .i64 J) ∧ wr.cell? ⟨w.heap.size, 1, none⟩ = some (.slice A n c) ∧ wr.cell? ⟨w.heap.size + 1, 0, none⟩ = some (.int .i64 K) ∧ wr.cell? ⟨w.heap.size + 1, 1, none⟩ = some (.slice D p d) ∧
      OwnL wr b1 (.slice A n c) ls ∧ OwnL wr b2 (.slice D p d) ks ∧ Below w.heap.size w wr := by
  obtain ⟨a0, a1, a2, a3⟩ := box_facts (J := J) h1 wr (((Below.refl _ _).alloc (by simp) _).trans (hb.mono (by omega)))
  obtain ⟨c0, c1, c2, -⟩ := box_facts (J := K) (h2.alloc (.cells #[.int .i64 J, .slice A n c] 26)) wr (by simpa using hb)
  simp only [World.size_alloc] at c0 c1
  exact ⟨a0, a1, c0, c1, a2, c2, a3⟩

set_option maxRecDepth 100000 in
set_option maxHeartbeats 1600000 in
theorem specSame_yes (m : Nat) (v u : Value) (ls ks : List Lb) (b1 b2 : Nat) (w : World) (hown : OwnL w b1 v ls) (hown2 : OwnL w b2 u ks) (hok : bodyOk m ls = true) (hok2 : bodyOk m ks = true) :
    Calls Try.prog 31 #[bodyV (m : Int) v, bodyV (m : Int) u] w fun e w' => e = .returned (.bool (sameD m ls ks)) ∧ Below w.heap.size w w' := by
  have CS := Lib.hid (fun W h => hok ▸ specOk m v ls b1 W h)
  have CT := Lib.hid (fun W h => hok2 ▸ specOk m u ks b2 W h)
  have C1 := Lib.hid (fun i j (hi : i < m) (hj : j < m) W hW => distOf_yes hok hi hj ▸ specDist m i j v ls b1 W hW)
  have C2 := Lib.hid (fun i j (hi : i < m) (hj : j < m) W hW => distOf_yes hok2 hi hj ▸ specDist m i j u ks b2 W hW)
  obtain ⟨A, c, e⟩ := hown.slice
  subst e
  obtain ⟨D, d, e⟩ := hown2.slice
  subst e
  have OWN := Lib.hid hown
  have OWN2 := Lib.hid hown2
  have BX := Lib.hid (boxes2 (J := (m : Int)) (K := (m : Int)) hown hown2)
  obtain ⟨_, _, hm, _⟩ := ok_parts' hok
  clear hown hok hown2 hok2
  unfold bodyV at CS CT C1 C2 ⊢
  go_enter Try.func31, Try.ntmps31
  go_wp2_with fail
  refine (CS.out _ ((OWN.out.alloc _).alloc _)).mono ?_
  rintro e w1 ⟨rfl, b1'⟩
  simp only [World.size_alloc] at b1'
  have B1 := Lib.hid b1'
  have hs1 := b1'.size
  simp only [World.size_alloc] at hs1
  clear b1'
  obtain ⟨x0, x1, y0, y1, o1, o2, bw⟩ := BX.out w1 B1.out
  go_wp2_with fail
  refine (CT.out _ o2).mono ?_
  rintro e w2 ⟨rfl, b2'⟩
  have B2 := Lib.hid (B1.out.trans (b2'.mono hs1))
  clear b2' x0 x1 y0 y1 o1 o2 bw
  obtain ⟨x0, x1, y0, y1, o1, o2, bw⟩ := BX.out w2 B2.out
  go_wp2_with fail
  clear x0 x1 y0 y1 o1 o2 bw
  go_loopw [5] (fun iv wr => ∃ i : Nat, i ≤ m ∧ iv = .int .i64 (i : Int) ∧ (∀ a b, a < i → b < a → dist m ls a b = dist m ks a b) ∧ Below (w.heap.size + 2) ((w.alloc (.cells #[.int .i64 (m : Int), .slice A ls.length c] 26)).alloc (.cells #[.int .i64 (m : Int), .slice D ks.length d] 26)) wr) (fun iv _ => m - (intOf iv).toNat)
  case atStart => exact ⟨0, by omega, rfl, fun a b h => absurd h (Nat.not_lt_zero a), B2.out⟩
  case round =>
    obtain ⟨i, hi, rfl, hall, hbel⟩ := hrel
    have AL := Lib.hid hall
    have HB := Lib.hid hbel
    obtain ⟨x0, x1, y0, y1, o1, o2, bw⟩ := BX.out wr hbel
    clear hall hbel
    by_cases hlt : i < m
    · have him : (i : Int) < (m : Int) := by omega
      clear bw o1 o2
      go_wp2_with fail
      clear x0 x1 y0 y1
      go_loopw [6] (fun jv wq => ∃ j : Nat, j ≤ i ∧ jv = .int .i64 (j : Int) ∧ (∀ b, b < j → dist m ls i b = dist m ks i b) ∧ Below (w.heap.size + 2) ((w.alloc (.cells #[.int .i64 (m : Int), .slice A ls.length c] 26)).alloc (.cells #[.int .i64 (m : Int), .slice D ks.length d] 26)) wq) (fun jv _ => i - (intOf jv).toNat)
      case atStart => exact ⟨0, by omega, rfl, fun b h => absurd h (Nat.not_lt_zero b), HB.out⟩
      case round =>
        obtain ⟨j, hj, rfl, hrow, hbel⟩ := hrel
        have RW := Lib.hid hrow
        have HQ := Lib.hid hbel
        have hwq := hbel.size
        simp only [World.size_alloc] at hwq
        have K := Lib.hid (BX.out _ hbel)
        clear hrow hbel
        by_cases hjt : j < i
        · have hji : (j : Int) < (i : Int) := by omega
          have C1k := Lib.hid (C1.out i j hlt (by omega))
          have C2k := Lib.hid (C2.out i j hlt (by omega))
          obtain ⟨x0, x1, y0, y1, -⟩ := K.out
          by_cases hd : dist m ls i j = dist m ks i j
          · have RN := Lib.hid (show ∀ b, b < j + 1 → dist m ls i b = dist m ks i b from fun b hb => if e : b = j then by rw [e]; exact hd else RW.out b (by omega))
            rw [hd] at C1k
            generalize dist m ks i j = x at C1k C2k
            clear hd
            go_wp2_with fail
            go_region_held3 (fun w' => w'.cell? ⟨w.heap.size, 0, none⟩ = some (.int .i64 (m : Int)) ∧ w'.cell? ⟨w.heap.size, 1, none⟩ = some (.slice A ls.length c) ∧ w'.cell? ⟨w.heap.size + 1, 0, none⟩ = some (.int .i64 (m : Int)) ∧ w'.cell? ⟨w.heap.size + 1, 1, none⟩ = some (.slice D ks.length d))
              (first | exact ⟨x0, x1, y0, y1⟩ | exact quad K3.out | exact quad K4.out) (first | (go_at_call 27; (with_reducible refine (C1k.out _ ?_).mono ?_); (exact K.out.2.2.2.2.1); rintro e w3 ⟨rfl, b3⟩; have H3 := Lib.hid (HQ.out.trans ((undrew b3).mono hwq)); have K3 := Lib.hid (BX.out w3 H3.out); have hw3 : w.heap.size + 2 ≤ w3.heap.size := (by have := (undrew b3).size; omega)) | (go_at_call 27; (with_reducible refine (C2k.out _ ?_).mono ?_); (exact K3.out.2.2.2.2.2.1); rintro e w4 ⟨rfl, b4⟩; have H4 := Lib.hid (H3.out.trans (b4.mono hw3)); have K4 := Lib.hid (BX.out w4 H4.out)))
            clear b3 b4 x0 x1 y0 y1
            go_wp2
            exact ⟨⟨j + 1, by omega, by go_num, RN.out, H4.out⟩, by simp [intOf]; omega⟩
          · have hneq : (dist m ls i j != dist m ks i j) = true := by simpa using hd
            have NO := Lib.hid (sameD_not hlt hjt hd)
            generalize dist m ks i j = y at C2k hneq
            generalize dist m ls i j = x at C1k hneq
            clear hd
            go_wp2_with fail
            go_region_held3 (fun w' => w'.cell? ⟨w.heap.size, 0, none⟩ = some (.int .i64 (m : Int)) ∧ w'.cell? ⟨w.heap.size, 1, none⟩ = some (.slice A ls.length c) ∧ w'.cell? ⟨w.heap.size + 1, 0, none⟩ = some (.int .i64 (m : Int)) ∧ w'.cell? ⟨w.heap.size + 1, 1, none⟩ = some (.slice D ks.length d))
              (first | exact ⟨x0, x1, y0, y1⟩ | exact quad K3.out | exact quad K4.out) (first | (go_at_call 27; (with_reducible refine (C1k.out _ ?_).mono ?_); (exact K.out.2.2.2.2.1); rintro e w3 ⟨rfl, b3⟩; have H3 := Lib.hid (HQ.out.trans ((undrew b3).mono hwq)); have K3 := Lib.hid (BX.out w3 H3.out); have hw3 : w.heap.size + 2 ≤ w3.heap.size := (by have := (undrew b3).size; omega)) | (go_at_call 27; (with_reducible refine (C2k.out _ ?_).mono ?_); (exact K3.out.2.2.2.2.2.1); rintro e w4 ⟨rfl, b4⟩; have H4 := Lib.hid (H3.out.trans (b4.mono hw3)); have K4 := Lib.hid (BX.out w4 H4.out)))
            clear b3 b4 x0 x1 y0 y1
            go_wp2
            go_ret
            exact ⟨by rw [NO.out]; rfl, K4.out.2.2.2.2.2.2⟩
        · obtain rfl : j = i := by omega
          have AL2 := Lib.hid (show ∀ a b, a < j + 1 → b < a → dist m ls a b = dist m ks a b from fun a b ha hb => if e : a = j then by subst e; exact RW.out b hb else AL.out a b (by omega) hb)
          go_wp2
          exact ⟨⟨j + 1, by omega, by go_num, AL2.out, HQ.out⟩, by simp [intOf]; omega⟩
    · obtain rfl : i = m := by omega
      have ALL := Lib.hid (sameD_iff.2 AL.out)
      go_wp2
      go_ret
      exact ⟨by rw [ALL.out]; rfl, bw⟩

set_option maxRecDepth 100000 in
set_option maxHeartbeats 800000 in
theorem specSame_no (J K : Int) (v u : Value) (ls ks : List Lb) (b1 b2 : Nat) (w : World) (hown : OwnL w b1 v ls) (hown2 : OwnL w b2 u ks) (h : ¬ (bodyOk J ls = true ∧ bodyOk K ks = true ∧ J = K)) :
    Calls Try.prog 31 #[bodyV J v, bodyV K u] w fun e w' => e = .returned (.bool false) ∧ Below w.heap.size w w' := by
  have CS := Lib.hid (fun W h => specOk J v ls b1 W h)
  have CT := Lib.hid (fun W h => specOk K u ks b2 W h)
  obtain ⟨A, c, e⟩ := hown.slice
  subst e
  obtain ⟨D, d, e⟩ := hown2.slice
  subst e
  have OWN := Lib.hid hown
  have OWN2 := Lib.hid hown2
  have BX := Lib.hid (boxes2 (J := J) (K := K) hown hown2)
  clear hown hown2
  unfold bodyV at CS CT ⊢
  cases hok : bodyOk J ls with
  | false =>
    rw [hok] at CS
    clear h hok
    go_enter Try.func31, Try.ntmps31
    go_wp2_with fail
    refine (CS.out _ ((OWN.out.alloc _).alloc _)).mono ?_
    rintro e w1 ⟨rfl, b1'⟩
    simp only [World.size_alloc] at b1'
    obtain ⟨-, -, -, -, -, -, bw⟩ := BX.out w1 b1'
    clear b1'
    go_wp2
    go_ret
    exact ⟨rfl, bw⟩
  | true =>
    rw [hok] at CS
    cases hok2 : bodyOk K ks with
    | false =>
      rw [hok2] at CT
      clear h hok hok2
      go_enter Try.func31, Try.ntmps31
      go_wp2_with fail
      refine (CS.out _ ((OWN.out.alloc _).alloc _)).mono ?_
      rintro e w1 ⟨rfl, b1'⟩
      simp only [World.size_alloc] at b1'
      have B1 := Lib.hid b1'
      have hs1 := b1'.size
      simp only [World.size_alloc] at hs1
      clear b1'
      obtain ⟨x0, x1, y0, y1, o1, o2, bw⟩ := BX.out w1 B1.out
      go_wp2_with fail
      refine (CT.out _ o2).mono ?_
      rintro e w2 ⟨rfl, b2'⟩
      have B2 := Lib.hid (B1.out.trans (b2'.mono hs1))
      clear b2' x0 x1 y0 y1 o1 o2 bw
      obtain ⟨-, -, -, -, -, -, bw⟩ := BX.out w2 B2.out
      go_wp2
      go_ret
      exact ⟨rfl, bw⟩
    | true =>
      rw [hok2] at CT
      have hne : (J != K) = true := by
        simp only [bne_iff_ne, ne_eq]
        exact fun e => h ⟨hok, hok2, e⟩
      clear h hok hok2
      go_enter Try.func31, Try.ntmps31
      go_wp2_with fail
      refine (CS.out _ ((OWN.out.alloc _).alloc _)).mono ?_
      rintro e w1 ⟨rfl, b1'⟩
      simp only [World.size_alloc] at b1'
      have B1 := Lib.hid b1'
      have hs1 := b1'.size
      simp only [World.size_alloc] at hs1
      clear b1'
      obtain ⟨x0, x1, y0, y1, o1, o2, bw⟩ := BX.out w1 B1.out
      go_wp2_with fail
      refine (CT.out _ o2).mono ?_
      rintro e w2 ⟨rfl, b2'⟩
      have B2 := Lib.hid (B1.out.trans (b2'.mono hs1))
      clear b2' x0 x1 y0 y1 o1 o2 bw
      obtain ⟨x0, x1, y0, y1, o1, o2, bw⟩ := BX.out w2 B2.out
      go_wp2
      go_ret
      exact ⟨rfl, bw⟩

theorem specSame (J K : Int) (v u : Value) (ls ks : List Lb) (b1 b2 : Nat) (w : World) (hown : OwnL w b1 v ls) (hown2 : OwnL w b2 u ks) :
    Calls Try.prog 31 #[bodyV J v, bodyV K u] w fun e w' => e = .returned (.bool (sameShape J K ls ks)) ∧ Below w.heap.size w w' := by
  by_cases h : bodyOk J ls = true ∧ bodyOk K ks = true ∧ J = K
  · obtain ⟨hok, hok2, rfl⟩ := h
    obtain ⟨_, _, hJ1, hJ2⟩ := ok_len hok
    obtain ⟨m, rfl⟩ := Int.eq_ofNat_of_zero_le (show 0 ≤ J by omega)
    rw [show sameShape m m ls ks = sameD m ls ks by simp [sameShape, hok, hok2]]
    exact specSame_yes m v u ls ks b1 b2 w hown hown2 hok hok2
  · rw [show sameShape J K ls ks = false by
      cases h1 : bodyOk J ls <;> cases h2 : bodyOk K ks <;> simp [sameShape, h1, h2]
      exact fun e => absurd ⟨h1, h2, e⟩ h]
    exact specSame_no J K v u ls ks b1 b2 w hown hown2 h
end Go.Proofs.Ytnoocpokicccpaa
