/- The contracts of spec.DistancesFrom and spec.l03Far. Condition: the limbs lie in a row of their own. -/
import Derived.Test.YtnoocpokicccpaaDistF
import Derived.Deep.AppendLies
namespace Go.Proofs.Ytnoocpokicccpaa
open Go.RowKit

def distsFrom (J i : Int) (ls : List Lb) : List Int := if joints J i i ls = true then distsTo J.toNat ls i.toNat J.toNat else []
theorem distsFrom_len (J i : Int) (ls : List Lb) : (distsFrom J i ls).length ≤ 12 := by
  unfold distsFrom
  cases h : joints J i i ls
  · simp
  · obtain ⟨hok, m, p, q, rfl, rfl, _, _, _⟩ := joints_of h
    obtain ⟨_, _, hm, _⟩ := ok_parts' hok
    rw [if_pos rfl, distsTo_len, Int.toNat_natCast]
    exact hm
theorem distsFrom_yes {m i : Nat} {ls : List Lb} (h : bodyOk m ls = true) (hi : i < m) : distsFrom m i ls = distsTo m ls i m := by
  rw [distsFrom, if_pos (joints_yes h hi hi), Int.toNat_natCast, Int.toNat_natCast]

set_option maxRecDepth 100000 in
set_option maxHeartbeats 800000 in
theorem specDists_no (J i : Int) (v : Value) (ls : List Lb) (base : Nat) (w : World) (hown : OwnL w base v ls) (h : joints J i i ls = false) :
    Calls Try.prog 28 #[bodyV J v, .int .i64 i] w (IntsPost w []) := by
  have CJ := Lib.hid (fun W hW => h ▸ joints_any J i i v ls base W hW)
  obtain ⟨A, c, e⟩ := hown.slice
  subst e
  have OWN := Lib.hid hown
  have BX := Lib.hid (box_facts (J := J) hown)
  clear hown h
  unfold bodyV at CJ ⊢
  have O0 := Lib.hid (ownI_empty (w.alloc (.cells #[.int .i64 J, .slice A ls.length c] 26)) w.heap.size (w.heap.size + 1) #[] (by simp) (by omega) rfl)
  go_enter Try.func28, Try.ntmps28
  go_wp2_with fail
  have hno : ¬ (0 : Int) < J ∨ (0 : Int) < J := by omega
  go_loopw [5, 6] (fun ov iv wr => ov = .slice (some ⟨w.heap.size + 1, 0, none⟩) 0 0 ∧ iv = .int .i64 0 ∧ wr = (w.alloc (.cells #[.int .i64 J, .slice A ls.length c] 26)).alloc (.cells #[] 3)) (fun _ _ _ => 0)
  case atStart => exact ⟨rfl, rfl, rfl⟩
  case round =>
    obtain ⟨rfl, rfl, rfl⟩ := hrel
    obtain ⟨x0, x1, -, bw⟩ := BX.out _ ((Below.refl _ _).alloc (by simp) (.cells #[] 3))
    by_cases h : (0 : Int) < J
    · go_wp2_with fail
      refine (CJ.out _ ((OWN.out.alloc _).alloc _)).mono ?_
      rintro e w1 ⟨rfl, b1⟩
      have O1 := Lib.hid (O0.out.moved b1)
      obtain ⟨-, -, -, bw⟩ := BX.out w1 (specAt_world b1)
      clear b1 x0 x1
      go_wp2
      go_ret
      exact ⟨_, rfl, O1.out, bw⟩
    · go_wp2
      go_ret
      exact ⟨_, rfl, O0.out, bw⟩


set_option maxRecDepth 100000 in
set_option maxHeartbeats 800000 in
theorem specDists_yes (m i : Nat) (v : Value) (ls : List Lb) (base : Nat) (w : World) (hown : OwnL w base v ls) (hok : bodyOk m ls = true) (hi : i < m) :
    Calls Try.prog 28 #[bodyV (m : Int) v, .int .i64 (i : Int)] w (IntsPost w (distsTo m ls i m)) := by
  have CJ := Lib.hid (fun W hW => joints_yes hok hi hi ▸ joints_any m i i v ls base W hW)
  have CD := Lib.hid (fun j (hj : j < m) W hW => distOf_yes hok hi hj ▸ specDist m i j v ls base W hW)
  obtain ⟨A, c, e⟩ := hown.slice
  subst e
  have OWN := Lib.hid hown
  have BX := Lib.hid (box_facts (J := (m : Int)) hown)
  obtain ⟨_, _, hm, _⟩ := ok_parts' hok
  clear hown hok
  unfold bodyV at CJ CD ⊢
  have O0 := Lib.hid (ownI_empty (w.alloc (.cells #[.int .i64 (m : Int), .slice A ls.length c] 26)) (w.heap.size + 1) (w.heap.size + 1) #[] (by simp) (by omega) rfl)
  obtain ⟨i0, hi0, hz0, hz1, hz2⟩ := info_parts info_int
  have hpos : 0 < 1 := by omega
  go_enter Try.func28, Try.ntmps28
  go_wp2_with fail
  go_loopw [5, 6] (fun ov iv wr => ∃ (k : Nat) (vo : Value), vo = ov ∧ k ≤ m ∧ iv = .int .i64 (k : Int) ∧ OwnI wr (w.heap.size + 1) vo (distsTo m ls i k) ∧ Below (w.heap.size + 1) (w.alloc (.cells #[.int .i64 (m : Int), .slice A ls.length c] 26)) wr) (fun _ iv _ => m - (intOf iv).toNat)
  case atStart => exact ⟨0, _, rfl, by omega, rfl, O0.out, (Below.refl _ _).alloc (by simp) _⟩
  case round =>
    obtain ⟨k, vo, rfl, hk, rfl, hown, hbel⟩ := hrel
    obtain ⟨x0, x1, ol, bw⟩ := BX.out wr hbel
    have HO := Lib.hid hown
    have HB := Lib.hid hbel
    have hsz := hbel.size
    simp only [World.size_alloc] at hsz
    clear hbel
    by_cases hlt : k < m
    · have hlen := distsTo_len m ls i k
      have hmax : (distsTo m ls i k).length + 1 ≤ maxLen := by simp only [maxLen]; omega
      have hbd : ((distsTo m ls i k).length + 1) * 8 ≤ 140737488355328 := by omega
      have hkm : (k : Int) < (m : Int) := by omega
      have CDk := Lib.hid (CD.out k hlt)
      have DS := Lib.hid (show distsTo m ls i (k + 1) = distsTo m ls i k ++ [dist m ls i k] from rfl)
      generalize dist m ls i k = d at CDk DS
      clear hlen hown
      go_wp2_with fail
      refine (CJ.out _ ol).mono ?_
      rintro e w1 ⟨rfl, b1⟩
      have B1 := Lib.hid (HB.out.trans (b1.mono hsz))
      have O1 := Lib.hid (HO.out.moved b1)
      obtain ⟨y0, y1, o1, -⟩ := BX.out w1 B1.out
      have hs1 : w.heap.size + 1 ≤ w1.heap.size := Nat.le_trans hsz b1.size
      clear b1 x0 x1 ol bw
      go_wp2_with fail
      refine (CDk.out _ o1).mono ?_
      rintro e w2 ⟨rfl, b2⟩
      have B2 := Lib.hid (B1.out.trans (b2.mono hs1))
      have O2 := Lib.hid (O1.out.moved b2)
      obtain ⟨y0, y1, -, -⟩ := BX.out w2 B2.out
      have hs2 : w.heap.size + 1 ≤ w2.heap.size := Nat.le_trans hs1 b2.size
      have own2 := O2.out
      clear b2
      go_wp2_with (at_builtin; refine wpList_append_lies _ rfl (.tmp 20) (.tmp 25) 30 rfl (w.heap.size + 1) 3 i0 (.int .i64 0) 1 8 Try.underlying30 hi0 hz0 hz1 hz2 rfl hpos vo _ _ rfl (own2.alloc _) ⟨w2.heap.size, 0, none⟩ 1 1 [.int .i64 d] rfl rfl (cell_one_new _ _ _) ?_ hpos hmax hbd ?_ (w2.heap.size + 1) ?_ ?_; (simp [Value.oneCell']); (simp; omega); (simp); intro gg cap w3 hown1 hgrow hat hlt')
      exact ⟨⟨k + 1, _, rfl, by omega, by go_num, (by rw [DS.out]; exact ownI_snoc hown1), ints_snoc_below B2.out hs2 O2.out hgrow⟩, by simp [intOf]; omega⟩
    · obtain rfl : k = m := by omega
      have HO := Lib.hid (hown.mono (b := w.heap.size) (by omega))
      clear hown
      go_wp2
      go_ret
      exact ⟨_, rfl, HO.out, bw⟩


theorem specDists (J i : Int) (v : Value) (ls : List Lb) (base : Nat) (w : World) (hown : OwnL w base v ls) :
    Calls Try.prog 28 #[bodyV J v, .int .i64 i] w (IntsPost w (distsFrom J i ls)) := by
  unfold distsFrom
  cases h : joints J i i ls
  · rw [if_neg (by simp)]
    exact specDists_no _ i v ls base w hown h
  · obtain ⟨hok, m, p, _, rfl, rfl, -, hi, -⟩ := joints_of h
    rw [if_pos rfl, Int.toNat_natCast, Int.toNat_natCast]
    exact specDists_yes m p v ls base w hown hok hi

theorem maxed (a b : Int) : max a b = if a < b then b else a := by
  split <;> omega

set_option maxRecDepth 100000 in
set_option maxHeartbeats 800000 in
theorem far_any (m i : Nat) (v : Value) (ls : List Lb) (base : Nat) (w : World) (hown : OwnL w base v ls) (hok : bodyOk m ls = true) (hi : i < m) :
    Calls Try.prog 52 #[bodyV (m : Int) v, .int .i64 (i : Int)] w fun e w' => e = .returned (.int .i64 (far m ls i)) ∧ Below w.heap.size w w' := by
  have CD := Lib.hid (fun W hW => specDists_yes m i v ls base W hW hok hi)
  obtain ⟨A, c, e⟩ := hown.slice
  subst e
  have OWN := Lib.hid hown
  have BX := Lib.hid (box_facts (J := (m : Int)) hown)
  obtain ⟨hf, _, hm, _⟩ := ok_parts' hok
  have FR := Lib.hid (fun k => farTo_range hf i k)
  have DA := Lib.hid (fun r (h : r < (distsTo m ls i m).length) => distsTo_at h)
  have DL := Lib.hid (distsTo_len m ls i m)
  obtain ⟨hll, -, -, -⟩ := ok_len hok
  clear hown hok hf
  unfold bodyV at CD ⊢
  go_enter Try.func52, Try.ntmps52
  go_wp2_with fail
  refine (CD.out _ (OWN.out.alloc _)).mono ?_
  rintro e w2 ⟨v2, rfl, o2, b2⟩
  simp only [World.size_alloc] at o2 b2
  obtain ⟨A2, c2, rfl⟩ := o2.slice
  have O2 := Lib.hid o2
  have BW := Lib.hid (BX.out w2 b2).2.2.2
  clear o2 b2
  go_wp2
  go_loopw [5, 7] (fun nv iv wr => wr = w2 ∧ ∃ r : Nat, r ≤ m ∧ iv = .int .i64 (r : Int) ∧ nv = .int .i64 (farTo m ls i r)) (fun _ iv _ => m - (intOf iv).toNat)
  case atStart => exact ⟨rfl, 0, by omega, rfl, rfl⟩
  case round =>
    obtain ⟨rfl, r, hr, rfl, rfl⟩ := hrel
    obtain ⟨hw0, hw1⟩ := FR.out r
    have hdl : ((distsTo m ls i m).length : Int) = (m : Int) := by rw [DL.out]
    by_cases hlt : r < m
    · obtain ⟨g2, c', e1, _, _, z0, _⟩ := O2.out.spot (k := r) (by rw [DL.out]; exact hlt)
      simp only [Value.slice.injEq] at e1
      obtain ⟨rfl, hloop, rfl⟩ := e1
      clear hloop
      rw [DA.out] at z0
      have SUM := Lib.hid (show farTo m ls i (r + 1) = if farTo m ls i r < dist m ls i r then dist m ls i r else farTo m ls i r from maxed _ _)
      generalize dist m ls i r = d at z0 SUM
      generalize farTo m ls i r = f at hw0 hw1 SUM
      have hr1 : (r : Int) < ((distsTo m ls i m).length : Int) := by omega
      have hr0 : (0 : Int) ≤ (r : Int) := by omega
      go_wp2
      exact ⟨⟨trivial, r + 1, by omega, by go_num, by rw [SUM.out]⟩, by simp [intOf]; omega⟩
    · obtain rfl : r = m := by omega
      go_wp2
      go_ret
      exact ⟨rfl, BW.out⟩

def spanOf (J : Int) (ls : List Lb) : Int := if bodyOk J ls = true then spanTo J.toNat ls J.toNat else -1

set_option maxRecDepth 100000 in
set_option maxHeartbeats 800000 in
theorem specSpan (J : Int) (v : Value) (ls : List Lb) (base : Nat) (w : World) (hown : OwnL w base v ls) :
    Calls Try.prog 29 #[bodyV J v] w fun e w' => e = .returned (.int .i64 (spanOf J ls)) ∧ Below w.heap.size w w' := by
  have CS := Lib.hid (fun W h => specOk J v ls base W h)
  have CF := Lib.hid (fun m i W hW h hi => far_any m i v ls base W hW h hi)
  obtain ⟨A, c, e⟩ := hown.slice
  subst e
  have OWN := Lib.hid hown
  have BX := Lib.hid (box_facts (J := J) hown)
  clear hown
  unfold bodyV at CS CF ⊢
  unfold spanOf
  cases hok : bodyOk J ls with
  | false =>
    rw [hok] at CS
    rw [if_neg (by simp)]
    clear hok CF
    go_enter Try.func29, Try.ntmps29
    go_wp2_with fail
    refine (CS.out _ (OWN.out.alloc _)).mono ?_
    rintro e w1 ⟨rfl, b1⟩
    simp only [World.size_alloc] at b1
    obtain ⟨-, -, -, bw⟩ := BX.out w1 b1
    clear b1
    go_wp2
    go_ret
    exact ⟨rfl, bw⟩
  | true =>
    rw [hok] at CS
    rw [if_pos rfl]
    obtain ⟨hll, _, hJ1, hJ2⟩ := ok_len hok
    obtain ⟨m, rfl⟩ := Int.eq_ofNat_of_zero_le (show 0 ≤ J by omega)
    obtain ⟨hf, _, hm, _⟩ := ok_parts' hok
    rw [Int.toNat_natCast]
    have FR := Lib.hid (fun k => spanTo_range hf k)
    have CFm := Lib.hid (fun i W hW hi => CF.out m i W hW hok hi)
    clear hok hf CF
    go_enter Try.func29, Try.ntmps29
    go_wp2_with fail
    refine (CS.out _ (OWN.out.alloc _)).mono ?_
    rintro e w1 ⟨rfl, b1⟩
    simp only [World.size_alloc] at b1
    have B1 := Lib.hid b1
    clear b1
    go_wp2
    go_loopw [3, 4] (fun nv iv wr => ∃ r : Nat, r ≤ m ∧ iv = .int .i64 (r : Int) ∧ nv = .int .i64 (spanTo m ls r) ∧ Below (w.heap.size + 1) (w.alloc (.cells #[.int .i64 (m : Int), .slice A ls.length c] 26)) wr) (fun _ iv _ => m - (intOf iv).toNat)
    case atStart => exact ⟨0, by omega, rfl, rfl, B1.out⟩
    case round =>
      obtain ⟨r, hr, rfl, rfl, hbel⟩ := hrel
      obtain ⟨hw0, hw1⟩ := FR.out r
      have hwr := hbel.size
      simp only [World.size_alloc] at hwr
      have HB := Lib.hid hbel
      obtain ⟨x0, x1, ol, bw⟩ := BX.out wr hbel
      clear hbel
      by_cases hlt : r < m
      · have SUM := Lib.hid (show spanTo m ls (r + 1) = if spanTo m ls r < far m ls r then far m ls r else spanTo m ls r from maxed _ _)
        have CFr := Lib.hid (fun W hW => CFm.out r W hW hlt)
        generalize far m ls r = d at CFr SUM
        generalize spanTo m ls r = f at hw0 hw1 SUM
        have hrm : (r : Int) < (m : Int) := by omega
        go_wp2_with fail
        refine (CFr.out _ ol).mono ?_
        rintro e w2 ⟨rfl, b2⟩
        have FIN := Lib.hid (HB.out.trans (b2.mono hwr))
        clear b2 x0 x1 ol bw
        go_wp2
        exact ⟨⟨r + 1, by omega, by go_num, by rw [SUM.out], FIN.out⟩, by simp [intOf]; omega⟩
      · obtain rfl : r = m := by omega
        go_wp2
        go_ret
        exact ⟨rfl, bw⟩

def centerOf (J : Int) (ls : List Lb) : Int := if bodyOk J ls = true then (centerTo J.toNat ls J.toNat).1 else -1

set_option maxRecDepth 100000 in
set_option maxHeartbeats 800000 in
theorem specCenter_no (J : Int) (v : Value) (ls : List Lb) (base : Nat) (w : World) (hown : OwnL w base v ls) (hok : bodyOk J ls = false) :
    Calls Try.prog 30 #[bodyV J v] w fun e w' => e = .returned (.int .i64 (-1)) ∧ Below w.heap.size w w' := by
  have CS := Lib.hid (fun W h => hok ▸ specOk J v ls base W h)
  obtain ⟨A, c, e⟩ := hown.slice
  subst e
  have OWN := Lib.hid hown
  have BX := Lib.hid (box_facts (J := J) hown)
  clear hown hok
  unfold bodyV at CS ⊢
  go_enter Try.func30, Try.ntmps30
  go_wp2_with fail
  go_loopw [3, 5] (fun bv iv wr => bv = .int .i64 (-1) ∧ iv = .int .i64 0 ∧ wr = w.alloc (.cells #[.int .i64 J, .slice A ls.length c] 26)) (fun _ _ _ => 0)
  case atStart => exact ⟨rfl, rfl, rfl⟩
  case round =>
    obtain ⟨rfl, rfl, rfl⟩ := hrel
    obtain ⟨x0, x1, -, bw⟩ := BX.out _ (Below.refl _ _)
    by_cases h : (0 : Int) < J
    · go_wp2_with fail
      refine (CS.out _ (OWN.out.alloc _)).mono ?_
      rintro e w1 ⟨rfl, b1⟩
      simp only [World.size_alloc] at b1
      obtain ⟨-, -, -, bw⟩ := BX.out w1 b1
      clear b1 x0 x1
      go_wp2
      go_ret
      exact ⟨rfl, bw⟩
    · go_wp2
      go_ret
      exact ⟨rfl, bw⟩

set_option maxRecDepth 100000 in
set_option maxHeartbeats 800000 in
theorem specCenter_yes (m : Nat) (v : Value) (ls : List Lb) (base : Nat) (w : World) (hown : OwnL w base v ls) (hok : bodyOk m ls = true) :
    Calls Try.prog 30 #[bodyV (m : Int) v] w fun e w' => e = .returned (.int .i64 (centerTo m ls m).1) ∧ Below w.heap.size w w' := by
  have CS := Lib.hid (fun W h => hok ▸ specOk m v ls base W h)
  have CF := Lib.hid (fun i W hW hi => far_any m i v ls base W hW hok hi)
  obtain ⟨A, c, e⟩ := hown.slice
  subst e
  have OWN := Lib.hid hown
  have BX := Lib.hid (box_facts (J := (m : Int)) hown)
  obtain ⟨hf, _, hm, _⟩ := ok_parts' hok
  have FR := Lib.hid (fun i => (farTo_range hf i m : 0 ≤ far m ls i ∧ far m ls i ≤ 100 * (ls.length : Int)))
  clear hown hok hf
  unfold bodyV at CS CF ⊢
  go_enter Try.func30, Try.ntmps30
  go_wp2_with fail
  go_loopw [3, 4, 5] (fun bv lv iv wr => ∃ r : Nat, r ≤ m ∧ bv = .int .i64 (centerTo m ls r).1 ∧ lv = .int .i64 (centerTo m ls r).2 ∧ iv = .int .i64 (r : Int) ∧ Below (w.heap.size + 1) (w.alloc (.cells #[.int .i64 (m : Int), .slice A ls.length c] 26)) wr) (fun _ _ iv _ => m - (intOf iv).toNat)
  case atStart => exact ⟨0, by omega, rfl, rfl, rfl, Below.refl _ _⟩
  case round =>
    obtain ⟨r, hr, rfl, rfl, rfl, hbel⟩ := hrel
    have hwr := hbel.size
    simp only [World.size_alloc] at hwr
    have HB := Lib.hid hbel
    obtain ⟨x0, x1, ol, bw⟩ := BX.out wr hbel
    clear hbel
    by_cases hlt : r < m
    · have CFr := Lib.hid (fun W hW => CF.out r W hW hlt)
      have NX := Lib.hid (show centerTo m ls (r + 1) = if (centerTo m ls r).1 < 0 ∨ far m ls r < (centerTo m ls r).2 then ((r : Int), far m ls r) else centerTo m ls r from rfl)
      generalize far m ls r = d at CFr NX
      have hrm : (r : Int) < (m : Int) := by omega
      generalize centerTo m ls r = bl at NX
      obtain ⟨b, l⟩ := bl
      dsimp only at NX
      go_wp2_with fail
      refine (CS.out _ ol).mono ?_
      rintro e w1 ⟨rfl, b1⟩
      have B1 := Lib.hid (HB.out.trans (b1.mono hwr))
      have hs1 : w.heap.size + 1 ≤ w1.heap.size := Nat.le_trans hwr b1.size
      clear b1 x0 x1 ol bw
      obtain ⟨x0, x1, ol, bw⟩ := BX.out w1 B1.out
      go_wp2_with fail
      refine (CFr.out _ ol).mono ?_
      rintro e w2 ⟨rfl, b2⟩
      have B2 := Lib.hid (B1.out.trans (b2.mono hs1))
      clear b2 x0 x1 ol bw
      obtain ⟨x0, x1, ol, bw⟩ := BX.out w2 B2.out
      by_cases h1 : b < 0
      · have NX' := Lib.hid (show centerTo m ls (r + 1) = ((r : Int), d) by rw [NX.out, if_pos (.inl h1)])
        go_wp2
        exact ⟨⟨r + 1, by omega, by rw [NX'.out], by rw [NX'.out], by go_num, B2.out⟩, by simp [intOf]; omega⟩
      · by_cases h2 : d < l
        · have NX' := Lib.hid (show centerTo m ls (r + 1) = ((r : Int), d) by rw [NX.out, if_pos (.inr h2)])
          go_wp2
          exact ⟨⟨r + 1, by omega, by rw [NX'.out], by rw [NX'.out], by go_num, B2.out⟩, by simp [intOf]; omega⟩
        · have NX' := Lib.hid (show centerTo m ls (r + 1) = (b, l) by rw [NX.out, if_neg (by omega)])
          go_wp2
          exact ⟨⟨r + 1, by omega, by rw [NX'.out], by rw [NX'.out], by go_num, B2.out⟩, by simp [intOf]; omega⟩
    · obtain rfl : r = m := by omega
      go_wp2
      go_ret
      exact ⟨rfl, bw⟩

theorem specCenter (J : Int) (v : Value) (ls : List Lb) (base : Nat) (w : World) (hown : OwnL w base v ls) :
    Calls Try.prog 30 #[bodyV J v] w fun e w' => e = .returned (.int .i64 (centerOf J ls)) ∧ Below w.heap.size w w' := by
  unfold centerOf
  cases hok : bodyOk J ls with
  | false =>
    rw [if_neg (by simp)]
    exact specCenter_no J v ls base w hown hok
  | true =>
    obtain ⟨_, _, hJ1, hJ2⟩ := ok_len hok
    obtain ⟨m, rfl⟩ := Int.eq_ofNat_of_zero_le (show 0 ≤ J by omega)
    rw [if_pos rfl, Int.toNat_natCast]
    exact specCenter_yes m v ls base w hown hok
end Go.Proofs.Ytnoocpokicccpaa
