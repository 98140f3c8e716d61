/- The contract of impl.farthestDistances, and what slices.Max, Min and Index find in its answer. Condition: the body is valid. -/
import Derived.Test.YtnoocpokicccpaaDistsI
import Derived.Test.YtnoocpokicccpaaSlic
namespace Go.Proofs.Ytnoocpokicccpaa
open Go.RowKit

/-- The greatest distances from the first r joints, and 0 for the others. -/
def farsR (m : Nat) (ls : List Lb) (r : Nat) : List Int := (List.range m).map fun k => if k < r then far m ls k else 0
theorem farsR_len (m : Nat) (ls : List Lb) (r : Nat) : (farsR m ls r).length = m := by simp [farsR]
theorem farsR_at {m : Nat} {ls : List Lb} {r k : Nat} (h : k < (farsR m ls r).length) : (farsR m ls r)[k] = if k < r then far m ls k else 0 := by simp [farsR]
theorem farsR_set {m : Nat} {ls : List Lb} {r : Nat} (_ : r < m) : (farsR m ls r).set r (far m ls r) = farsR m ls (r + 1) := by
  refine List.ext_getElem (by simp [farsR]) fun k h1 h2 => ?_
  rw [List.getElem_set, farsR_at, farsR_at]
  by_cases e : r = k
  · subst e
    rw [if_pos rfl, if_pos (by omega)]
  · rw [if_neg e]
    by_cases c : k < r
    · rw [if_pos c, if_pos (by omega)]
    · rw [if_neg c, if_neg (by omega)]
theorem farsR_zero (m : Nat) (ls : List Lb) : farsR m ls 0 = List.replicate m 0 := by
  refine List.ext_getElem (by simp [farsR]) fun k h1 h2 => ?_
  rw [farsR_at]
  simp
theorem top_dists {m : Nat} {ls : List Lb} (hf : Fits m ls) {i k : Nat} (hk : k < m) : topTo (distsTo m ls i m) k = farTo m ls i (k + 1) := by
  have g : ∀ k, k < m → (distsTo m ls i m).getD k 0 = dist m ls i k := fun k hk => by
    rw [getD_at (by rw [distsTo_len]; exact hk), distsTo_at]
  induction k with
  | zero =>
    show (distsTo m ls i m).getD 0 0 = max 0 (dist m ls i 0)
    rw [g 0 hk]
    have := (dist_range hf i 0).1
    omega
  | succ k ih =>
    show max (topTo _ k) ((distsTo m ls i m).getD (k + 1) 0) = max (farTo m ls i (k + 1)) (dist m ls i (k + 1))
    rw [ih (by omega), g _ hk]
theorem far_top {m : Nat} {ls : List Lb} (hf : Fits m ls) {i : Nat} (hm : 0 < m) : topTo (distsTo m ls i m) ((distsTo m ls i m).length - 1) = far m ls i := by
  rw [distsTo_len, top_dists hf (by omega)]
  unfold far
  congr 1
  omega
theorem fars_getD {m : Nat} {ls : List Lb} {k : Nat} (hk : k < m) : (farsR m ls m).getD k 0 = far m ls k := by
  rw [getD_at (by rw [farsR_len]; exact hk), farsR_at, if_pos hk]
theorem top_fars {m : Nat} {ls : List Lb} (hf : Fits m ls) {k : Nat} (hk : k < m) : topTo (farsR m ls m) k = spanTo m ls (k + 1) := by
  induction k with
  | zero =>
    show (farsR m ls m).getD 0 0 = max 0 (far m ls 0)
    rw [fars_getD hk]
    have : 0 ≤ far m ls 0 := (farTo_range hf 0 m).1
    omega
  | succ k ih =>
    show max (topTo _ k) ((farsR m ls m).getD (k + 1) 0) = max (spanTo m ls (k + 1)) (far m ls (k + 1))
    rw [ih (by omega), fars_getD hk]
theorem low_fars {m : Nat} {ls : List Lb} {k : Nat} (hk : k < m) : ∃ c, c ≤ k ∧ centerTo m ls (k + 1) = ((c : Int), far m ls c) ∧ lowTo (farsR m ls m) k = far m ls c ∧ (∀ j, j < c → far m ls j ≠ far m ls c) ∧ ∀ j, j ≤ k → far m ls c ≤ far m ls j := by
  induction k with
  | zero => exact ⟨0, Nat.le_refl _, if_pos (.inl (show (-1 : Int) < 0 by omega)), fars_getD hk, fun j hj => (by omega), fun j hj => (by
      obtain rfl : j = 0 := (by omega)
      exact Int.le_refl _)⟩
  | succ k ih =>
    obtain ⟨c, hc, h1, h2, h3, h4⟩ := ih (by omega)
    have e : centerTo m ls (k + 1 + 1) = if (centerTo m ls (k + 1)).1 < 0 ∨ far m ls (k + 1) < (centerTo m ls (k + 1)).2 then (((k + 1 : Nat) : Int), far m ls (k + 1)) else centerTo m ls (k + 1) := rfl
    have l : lowTo (farsR m ls m) (k + 1) = min (lowTo (farsR m ls m) k) ((farsR m ls m).getD (k + 1) 0) := rfl
    rw [fars_getD hk, h2] at l
    rw [h1] at e
    by_cases x : far m ls (k + 1) < far m ls c
    · rw [if_pos (.inr x)] at e
      refine ⟨k + 1, Nat.le_refl _, e, by rw [l]; omega, fun j hj y => ?_, fun j hj => ?_⟩
      · have := h4 j (by omega)
        omega
      · by_cases z : j = k + 1
        · subst z
          exact Int.le_refl _
        · have := h4 j (by omega)
          omega
    · rw [if_neg (by rintro (y | y); exact absurd y (by show ¬ (c : Int) < 0; omega); exact x y)] at e
      refine ⟨c, by omega, e, by rw [l]; omega, h3, fun j hj => ?_⟩
      by_cases z : j = k + 1
      · subst z
        omega
      · exact h4 j (by omega)

set_option maxRecDepth 100000 in
set_option maxHeartbeats 800000 in
theorem fars_any (m : Nat) (v : Value) (ls : List Lb) (base : Nat) (w : World) (hown : OwnL w base v ls) (hok : bodyOk m ls = true) :
    Calls Try.prog 40 #[bodyV (m : Int) v] w (IntsPost w (farsR m ls m)) := by
  obtain ⟨hf, hll, hm, hr⟩ := ok_parts' hok
  have CD := Lib.hid (fun j W h hj => implDists_yes m j v ls base W h hok hj)
  obtain ⟨A, c, e⟩ := hown.slice
  subst e
  have OWN := Lib.hid hown
  have BX := Lib.hid (box_facts (J := (m : Int)) hown)
  have FT := Lib.hid (fun i => far_top (i := i) hf (by omega))
  obtain ⟨i, hi, hz, hs, hb⟩ := info_parts info_int
  unfold bodyV at CD ⊢
  have hm0 : (0 : Int) ≤ (m : Int) := by omega
  clear hok hown hf hr
  go_enter Try.func40, Try.ntmps40
  go_wp2_with (refine wpList_make_full _ rfl _ _ 30 rfl (w.heap.size + 1) 3 i (.int .i64 0) 1 Try.underlying30 hi hz hs .i64 .i64 _ _ m rfl rfl rfl rfl (by rw [hb]; omega) (by simp only [maxLen]; omega) (by simp) ?_; intro w1 own1 grown1)
  have own0 : OwnI w1 (w.heap.size + 1) (.slice (some ⟨w.heap.size + 1, 0, none⟩) m m) (farsR m ls 0) := by
    rw [made_zeros] at own1
    simp only [World.size_alloc] at own1
    unfold OwnI
    rw [farsR_zero, List.length_replicate]
    exact own1
  have b1 : Below (w.heap.size + 1) (w.alloc (.cells #[.int .i64 (m : Int), .slice A ls.length c] 26)) w1 := (below_of_grown grown1).mono (by simp)
  clear own1 grown1
  go_loopw [10] (fun iv wr => ∃ k : Nat, k ≤ m ∧ iv = .int .i64 (k : Int) ∧ OwnI wr (w.heap.size + 1) (.slice (some ⟨w.heap.size + 1, 0, none⟩) m m) (farsR m ls k) ∧ Below (w.heap.size + 1) (w.alloc (.cells #[.int .i64 (m : Int), .slice A ls.length c] 26)) wr) (fun iv _ => m - (intOf iv).toNat)
  case atStart => exact ⟨0, by omega, rfl, own0, b1⟩
  case round =>
    clear own0 b1
    obtain ⟨k, hk, rfl, hrow, hbel⟩ := hrel
    obtain ⟨x0, x1, ol, bw⟩ := BX.out wr hbel
    have hsz := hbel.size
    simp only [World.size_alloc] at hsz
    by_cases hlt : k < m
    · have HRW := Lib.hid hrow
      have HB := Lib.hid hbel
      have OL := Lib.hid ol
      have hk0 : (0 : Int) ≤ (k : Int) := by omega
      have hk1 : (k : Int) < (m : Int) := by omega
      clear hrow hbel ol bw
      go_wp2_with fail
      refine (CD.out k _ OL.out hlt).mono ?_
      rintro e w2 ⟨v2, rfl, o2, b2⟩
      have R2 := Lib.hid (HRW.out.below b2)
      have B2 := Lib.hid (HB.out.trans (b2.mono hsz))
      have HM := Lib.hid (max_any v2 _ _ w2 o2 (by rw [distsTo_len]; omega) (by rw [distsTo_len]; omega))
      obtain ⟨_, _, e2, _, _, z2, f2⟩ := R2.out.spot (k := k) (by rw [farsR_len]; exact hlt)
      simp only [Value.slice.injEq, Option.some.injEq, Addr.mk.injEq] at e2
      obtain ⟨⟨rfl, _⟩, em, ec⟩ := e2
      clear em ec b2 o2
      have ST := Lib.hid (R2.out.set (farsR_len m ls k).symm k (far m ls k))
      rw [farsR_set hlt] at ST
      generalize (farsR m ls k)[k]'(by rw [farsR_len]; exact hlt) = z at z2
      go_wp2_with (go_at_call 39; refine HM.out.mono ?_; rintro e w3 ⟨rfl, rfl⟩; rw [FT.out])
      exact ⟨⟨k + 1, by omega, by go_num, ST.out.1, B2.out.setCell (p := ⟨w.heap.size + 1, k, none⟩) (Nat.le_refl _) _⟩, by simp [intOf]; omega⟩
    · obtain rfl : k = m := by omega
      have O3 := Lib.hid (hrow.mono (b := w.heap.size) (by omega))
      clear hrow
      go_wp2
      go_ret
      exact ⟨_, rfl, O3.out, bw⟩
end Go.Proofs.Ytnoocpokicccpaa
