/- Two poses as plain mathematics: the greatest step between them, and what is made of both joint by joint. -/
import Derived.Test.YtdbpejjbinbiiaaRng
namespace Go.Proofs.Ytdbpejjbinbiiaa
set_option linter.unusedVariables false

/-- Could both be poses of one body, as far as their numbers tell? -/
def pairOk (ps qs : List Int) : Bool := decide (ps.length = qs.length) && (decide (ps.length ≤ 12) && (allIn (-2000) 2000 ps && allIn (-2000) 2000 qs))
def stepTo (ps qs : List Int) : Nat → Int
  | 0 => 0
  | k + 1 => max (stepTo ps qs k) (max (ps.getD k 0 - qs.getD k 0) (qs.getD k 0 - ps.getD k 0))
/-- What StepSize answers. -/
def stepSize (ps qs : List Int) : Int := if pairOk ps qs = true then stepTo ps qs ps.length else -1
/-- What is made of both poses by f, joint by joint. -/
def ofBoth (f : Int → Int → Int) (ps qs : List Int) : List Int := if pairOk ps qs = true then List.zipWith f ps qs else []

theorem getI_of {zs : List Int} {k : Nat} (h : k < zs.length) : zs.getD k 0 = zs[k] := by
  rw [List.getD_eq_getElem?_getD, List.getElem?_eq_getElem h]
  rfl
theorem pair_parts {ps qs : List Int} (h : pairOk ps qs = true) : ps.length = qs.length ∧ ps.length ≤ 12 ∧ allIn (-2000) 2000 ps = true ∧ allIn (-2000) 2000 qs = true := by
  unfold pairOk at h
  simp only [Bool.and_eq_true, decide_eq_true_eq] at h
  exact h
theorem pair_of {ps qs : List Int} (h1 : ps.length = qs.length) (h2 : ps.length ≤ 12) (h3 : allIn (-2000) 2000 ps = true) (h4 : allIn (-2000) 2000 qs = true) : pairOk ps qs = true := by
  unfold pairOk
  rw [decide_eq_true h1, decide_eq_true h2, h3, h4]
  rfl
theorem pair_p {ps qs : List Int} (h : pairOk ps qs = true) {k : Nat} (hk : k < ps.length) : -2000 ≤ ps[k] ∧ ps[k] ≤ 2000 := allIn_at (pair_parts h).2.2.1 hk
theorem pair_q {ps qs : List Int} (h : pairOk ps qs = true) {k : Nat} (hk : k < qs.length) : -2000 ≤ qs[k] ∧ qs[k] ≤ 2000 := allIn_at (pair_parts h).2.2.2 hk
theorem stepTo_more {ps qs : List Int} {k : Nat} (h1 : k < ps.length) (h2 : k < qs.length) : stepTo ps qs (k + 1) = max (stepTo ps qs k) (max (ps[k] - qs[k]) (qs[k] - ps[k])) := by
  rw [stepTo, getI_of h1, getI_of h2]
theorem stepTo_range {ps qs : List Int} (h : pairOk ps qs = true) : ∀ k, k ≤ ps.length → 0 ≤ stepTo ps qs k ∧ stepTo ps qs k ≤ 4000 := by
  intro k
  have hl := (pair_parts h).1
  induction k with
  | zero => exact fun _ => ⟨by simp [stepTo], by simp [stepTo]⟩
  | succ k ih =>
    intro hk
    have h1 := pair_p h (k := k) (by omega)
    have h2 := pair_q h (k := k) (by omega)
    have h3 := ih (by omega)
    rw [stepTo_more (by omega) (by omega)]
    omega
theorem step_yes {ps qs : List Int} (h : pairOk ps qs = true) : stepSize ps qs = stepTo ps qs ps.length := by unfold stepSize; rw [if_pos h]
theorem step_no {ps qs : List Int} (h : pairOk ps qs = false) : stepSize ps qs = -1 := by unfold stepSize; rw [h]; rfl
theorem step_range (ps qs : List Int) : -1 ≤ stepSize ps qs ∧ stepSize ps qs ≤ 4000 := by
  cases h : pairOk ps qs with
  | true =>
    rw [step_yes h]
    have := stepTo_range h ps.length (Nat.le_refl _)
    omega
  | false => rw [step_no h]; omega
theorem step_none {ps qs : List Int} (h : pairOk ps qs = true) : ¬ stepSize ps qs = -1 ∧ 0 ≤ stepSize ps qs := by
  rw [step_yes h]
  have := stepTo_range h ps.length (Nat.le_refl _)
  omega
theorem both_yes {f : Int → Int → Int} {ps qs : List Int} (h : pairOk ps qs = true) : ofBoth f ps qs = List.zipWith f ps qs := by unfold ofBoth; rw [if_pos h]
theorem both_no {f : Int → Int → Int} {ps qs : List Int} (h : pairOk ps qs = false) : ofBoth f ps qs = [] := by unfold ofBoth; rw [h]; rfl
theorem both_len (f : Int → Int → Int) (ps qs : List Int) : (ofBoth f ps qs).length ≤ 12 := by
  cases h : pairOk ps qs with
  | true =>
    rw [both_yes h, List.length_zipWith]
    have := pair_parts h
    omega
  | false => rw [both_no h]; exact Nat.zero_le _
theorem zip_more {f : Int → Int → Int} {ps qs : List Int} {k : Nat} (h1 : k < ps.length) (h2 : k < qs.length) : (List.zipWith f ps qs).take (k + 1) = (List.zipWith f ps qs).take k ++ [f ps[k] qs[k]] := by
  rw [List.take_succ_eq_append_getElem (by rw [List.length_zipWith]; omega), List.getElem_zipWith]
theorem zip_len {f : Int → Int → Int} {ps qs : List Int} (h : pairOk ps qs = true) : (List.zipWith f ps qs).length = ps.length := by
  rw [List.length_zipWith]
  have := pair_parts h
  omega
/-- The middle of two numbers, rounded down. -/
def mid (a b : Int) : Int := (a + b) / 2
end Go.Proofs.Ytdbpejjbinbiiaa
