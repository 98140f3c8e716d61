/- Changes of hands through a night: the least sum, a night that has it: as mathematics. No condition. -/
import Derived.Test.YtanlfkkmnnjpeaaCgsM
namespace Go.Proofs.Ytanlfkkmnnjpeaa
set_option linter.unusedVariables false
set_option linter.unusedSimpArgs false
open Go.RowKit

/-- Changes of puppet i among the first k of the next moment; of the first i puppets. -/
def chK (ps cast nx af : List Int) (i : Nat) : Nat → Int
  | 0 => 0
  | k + 1 => if ps.getD i 0 = nx.getD k 0 ∧ cast.getD i 0 ≠ af.getD k 0 then chK ps cast nx af i k + 1 else chK ps cast nx af i k
def chTo (ps cast nx af : List Int) : Nat → Int
  | 0 => 0
  | i + 1 => chTo ps cast nx af i + chK ps cast nx af i nx.length
def changesB (ps cast nx af : List Int) : Int := if ps.length = cast.length ∧ nx.length = af.length then chTo ps cast nx af ps.length else -1
theorem chK_small (ps cast nx af : List Int) (i : Nat) : ∀ k, 0 ≤ chK ps cast nx af i k ∧ chK ps cast nx af i k ≤ (k : Int) := by
  intro k
  induction k with
  | zero => rw [chK]; omega
  | succ k ih => rw [chK]; split <;> omega
theorem chTo_small (ps cast nx af : List Int) : ∀ i, 0 ≤ chTo ps cast nx af i ∧ chTo ps cast nx af i ≤ (nx.length : Int) * (i : Int) := by
  intro i
  induction i with
  | zero => rw [chTo]; simp
  | succ i ih =>
    have := chK_small ps cast nx af i nx.length
    rw [chTo, show ((i + 1 : Nat) : Int) = (i : Int) + 1 from rfl, Int.mul_add]
    omega
/-- The castings of moment m; the least sum from a casting on, over the first k of the next moment's. -/
def csM (ls : List RPlayer) (nt : List (List Int)) (m : Nat) : List (List Int) := castingsOf ls (nt.getD m [])
def bestK (row : List Int) (d : List (List Int)) (ps c nx : List Int) : Nat → Int
  | 0 => -1
  | k + 1 => if row.getD k 0 < 0 then bestK row d ps c nx k else
      if bestK row d ps c nx k < 0 ∨ row.getD k 0 + changesB ps c nx (d.getD k []) < bestK row d ps c nx k then row.getD k 0 + changesB ps c nx (d.getD k []) else bestK row d ps c nx k
/-- The row of the moment that is j ahead of the last. -/
def costRow (ls : List RPlayer) (nt : List (List Int)) : Nat → List Int
  | 0 => List.replicate (csM ls nt (nt.length - 1)).length 0
  | j + 1 => (csM ls nt (nt.length - 1 - (j + 1))).map fun c => bestK (costRow ls nt j) (csM ls nt (nt.length - 1 - j)) (nt.getD (nt.length - 1 - (j + 1)) []) c (nt.getD (nt.length - 1 - j) []) (csM ls nt (nt.length - 1 - j)).length
def costAt (ls : List RPlayer) (nt : List (List Int)) (m : Nat) : List Int := costRow ls nt (nt.length - 1 - m)
def nightOk (ls : List RPlayer) (nt : List (List Int)) : Bool := nt.all (fun l => decide (l.length ≤ 4) && rising l 6) && (playersOk ls && inB (nt.length : Int) 1 6)
def fewTo (row : List Int) : Nat → Int
  | 0 => -1
  | k + 1 => if 0 ≤ row.getD k 0 ∧ (fewTo row k < 0 ∨ row.getD k 0 < fewTo row k) then row.getD k 0 else fewTo row k
def fewest (ls : List RPlayer) (nt : List (List Int)) : Int := if nightOk ls nt = true then fewTo (costAt ls nt 0) (costAt ls nt 0).length else -1
def firstIx (p : Nat → Bool) : Nat → Option Nat
  | 0 => none
  | n + 1 => match firstIx p n with
    | some i => some i
    | none => if p n = true then some n else none
def stepAt (nt : List (List Int)) (m : Nat) (prev c : List Int) : Int := if 0 < m then changesB (nt.getD (m - 1) []) prev (nt.getD m []) c else 0
def pickAt (ls : List RPlayer) (nt : List (List Int)) (m : Nat) (prev : List Int) (left : Int) (i : Nat) : Bool :=
  decide (0 ≤ (costAt ls nt m).getD i 0) && decide (stepAt nt m prev ((csM ls nt m).getD i []) + (costAt ls nt m).getD i 0 = left)
def nightTo (ls : List RPlayer) (nt : List (List Int)) : Nat → List (List Int) × Int
  | 0 => ([], fewest ls nt)
  | m + 1 => match firstIx (pickAt ls nt m ((nightTo ls nt m).1.getD (m - 1) []) (nightTo ls nt m).2) (csM ls nt m).length with
    | some i => ((nightTo ls nt m).1 ++ [(csM ls nt m).getD i []], (costAt ls nt m).getD i 0)
    | none => nightTo ls nt m
def bestNight (ls : List RPlayer) (nt : List (List Int)) : List (List Int) × Bool := if fewest ls nt < 0 then ([], false) else ((nightTo ls nt nt.length).1, true)
def chAt (nt cs : List (List Int)) (m : Nat) : Int := changesB (nt.getD (m - 1) []) (cs.getD (m - 1) []) (nt.getD m []) (cs.getD m [])
def sumCh (nt cs : List (List Int)) : Nat → Int
  | 0 => 0
  | m + 1 => if m = 0 then 0 else sumCh nt cs m + chAt nt cs m
def countCh (nt cs : List (List Int)) : Int := if (decide (nt.length = cs.length) && (List.range nt.length).all fun m => decide (m = 0) || decide (0 ≤ chAt nt cs m)) = true then sumCh nt cs nt.length else -1
theorem firstIx_some {p : Nat → Bool} : ∀ n j, firstIx p n = some j → j < n ∧ p j = true := by
  intro n
  induction n with
  | zero => intro j h; cases h
  | succ n ih =>
    intro j h
    rw [firstIx] at h
    cases d : firstIx p n with
    | some k =>
      rw [d] at h
      obtain rfl := Option.some.inj h
      obtain ⟨a, b⟩ := ih k d
      exact ⟨by omega, b⟩
    | none =>
      rw [d] at h
      have h : (if p n = true then some n else none) = some j := h
      by_cases q : p n = true
      · rw [if_pos q] at h
        obtain rfl := Option.some.inj h
        exact ⟨by omega, q⟩
      · rw [if_neg q] at h
        cases h
theorem firstIx_has {p : Nat → Bool} {i : Nat} (h : p i = true) : ∀ n, i < n → ∃ j, j < n ∧ firstIx p n = some j ∧ p j = true := by
  intro n hi
  cases c : firstIx p n with
  | some j => exact ⟨j, (firstIx_some n j c).1, rfl, (firstIx_some n j c).2⟩
  | none =>
    exfalso
    induction n with
    | zero => omega
    | succ n ih =>
      rw [firstIx] at c
      cases d : firstIx p n with
      | some k => rw [d] at c; cases c
      | none =>
        rw [d] at c
        have c : (if p n = true then some n else none) = none := c
        by_cases q : i = n
        · subst q; rw [if_pos h] at c; cases c
        · exact ih (by omega) d
theorem costRow_len (ls : List RPlayer) (nt : List (List Int)) : ∀ j, (costRow ls nt j).length = (csM ls nt (nt.length - 1 - j)).length := by
  intro j
  cases j with
  | zero => rw [costRow, List.length_replicate, Nat.sub_zero]
  | succ j => rw [costRow, List.length_map]
theorem costAt_len (ls : List RPlayer) {nt : List (List Int)} {m : Nat} (hm : m < nt.length) : (costAt ls nt m).length = (csM ls nt m).length := by
  unfold costAt
  rw [costRow_len, show nt.length - 1 - (nt.length - 1 - m) = m by omega]
/-- The row of one moment by the next one's. -/
theorem cost_next (ls : List RPlayer) {nt : List (List Int)} {m : Nat} (hm : m + 1 < nt.length) {i : Nat} (hi : i < (csM ls nt m).length) : (costAt ls nt m).getD i 0 = bestK (costAt ls nt (m + 1)) (csM ls nt (m + 1)) (nt.getD m []) ((csM ls nt m).getD i []) (nt.getD (m + 1) []) (csM ls nt (m + 1)).length := by
  unfold costAt
  obtain ⟨j, hj⟩ : ∃ j, nt.length - 1 - (m + 1) = j := ⟨_, rfl⟩
  rw [hj, show nt.length - 1 - m = j + 1 by omega, costRow, show nt.length - 1 - (j + 1) = m by omega, show nt.length - 1 - j = m + 1 by omega]
  rw [List.getD_eq_getElem?_getD, List.getElem?_map, List.getElem?_eq_getElem hi]
  show bestK _ _ _ (csM ls nt m)[i] _ _ = _
  rw [List.getD_eq_getElem?_getD (l := csM ls nt m), List.getElem?_eq_getElem hi]
  rfl
theorem cost_last (ls : List RPlayer) {nt : List (List Int)} {m : Nat} (hm : m + 1 = nt.length) {i : Nat} (hi : i < (csM ls nt m).length) : (costAt ls nt m).getD i 0 = 0 := by
  unfold costAt
  rw [show nt.length - 1 - m = 0 by omega, costRow, List.getD_eq_getElem?_getD, List.getElem?_replicate]
  split <;> rfl
section
variable {row : List Int} {d : List (List Int)} {ps c nx : List Int} (hc : ∀ k, k < d.length → 0 ≤ changesB ps c nx (d.getD k []))
include hc
/-- The best is one of them, and none is less. -/
theorem best_is : ∀ k, k ≤ d.length → (0 ≤ bestK row d ps c nx k → ∃ j, j < k ∧ 0 ≤ row.getD j 0 ∧ bestK row d ps c nx k = row.getD j 0 + changesB ps c nx (d.getD j [])) ∧
    (∀ j, j < k → 0 ≤ row.getD j 0 → 0 ≤ bestK row d ps c nx k ∧ bestK row d ps c nx k ≤ row.getD j 0 + changesB ps c nx (d.getD j [])) ∧ -1 ≤ bestK row d ps c nx k := by
  intro k
  induction k with
  | zero => intro _; rw [bestK]; exact ⟨fun h => by omega, fun j h => by omega, by omega⟩
  | succ k ih =>
    intro hk
    obtain ⟨h1, h2, h3⟩ := ih (by omega)
    have hh := hc k (by omega)
    rw [bestK]
    by_cases a : row.getD k 0 < 0
    · rw [if_pos a]
      refine ⟨fun h => ?_, fun j hj h => ?_, h3⟩
      · obtain ⟨j, x, y⟩ := h1 h; exact ⟨j, by omega, y⟩
      · rcases (by omega : j < k ∨ j = k) with q | rfl
        · exact h2 j q h
        · omega
    · rw [if_neg a]
      by_cases b : bestK row d ps c nx k < 0 ∨ row.getD k 0 + changesB ps c nx (d.getD k []) < bestK row d ps c nx k
      · rw [if_pos b]
        refine ⟨fun _ => ⟨k, by omega, by omega, rfl⟩, fun j hj h => ?_, by omega⟩
        rcases (by omega : j < k ∨ j = k) with q | rfl
        · have := h2 j q h
          omega
        · omega
      · rw [if_neg b]
        refine ⟨fun h => ?_, fun j hj h => ?_, h3⟩
        · obtain ⟨j, x, y⟩ := h1 h; exact ⟨j, by omega, y⟩
        · rcases (by omega : j < k ∨ j = k) with q | rfl
          · exact h2 j q h
          · omega
end
theorem few_is (row : List Int) : ∀ k, (0 ≤ fewTo row k → ∃ j, j < k ∧ fewTo row k = row.getD j 0) ∧ (∀ j, j < k → 0 ≤ row.getD j 0 → 0 ≤ fewTo row k ∧ fewTo row k ≤ row.getD j 0) ∧ -1 ≤ fewTo row k := by
  intro k
  induction k with
  | zero => rw [fewTo]; exact ⟨fun h => by omega, fun j h => by omega, by omega⟩
  | succ k ih =>
    obtain ⟨h1, h2, h3⟩ := ih
    rw [fewTo]
    by_cases b : 0 ≤ row.getD k 0 ∧ (fewTo row k < 0 ∨ row.getD k 0 < fewTo row k)
    · rw [if_pos b]
      refine ⟨fun _ => ⟨k, by omega, rfl⟩, fun j hj h => ?_, by omega⟩
      rcases (by omega : j < k ∨ j = k) with q | rfl
      · have := h2 j q h
        omega
      · omega
    · rw [if_neg b]
      refine ⟨fun h => ?_, fun j hj h => ?_, h3⟩
      · obtain ⟨j, x, y⟩ := h1 h; exact ⟨j, by omega, y⟩
      · rcases (by omega : j < k ∨ j = k) with q | rfl
        · exact h2 j q h
        · omega
end Go.Proofs.Ytanlfkkmnnjpeaa
