/- Hands for puppets, short sets, the most that can be cast, what lacks: as mathematics. No condition. -/
import Derived.Test.YtanlfkkmnnjpeaaHanM
namespace Go.Proofs.Ytanlfkkmnnjpeaa
set_option linter.unusedVariables false
set_option linter.unusedSimpArgs false
open Go.RowKit

def proofOk (ls : List RPlayer) (ps : List Int) : Bool := playersOk ls && rising ps 6
/-- One of the first i puppets is known. -/
def someTo (l : RPlayer) (ps : List Int) : Nat → Bool
  | 0 => false
  | i + 1 => someTo l ps i || knowsB l (ps.getD i 0)
def hforTo (ls : List RPlayer) (ps : List Int) : Nat → Int
  | 0 => 0
  | k + 1 => if someTo (ls.getD k RPlayer.zero) ps ps.length = true then hforTo ls ps k + (ls.getD k RPlayer.zero).f1 else hforTo ls ps k
def handsFor (ls : List RPlayer) (ps : List Int) : Int := if proofOk ls ps = true then hforTo ls ps ls.length else -1
theorem hfor_small {ls : List RPlayer} (h : playersOk ls = true) (ps : List Int) : ∀ k, k ≤ ls.length → 0 ≤ hforTo ls ps k ∧ hforTo ls ps k ≤ handsTo ls k := by
  intro k
  induction k with
  | zero => intro _; exact ⟨Int.le_refl _, Int.le_refl _⟩
  | succ k ih =>
    intro hk
    have a := ih (by omega)
    have b := (player_fine ((playersOk_has h).2 k (by omega))).2
    rw [← getP (by omega)] at b
    rw [hforTo, handsTo]
    split <;> omega
theorem handsFor_small (ls : List RPlayer) (ps : List Int) : -1 ≤ handsFor ls ps ∧ handsFor ls ps ≤ 12 := by
  unfold handsFor
  split
  · next h =>
    have hk : playersOk ls = true := by
      unfold proofOk at h
      rw [Bool.and_eq_true] at h
      exact h.1
    have a := hfor_small hk ps ls.length (Nat.le_refl _)
    have b := hands_small hk ls.length (Nat.le_refl _)
    have c := (playersOk_has hk).1
    omega
  · omega
def isShort (ls : List RPlayer) (ps : List Int) : Bool := decide (0 ≤ handsFor ls ps) && decide (handsFor ls ps < (ps.length : Int))
/-- The puppets of a set among the first k. -/
def partTo (ps : List Int) (s : Nat) : Nat → List Int
  | 0 => []
  | k + 1 => if s.testBit k = true then partTo ps s k ++ [ps.getD k 0] else partTo ps s k
def partOf (ps : List Int) (s : Nat) : List Int := partTo ps s ps.length
theorem part_len (ps : List Int) (s : Nat) : ∀ k, (partTo ps s k).length ≤ k := by
  intro k
  induction k with
  | zero => exact Nat.le_refl _
  | succ k ih =>
    rw [partTo]
    split
    · rw [List.length_append, List.length_singleton]
      omega
    · omega
theorem partOf_len (ps : List Int) (s : Nat) : (partOf ps s).length ≤ ps.length := part_len ps s _
def shortAt (ls : List RPlayer) (ps : List Int) (s : Nat) : Option (List Int) := if isShort ls (partOf ps s) = true then some (partOf ps s) else none
def shortSet (ls : List RPlayer) (ps : List Int) : Option (List Int) := if proofOk ls ps = true then firstOf (shortAt ls ps) (1 <<< ps.length) else none
def mostTo (ls : List RPlayer) (ps : List Int) : Nat → Nat
  | 0 => 0
  | s + 1 => if (partOf ps s).length ≤ mostTo ls ps s then mostTo ls ps s else if (castR (firstCast ls (partOf ps s))).2 = true then (partOf ps s).length else mostTo ls ps s
theorem most_le (ls : List RPlayer) (ps : List Int) : ∀ s, mostTo ls ps s ≤ ps.length := by
  intro s
  induction s with
  | zero => exact Nat.zero_le _
  | succ s ih =>
    have := partOf_len ps s
    rw [mostTo]
    split
    · exact ih
    · split
      · exact this
      · exact ih
def mostCast (ls : List RPlayer) (ps : List Int) : Int := if proofOk ls ps = true then (mostTo ls ps (1 <<< ps.length) : Int) else -1
def lackTo (ls : List RPlayer) (ps : List Int) : Nat → Int
  | 0 => 0
  | s + 1 => if lackTo ls ps s < ((partOf ps s).length : Int) - handsFor ls (partOf ps s) then ((partOf ps s).length : Int) - handsFor ls (partOf ps s) else lackTo ls ps s
theorem lack_small (ls : List RPlayer) (ps : List Int) : ∀ s, 0 ≤ lackTo ls ps s ∧ lackTo ls ps s ≤ (ps.length : Int) + 1 := by
  intro s
  induction s with
  | zero => rw [lackTo]; omega
  | succ s ih =>
    have a := partOf_len ps s
    have b := handsFor_small ls (partOf ps s)
    rw [lackTo]
    split <;> omega
def lackOf (ls : List RPlayer) (ps : List Int) : Int := if proofOk ls ps = true then lackTo ls ps (1 <<< ps.length) else -1
theorem proof_len {ls : List RPlayer} {ps : List Int} (h : proofOk ls ps = true) : ps.length ≤ 7 := by
  unfold proofOk at h
  rw [Bool.and_eq_true] at h
  exact rising_seven h.2
theorem pow_small {n : Nat} (h : n ≤ 7) : 1 ≤ 1 <<< n ∧ 1 <<< n ≤ 128 := by
  rw [Nat.shiftLeft_eq, Nat.one_mul]
  exact ⟨Nat.one_le_two_pow, Nat.pow_le_pow_right (by omega) (show n ≤ 7 from h)⟩
theorem shortSet_len (ls : List RPlayer) (ps : List Int) : (castR (shortSet ls ps)).1.length ≤ 7 := by
  unfold shortSet
  split
  · next h =>
    have h7 := proof_len h
    cases c : firstOf (shortAt ls ps) (1 <<< ps.length) with
    | none => show ([] : List Int).length ≤ 7; simp
    | some x =>
      obtain ⟨s, _, e⟩ := first_has _ c
      unfold shortAt at e
      split at e
      · rw [← Option.some.inj e]
        have := partOf_len ps s
        show (partOf ps s).length ≤ 7
        omega
      · cases e
  · show ([] : List Int).length ≤ 7; simp
end Go.Proofs.Ytanlfkkmnnjpeaa
