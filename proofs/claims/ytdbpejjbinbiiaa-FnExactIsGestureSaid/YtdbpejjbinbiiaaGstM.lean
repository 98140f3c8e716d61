/- What IsGesture answers, as plain mathematics. -/
import Derived.Test.YtdbpejjbinbiiaaPullM
import Derived.Test.YtdbpejjbinbiiaaGesM
namespace Go.Proofs.Ytdbpejjbinbiiaa
set_option linter.unusedVariables false
set_option linter.unusedSimpArgs false

/-- Pose k is a pose, and the step to it is not too great. -/
def gestAt (J : Int) (ls : List Lb) (pss : List (List Int)) (most : Int) (k : Nat) : Bool := poseOk J ls (pss.getD k []) && (decide (k = 0) || !decide (most < stepSize (pss.getD (k - 1) []) (pss.getD k [])))
def gestTo (J : Int) (ls : List Lb) (pss : List (List Int)) (most : Int) : Nat → Bool
  | 0 => true
  | k + 1 => gestTo J ls pss most k && gestAt J ls pss most k
def isGest (J : Int) (ls : List Lb) (pss : List (List Int)) (most : Int) : Bool := inB pss.length 1 20 && (inB most 0 4000 && gestTo J ls pss most pss.length)
theorem getR_of {pss : List (List Int)} {k : Nat} (h : k < pss.length) : pss.getD k [] = pss[k] := by
  rw [List.getD_eq_getElem?_getD, List.getElem?_eq_getElem h]
  rfl
section
variable {J : Int} {ls : List Lb} {pss : List (List Int)} {most : Int} {k : Nat}
theorem gest_first (h : 0 < pss.length) : gestAt J ls pss most 0 = poseOk J ls pss[0] := by
  unfold gestAt
  rw [getR_of h]
  simp
theorem gest_next (h : k + 1 < pss.length) : gestAt J ls pss most (k + 1) = (poseOk J ls pss[k + 1] && !decide (most < stepSize pss[k] pss[k + 1])) := by
  unfold gestAt
  rw [getR_of h, show k + 1 - 1 = k by omega, getR_of (show k < pss.length by omega)]
  simp
theorem gest_bad (h : k < pss.length) (hp : poseOk J ls pss[k] = false) : gestAt J ls pss most k = false := by
  unfold gestAt
  rw [getR_of h, hp]
  rfl
theorem gest_le {n : Nat} (h : k ≤ n) (hf : gestTo J ls pss most k = false) : gestTo J ls pss most n = false := by
  induction n with
  | zero => rwa [Nat.le_zero.1 h] at hf
  | succ n ih =>
    rcases Nat.lt_or_ge k (n + 1) with c | c
    · rw [gestTo, ih (by omega)]; rfl
    · rwa [show k = n + 1 by omega] at hf
theorem gest_no (h : k < pss.length) (hf : gestAt J ls pss most k = false) : isGest J ls pss most = false := by
  unfold isGest
  rw [gest_le (k := k + 1) h (by rw [gestTo, hf, Bool.and_false])]
  simp
end
end Go.Proofs.Ytdbpejjbinbiiaa
