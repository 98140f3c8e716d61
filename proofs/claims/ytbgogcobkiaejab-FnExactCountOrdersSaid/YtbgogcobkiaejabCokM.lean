/- CircleIn, CuesOk, WaitsFor and FreeCues as mathematics. No condition. -/
import Derived.Test.YtbgogcobkiaejabCwaM
import Derived.Test.YtbgogcobkiaejabCueL
import Derived.Test.YtbgogcobkiaejabRisM
namespace Go.Proofs.Ytbgogcobkiaejab
set_option linter.unusedVariables false
set_option linter.unusedSimpArgs false
open Go.RowKit

def circTo (ls : List RCue) : Nat → List Int
  | 0 => []
  | k + 1 => if ((waitSet ls).getD k 0).testBit k = true then circTo ls k ++ [(k : Int)] else circTo ls k
theorem circTo_len (ls : List RCue) (k : Nat) : (circTo ls k).length ≤ k := by
  induction k with
  | zero => exact Nat.le_refl _
  | succ k ih =>
    unfold circTo
    split
    · simp only [List.length_append, List.length_cons, List.length_nil]; omega
    · omega
def circleIn (ls : List RCue) : List Int := if ls.length ≤ 12 then circTo ls ls.length else []
theorem circleIn_len12 (ls : List RCue) : (circleIn ls).length ≤ 12 := by
  unfold circleIn
  split
  · have := circTo_len ls ls.length; omega
  · simp
theorem circleIn_len (ls : List RCue) : (circleIn ls).length ≤ 2000000 := by have := circleIn_len12 ls; omega
def cueFine (n : Nat) (l : RCue) : Bool := inB l.f0 1 50 && (rising l.f1 ((n : Int) - 1) && rising l.f2 6)
def cuesOk (ls : List RCue) : Bool := inB (ls.length : Int) 1 12 && (ls.all (cueFine ls.length) && decide ((circleIn ls).length = 0))
theorem cuesOk_no {ls : List RCue} (h : inB (ls.length : Int) 1 12 = false) : cuesOk ls = false := by unfold cuesOk; rw [h]; rfl
theorem cuesOk_bad {ls : List RCue} {k : Nat} (hk : k < ls.length) (h : cueFine ls.length ls[k] = false) : cuesOk ls = false := by
  unfold cuesOk
  rw [List.all_eq_false.2 ⟨ls[k], List.getElem_mem hk, by rw [h]; simp⟩]
  simp
theorem cuesOk_all {ls : List RCue} (h : inB (ls.length : Int) 1 12 = true) (ha : ∀ k (hk : k < ls.length), cueFine ls.length ls[k] = true) : cuesOk ls = decide ((circleIn ls).length = 0) := by
  unfold cuesOk
  rw [h, List.all_eq_true.2 fun l hl => by obtain ⟨k, hk, rfl⟩ := List.mem_iff_getElem.1 hl; exact ha k hk]
  simp
theorem cuesOk_has {ls : List RCue} (h : cuesOk ls = true) : (1 ≤ ls.length ∧ ls.length ≤ 12) ∧ (∀ k (hk : k < ls.length), cueFine ls.length ls[k] = true) ∧ circleIn ls = [] := by
  unfold cuesOk at h
  simp only [Bool.and_eq_true, decide_eq_true_eq, List.all_eq_true] at h
  obtain ⟨h1, h2, h3⟩ := h
  have h1' : 1 ≤ (ls.length : Int) ∧ (ls.length : Int) ≤ 12 := by simpa [inB] using h1
  exact ⟨by omega, fun k hk => h2 _ (List.getElem_mem hk), List.eq_nil_of_length_eq_zero h3⟩
def waitsFor (ls : List RCue) (i k : Int) : Bool := cuesOk ls && (inB i 0 ((ls.length : Int) - 1) && (inB k 0 ((ls.length : Int) - 1) && ((waitSet ls).getD i.toNat 0).testBit k.toNat))
def freeTo (ls : List RCue) : Nat → List Int
  | 0 => []
  | k + 1 => if (ls.getD k RCue.zero).f1.length = 0 then freeTo ls k ++ [(k : Int)] else freeTo ls k
theorem freeTo_len (ls : List RCue) (k : Nat) : (freeTo ls k).length ≤ k := by
  induction k with
  | zero => exact Nat.le_refl _
  | succ k ih =>
    unfold freeTo
    split
    · simp only [List.length_append, List.length_cons, List.length_nil]; omega
    · omega
def freeCues (ls : List RCue) : List Int := if cuesOk ls = true then freeTo ls ls.length else []
theorem freeCues_len (ls : List RCue) : (freeCues ls).length ≤ 2000000 := by
  unfold freeCues
  split
  · next h => have := (cuesOk_has h).1; have := freeTo_len ls ls.length; omega
  · simp
end Go.Proofs.Ytbgogcobkiaejab
