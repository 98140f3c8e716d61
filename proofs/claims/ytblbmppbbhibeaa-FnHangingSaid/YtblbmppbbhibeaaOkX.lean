/- What holds of a valid body's limbs, and their lengths together, as plain mathematics. -/
import Derived.Test.YtblbmppbbhibeaaReachM
namespace Go.Proofs.Ytblbmppbbhibeaa
set_option linter.unusedVariables false
set_option linter.unusedSimpArgs false

def hasB (J j : Int) : Bool := decide (0 ≤ j ∧ j < J)
theorem hasB_yes {J j : Int} (h : 0 ≤ j ∧ j < J) : hasB J j = true := decide_eq_true h
theorem hasB_no {J j : Int} (h : ¬ (0 ≤ j ∧ j < J)) : hasB J j = false := decide_eq_false h

theorem run_fits {J : Int} {ls : List Lb} {P Q : List Int} (h : joinRun J ls P = some Q) : Fits J ls := by
  induction ls generalizing P with
  | nil => intro l hl; cases hl
  | cons x ls ih =>
    have hr : joinRun J (x :: ls) P = (joinStep J P x).bind (joinRun J ls) := rfl
    rw [hr] at h
    cases hs : joinStep J P x with
    | none => rw [hs] at h; cases h
    | some P' =>
      rw [hs] at h
      intro l hl
      rcases List.mem_cons.1 hl with rfl | hl
      · unfold joinStep at hs
        split at hs
        · rename_i hc
          split at hs
          · cases hs
          · rename_i hne
            exact ⟨hc.1, hc.2.1, fun e => hne (by rw [e]), hc.2.2⟩
        · cases hs
      · exact ih h l hl

def sumTo (ls : List Lb) : Nat → Int
  | 0 => 0
  | k + 1 => sumTo ls k + (limbAt ls k).n
theorem sumTo_succ {ls : List Lb} {k : Nat} (h : k < ls.length) : sumTo ls (k + 1) = sumTo ls k + ls[k].n := by
  show sumTo ls k + (limbAt ls k).n = _
  rw [limbAt_lt h]
theorem sumTo_bd {J : Int} {ls : List Lb} (hf : Fits J ls) {k : Nat} (hk : k ≤ ls.length) : 0 ≤ sumTo ls k ∧ sumTo ls k ≤ 100 * (k : Int) := by
  induction k with
  | zero => exact ⟨by simp [sumTo], by simp [sumTo]⟩
  | succ k ih =>
    have h := ih (by omega)
    rw [sumTo_succ (by omega)]
    have := (hf ls[k] (List.getElem_mem _)).2.2.2
    omega
def lengthOf (J : Int) (ls : List Lb) : Int := if bodyOk J ls = true then sumTo ls ls.length else -1
theorem ok_fits {J : Int} {ls : List Lb} (h : bodyOk J ls = true) : Fits J ls := by
  obtain ⟨_, _, P, hP⟩ := bodyOk_true h
  exact run_fits hP
theorem ok_len {J : Int} {ls : List Lb} (h : bodyOk J ls = true) : ls.length ≤ 11 ∧ (ls.length : Int) = J - 1 ∧ 1 ≤ J ∧ J ≤ 12 := by
  obtain ⟨h1, h2, _⟩ := bodyOk_true h
  omega
end Go.Proofs.Ytblbmppbbhibeaa
