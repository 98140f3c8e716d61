/- One limb more, as plain mathematics. -/
import Derived.Test.YtblbmppbbhibeaaOkX
namespace Go.Proofs.Ytblbmppbbhibeaa
set_option linter.unusedVariables false
set_option linter.unusedSimpArgs false

def more (J j n : Int) (ls : List Lb) : List Lb := ls ++ [⟨j, J, n⟩]
def addOk (J j n : Int) (ls : List Lb) : Bool := bodyOk J ls && (hasB J j && bodyOk (J + 1) (more J j n ls))
def addJ (J j n : Int) (ls : List Lb) : Int := if addOk J j n ls = true then J + 1 else J
def addL (J j n : Int) (ls : List Lb) : List Lb := if addOk J j n ls = true then more J j n ls else ls
theorem addOk_no {J j n : Int} {ls : List Lb} (h : ¬ (bodyOk J ls = true ∧ hasB J j = true)) : addOk J j n ls = false := by
  unfold addOk
  cases h1 : bodyOk J ls with
  | false => rfl
  | true =>
    cases h2 : hasB J j with
    | false => rfl
    | true => exact absurd ⟨h1, h2⟩ h
theorem ok_parts {m : Nat} {ls : List Lb} (h : bodyOk m ls = true) : Fits m ls ∧ ls.length + 1 = m ∧ m ≤ 12 ∧ (joinRun m ls (apart m)).isSome = true := by
  obtain ⟨h1, h2, P, hP⟩ := bodyOk_true h
  rw [Int.toNat_natCast] at hP
  exact ⟨ok_fits h, by omega, by omega, by rw [hP]; rfl⟩
/-- One limb more keeps a body valid, as long as there may be one joint more. -/
theorem more_ok {m j : Nat} {n : Int} {ls : List Lb} (h : bodyOk m ls = true) (hj : j < m) (hm : m < 12) (hn : 1 ≤ n ∧ n ≤ 100) : bodyOk ((m : Int) + 1) (more m j n ls) = true := by
  obtain ⟨hf, hl, _, hr⟩ := ok_parts h
  have hmore : more (m : Int) (j : Int) n ls = ls ++ [⟨(j : Int), (m : Int), n⟩] := rfl
  have hF : Fits ((m + 1 : Nat) : Int) (more m j n ls) := by
    intro l hl'
    rw [hmore] at hl'
    rcases List.mem_append.1 hl' with hl' | hl'
    · obtain ⟨h1, h2, h3, h4⟩ := hf l hl'
      exact ⟨by omega, by omega, h3, h4⟩
    · obtain rfl := List.mem_singleton.1 hl'
      exact ⟨⟨by show (0 : Int) ≤ (j : Int); omega, by show (j : Int) ≤ _; omega⟩, ⟨by show (0 : Int) ≤ (m : Int); omega, by show (m : Int) ≤ _; omega⟩, by show (j : Int) ≠ (m : Int); omega, hn⟩
  have hL : (more (m : Int) (j : Int) n ls).length + 1 = m + 1 := by rw [hmore, List.length_append, List.length_singleton]; omega
  have hR : (joinRun ((m + 1 : Nat) : Int) (more m j n ls) (apart (m + 1))).isSome = true := by
    cases hs : (joinRun ((m + 1 : Nat) : Int) (more m j n ls) (apart (m + 1))).isSome with
    | true => rfl
    | false =>
      exfalso
      obtain ⟨f, hs', k, hk, hne⟩ := unjoined hF hL hs
      have hsame := joined_same hf hl hr f (fun l hl' => hs' l (by rw [hmore]; exact List.mem_append_left _ hl'))
      have hlast := hs' ⟨(j : Int), (m : Int), n⟩ (by rw [hmore]; exact List.mem_append_right _ (List.mem_singleton.2 rfl))
      rw [Int.toNat_natCast, Int.toNat_natCast] at hlast
      by_cases e : k < m
      · exact hne (hsame k 0 e (by omega))
      · obtain rfl : k = m := by omega
        exact hne (by rw [← hlast]; exact hsame j 0 hj (by omega))
  have e1 : ((m : Int) + 1) = ((m + 1 : Nat) : Int) := by omega
  rw [e1, bodyOk_run (by omega) (by omega), Int.toNat_natCast]
  exact hR
theorem add_ok {m j : Nat} {n : Int} {ls : List Lb} (h : bodyOk m ls = true) (hj : j < m) (hn : 1 ≤ n ∧ n ≤ 100) : addOk m j n ls = decide ((m : Int) < 12) := by
  have hh : hasB (m : Int) (j : Int) = true := hasB_yes ⟨by omega, by omega⟩
  unfold addOk
  rw [h, hh, Bool.true_and, Bool.true_and]
  by_cases hm : m < 12
  · rw [more_ok h hj hm hn, decide_eq_true (by omega)]
  · rw [bodyOk_range (by omega), decide_eq_false (by omega)]
/-- What AddLimb returns for a valid body is a valid body. -/
theorem add_valid {J j n : Int} {ls : List Lb} (h : bodyOk J ls = true) : bodyOk (addJ J j n ls) (addL J j n ls) = true := by
  unfold addJ addL
  cases ho : addOk J j n ls with
  | false => simpa using h
  | true =>
    simp only [if_true]
    unfold addOk at ho
    simp only [Bool.and_eq_true] at ho
    exact ho.2.2
theorem sum_more {J j n : Int} {ls : List Lb} : sumTo (more J j n ls) (more J j n ls).length = sumTo ls ls.length + n := by
  have e : ∀ k, k ≤ ls.length → sumTo (more J j n ls) k = sumTo ls k := by
    intro k
    induction k with
    | zero => intro _; rfl
    | succ k ih =>
      intro hk
      rw [sumTo_succ (ls := ls) (by omega), sumTo_succ (by simp [more]; omega), ih (by omega)]
      simp [more, List.getElem_append_left (show k < ls.length by omega)]
  have hl : (more J j n ls).length = ls.length + 1 := by simp [more]
  rw [hl, sumTo_succ (by omega), e _ (Nat.le_refl _)]
  simp [more]
theorem length_more {m j : Nat} {n : Int} {ls : List Lb} (h : bodyOk m ls = true) (ho : addOk m j n ls = true) : lengthOf (addJ m j n ls) (addL m j n ls) = lengthOf m ls + n := by
  have h2 := add_valid (j := j) (n := n) h
  unfold lengthOf
  rw [if_pos h, if_pos h2]
  unfold addL
  rw [if_pos ho, sum_more]
theorem sum_least {J : Int} {ls : List Lb} (hf : Fits J ls) {k : Nat} (hk : k ≤ ls.length) : (k : Int) ≤ sumTo ls k := by
  induction k with
  | zero => simp [sumTo]
  | succ k ih =>
    have := ih (by omega)
    rw [sumTo_succ (by omega)]
    have := (hf ls[k] (List.getElem_mem _)).2.2.2
    omega
theorem length_least {m : Nat} {ls : List Lb} (h : bodyOk m ls = true) : (m : Int) - 1 ≤ lengthOf m ls ∧ lengthOf m ls ≤ 1100 := by
  obtain ⟨hf, hl, hm, _⟩ := ok_parts h
  have h1 := sum_least hf (Nat.le_refl _)
  have h2 := (sumTo_bd hf (Nat.le_refl _)).2
  unfold lengthOf
  rw [if_pos h]
  omega
theorem one_ok : bodyOk 1 [] = true := by decide
end Go.Proofs.Ytblbmppbbhibeaa
