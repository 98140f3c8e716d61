/- What a valid body is like, as plain mathematics: its limbs counted joint by joint, its ends, one limb more. Condition: the body is valid. -/
import Derived.Test.YtgmcinnajhbgfaaAddW
import Derived.Test.YtgmcinnajhbgfaaEndsW
namespace Go.Proofs.Ytgmcinnajhbgfaa
open Go.RowKit

theorem incs_touch {ls : List Lb} {i t k : Nat} (ht : t < k) (h : (limbAt ls t).a = (i : Int) ∨ (limbAt ls t).b = (i : Int)) : (t : Int) ∈ incs ls i k := by
  induction k with
  | zero => omega
  | succ k ih =>
    rw [incs_succ]
    by_cases e : t = k
    · subst e
      rw [if_pos h]
      exact List.mem_append_right _ (List.mem_singleton.2 rfl)
    · exact List.mem_append_left _ (ih (by omega))
/-- A joint's number of limbs. -/
def deg (ls : List Lb) (i : Nat) : Nat := (incs ls i ls.length).length
def touch (ls : List Lb) (k i : Nat) : Bool := decide ((limbAt ls k).a = (i : Int) ∨ (limbAt ls k).b = (i : Int))
theorem incs_len_succ (ls : List Lb) (i k : Nat) : (incs ls i (k + 1)).length = (incs ls i k).length + if touch ls k i = true then 1 else 0 := by
  rw [incs_succ, List.length_append]
  unfold touch
  by_cases h : (limbAt ls k).a = (i : Int) ∨ (limbAt ls k).b = (i : Int)
  · rw [if_pos h, if_pos (decide_eq_true h)]
    rfl
  · rw [if_neg h, if_neg (by simpa using h)]
    rfl
/-- The limbs of the first m joints, by the first k limbs. -/
def degs (ls : List Lb) (k : Nat) : Nat → Nat
  | 0 => 0
  | i + 1 => degs ls k i + (incs ls i k).length
theorem degs_succ (ls : List Lb) (k m : Nat) : degs ls (k + 1) m = degs ls k m + held (touch ls k) m := by
  induction m with
  | zero => rfl
  | succ m ih =>
    show degs ls (k + 1) m + (incs ls m (k + 1)).length = (degs ls k m + (incs ls m k).length) + held (touch ls k) (m + 1)
    rw [ih, incs_len_succ, held_succ]
    omega
theorem degs_zero (ls : List Lb) (m : Nat) : degs ls 0 m = 0 := by
  induction m with
  | zero => rfl
  | succ m ih => show degs ls 0 m + (incs ls m 0).length = 0; rw [ih]; rfl
theorem touch_two {m : Nat} {ls : List Lb} (hf : Fits m ls) {k : Nat} (hk : k < ls.length) : held (touch ls k) m = 2 := by
  obtain ⟨⟨a0, a1⟩, ⟨b0, b1⟩, hne, _⟩ := hf ls[k] (List.getElem_mem hk)
  obtain ⟨p, hp⟩ := Int.eq_ofNat_of_zero_le a0
  obtain ⟨q, hq⟩ := Int.eq_ofNat_of_zero_le b0
  have h0 : held (fun _ => false) m = 0 := by unfold held; simp
  have h1 := held_more (p := fun _ => false) (q := fun x => decide (x = p)) (m := m) (i := p) (by omega) rfl (by simp) (fun y _ hy => by simp [hy])
  have h2 := held_more (p := fun x => decide (x = p)) (q := touch ls k) (m := m) (i := q) (by omega) (by simp; omega) (by unfold touch; rw [limbAt_lt hk, decide_eq_true_iff]; exact .inr hq)
    (fun y _ hy => by
      unfold touch
      rw [limbAt_lt hk, hp, hq, Bool.eq_iff_iff, decide_eq_true_iff, decide_eq_true_iff]
      omega)
  omega
/-- Each limb has two ends. -/
theorem degs_all {m : Nat} {ls : List Lb} (hf : Fits m ls) {k : Nat} (hk : k ≤ ls.length) : degs ls k m = 2 * k := by
  induction k with
  | zero => exact degs_zero ls m
  | succ k ih => rw [degs_succ, ih (by omega), touch_two hf (by omega)]; omega

theorem ok_parts {m : Nat} {ls : List Lb} (h : bodyOk m ls = true) : Fits m ls ∧ ls.length + 1 = m ∧ m ≤ 12 ∧ (joinRun m ls (apart m)).isSome = true := by
  obtain ⟨h1, h2, P, hP⟩ := bodyOk_true h
  rw [Int.toNat_natCast] at hP
  exact ⟨ok_fits h, by omega, by omega, by rw [hP]; rfl⟩
/-- Where there are two joints, each has its limb. -/
theorem deg_pos {m : Nat} {ls : List Lb} (h : bodyOk m ls = true) (hm : 2 ≤ m) {j : Nat} (hj : j < m) : 1 ≤ deg ls j := by
  obtain ⟨hf, hl, _, hr⟩ := ok_parts h
  refine Classical.byContradiction fun hd => ?_
  have h0 : incs ls j ls.length = [] := List.eq_nil_of_length_eq_zero (by unfold deg at hd; omega)
  have key : ∀ l ∈ ls, decide (l.a.toNat = j) = decide (l.b.toNat = j) := by
    intro l hl'
    obtain ⟨⟨a0, _⟩, ⟨b0, _⟩, _, _⟩ := hf l hl'
    obtain ⟨t, ht, rfl⟩ := List.mem_iff_getElem.1 hl'
    have no : ¬ (ls[t].a = (j : Int) ∨ ls[t].b = (j : Int)) := fun x => by
      have := incs_touch (i := j) ht (by rw [limbAt_lt ht]; exact x)
      rw [h0] at this
      cases this
    rw [decide_eq_false (by omega), decide_eq_false (by omega)]
  obtain ⟨i, hi, hne⟩ : ∃ i, i < m ∧ i ≠ j := by
    by_cases e : j = 0
    · exact ⟨1, by omega, by omega⟩
    · exact ⟨0, by omega, by omega⟩
  have := joined_same hf hl hr (fun x => decide (x = j)) key i j hi hj
  simp [hne] at this
def endB (ls : List Lb) (i : Nat) : Bool := decide (deg ls i ≤ 1)
theorem ends_count (ls : List Lb) (m : Nat) : (endsTo ls m).length = held (endB ls) m := by
  induction m with
  | zero => rfl
  | succ m ih =>
    rw [endsTo_succ, held_succ, List.length_append, ih]
    unfold endB deg
    by_cases h : (incs ls m ls.length).length ≤ 1
    · rw [if_pos h, if_pos (decide_eq_true h)]
      rfl
    · rw [if_neg h, if_neg (by simpa using h)]
      rfl
theorem ends_mem (ls : List Lb) (m j : Nat) (hj : j < m) : (j : Int) ∈ endsTo ls m ↔ deg ls j ≤ 1 := by
  have small : ∀ n : Nat, n ≤ j → ¬ (j : Int) ∈ endsTo ls n := by
    intro n
    induction n with
    | zero => intro _ h; cases h
    | succ n ih =>
      intro hn h
      rw [endsTo_succ] at h
      rcases List.mem_append.1 h with h | h
      · exact ih (by omega) h
      · split at h
        · have := List.mem_singleton.1 h
          omega
        · cases h
  induction m with
  | zero => omega
  | succ m ih =>
    rw [endsTo_succ, List.mem_append]
    by_cases e : j = m
    · subst e
      have := small j (Nat.le_refl _)
      unfold deg
      by_cases h : (incs ls j ls.length).length ≤ 1
      · rw [if_pos h]
        exact ⟨fun _ => h, fun _ => .inr (List.mem_singleton.2 rfl)⟩
      · rw [if_neg h]
        exact ⟨fun x => (by rcases x with x | x; exact absurd x this; cases x), fun x => absurd x h⟩
    · have ih' := ih (by omega)
      refine ⟨fun x => ?_, fun x => .inl (ih'.2 x)⟩
      rcases x with x | x
      · exact ih'.1 x
      · split at x
        · have := List.mem_singleton.1 x
          omega
        · cases x
/-- A body has two ends, or one joint. -/
theorem ends_least {m : Nat} {ls : List Lb} (h : bodyOk m ls = true) : min 2 m ≤ (endsTo ls m).length := by
  obtain ⟨hf, hl, _, _⟩ := ok_parts h
  rw [ends_count]
  by_cases hm : 2 ≤ m
  · have hall : ∀ i, i ≤ m → 2 * i ≤ degs ls ls.length i + held (endB ls) i := by
      intro i
      induction i with
      | zero => intro _; simp
      | succ i ih =>
        intro hi
        have := ih (by omega)
        have hp := deg_pos h hm (j := i) (by omega)
        show 2 * (i + 1) ≤ (degs ls ls.length i + (incs ls i ls.length).length) + held (endB ls) (i + 1)
        rw [held_succ]
        unfold deg at hp
        by_cases h1 : (incs ls i ls.length).length ≤ 1
        · rw [if_pos (show endB ls i = true from decide_eq_true h1)]
          omega
        · omega
    have := hall m (Nat.le_refl _)
    rw [degs_all hf (Nat.le_refl _)] at this
    omega
  · have h1 : m = 1 := by omega
    subst h1
    obtain rfl : ls = [] := List.eq_nil_of_length_eq_zero (by omega)
    decide

/-- One limb more keeps a body valid, as long as there may be one joint more. -/
theorem more_ok {m j : Nat} {n : Int} {ls : List Lb} (h : bodyOk m ls = true) (hj : j < m) (hm : m < 12) (hn : 1 ≤ n ∧ n ≤ 100) : bodyOk ((m : Int) + 1) (more m j n ls) = true := by
  obtain ⟨hf, hl, _, hr⟩ := ok_parts h
  have hmore : more (m : Int) (j : Int) n ls = ls ++ [⟨(j : Int), (m : Int), n⟩] := rfl
  have hF : Fits ((m + 1 : Nat) : Int) (more m j n ls) := by
    intro l hl'
    rw [hmore] at hl'
    rcases List.mem_append.1 hl' with hl' | hl'
    · obtain ⟨h1, h2, h3, h4⟩ := hf l hl'
      exact ⟨by omega, by omega, h3, h4⟩
    · obtain rfl := List.mem_singleton.1 hl'
      exact ⟨⟨by show (0 : Int) ≤ (j : Int); omega, by show (j : Int) ≤ _; omega⟩, ⟨by show (0 : Int) ≤ (m : Int); omega, by show (m : Int) ≤ _; omega⟩, by show (j : Int) ≠ (m : Int); omega, hn⟩
  have hL : (more (m : Int) (j : Int) n ls).length + 1 = m + 1 := by rw [hmore, List.length_append, List.length_singleton]; omega
  have hR : (joinRun ((m + 1 : Nat) : Int) (more m j n ls) (apart (m + 1))).isSome = true := by
    cases hs : (joinRun ((m + 1 : Nat) : Int) (more m j n ls) (apart (m + 1))).isSome with
    | true => rfl
    | false =>
      exfalso
      obtain ⟨f, hs', k, hk, hne⟩ := unjoined hF hL hs
      have hsame := joined_same hf hl hr f (fun l hl' => hs' l (by rw [hmore]; exact List.mem_append_left _ hl'))
      have hlast := hs' ⟨(j : Int), (m : Int), n⟩ (by rw [hmore]; exact List.mem_append_right _ (List.mem_singleton.2 rfl))
      rw [Int.toNat_natCast, Int.toNat_natCast] at hlast
      by_cases e : k < m
      · exact hne (hsame k 0 e (by omega))
      · obtain rfl : k = m := by omega
        exact hne (by rw [← hlast]; exact hsame j 0 hj (by omega))
  have e1 : ((m : Int) + 1) = ((m + 1 : Nat) : Int) := by omega
  rw [e1, bodyOk_run (by omega) (by omega), Int.toNat_natCast]
  exact hR
theorem add_ok {m j : Nat} {n : Int} {ls : List Lb} (h : bodyOk m ls = true) (hj : j < m) (hn : 1 ≤ n ∧ n ≤ 100) : addOk m j n ls = decide ((m : Int) < 12) := by
  have hh : hasB (m : Int) (j : Int) = true := hasB_yes ⟨by omega, by omega⟩
  unfold addOk
  rw [h, hh, Bool.true_and, Bool.true_and]
  by_cases hm : m < 12
  · rw [more_ok h hj hm hn, decide_eq_true (by omega)]
  · rw [bodyOk_range (by omega), decide_eq_false (by omega)]
/-- What AddLimb returns for a valid body is a valid body. -/
theorem add_valid {J j n : Int} {ls : List Lb} (h : bodyOk J ls = true) : bodyOk (addJ J j n ls) (addL J j n ls) = true := by
  unfold addJ addL
  cases ho : addOk J j n ls with
  | false => simpa using h
  | true =>
    simp only [if_true]
    unfold addOk at ho
    simp only [Bool.and_eq_true] at ho
    exact ho.2.2
theorem sum_more {J j n : Int} {ls : List Lb} : sumTo (more J j n ls) (more J j n ls).length = sumTo ls ls.length + n := by
  have e : ∀ k, k ≤ ls.length → sumTo (more J j n ls) k = sumTo ls k := by
    intro k
    induction k with
    | zero => intro _; rfl
    | succ k ih =>
      intro hk
      rw [sumTo_succ (ls := ls) (by omega), sumTo_succ (by simp [more]; omega), ih (by omega)]
      simp [more, List.getElem_append_left (show k < ls.length by omega)]
  have hl : (more J j n ls).length = ls.length + 1 := by simp [more]
  rw [hl, sumTo_succ (by omega), e _ (Nat.le_refl _)]
  simp [more]
theorem length_more {m j : Nat} {n : Int} {ls : List Lb} (h : bodyOk m ls = true) (ho : addOk m j n ls = true) : lengthOf (addJ m j n ls) (addL m j n ls) = lengthOf m ls + n := by
  have h2 := add_valid (j := j) (n := n) h
  unfold lengthOf
  rw [if_pos h, if_pos h2]
  unfold addL
  rw [if_pos ho, sum_more]
theorem sum_least {J : Int} {ls : List Lb} (hf : Fits J ls) {k : Nat} (hk : k ≤ ls.length) : (k : Int) ≤ sumTo ls k := by
  induction k with
  | zero => simp [sumTo]
  | succ k ih =>
    have := ih (by omega)
    rw [sumTo_succ (by omega)]
    have := (hf ls[k] (List.getElem_mem _)).2.2.2
    omega
theorem length_least {m : Nat} {ls : List Lb} (h : bodyOk m ls = true) : (m : Int) - 1 ≤ lengthOf m ls ∧ lengthOf m ls ≤ 1100 := by
  obtain ⟨hf, hl, hm, _⟩ := ok_parts h
  have h1 := sum_least hf (Nat.le_refl _)
  have h2 := (sumTo_bd hf (Nat.le_refl _)).2
  unfold lengthOf
  rw [if_pos h]
  omega
theorem one_ok : bodyOk 1 [] = true := by decide
theorem sample_ok : bodyOk 7 sampleL = true := by decide
end Go.Proofs.Ytgmcinnajhbgfaa
