/- Texts of this seat laid together, each with its own first sentence below: TixM LowM SlcMax TieM. -/
import Derived.Test.YtbgogcobkiaejacPk3
import Derived.Test.YtbgogcobkiaejacPk4
import Derived.Test.YtbgogcobkiaejacPk5
import Derived.Test.YtbgogcobkiaejacPk1
/- What FnTimes asks: the earliest starts are the least, the latest the greatest; a simple plan has no clashes. No condition. -/
namespace Go.Proofs.Ytbgogcobkiaejac
set_option linter.unusedVariables false
set_option linter.unusedSimpArgs false
open Go.RowKit

/-- The j-th cue that cue k names. -/
def nm (ls : List RCue) (k j : Nat) : Nat := ((ls.getD k RCue.zero).f1.getD j 0).toNat
def tk (ls : List RCue) (k : Nat) : Int := (ls.getD k RCue.zero).f0
def nn (ls : List RCue) (k : Nat) : Nat := (ls.getD k RCue.zero).f1.length
theorem set_same {r : List Int} {k : Nat} {x : Int} (h : k < r.length) : (r.set k x).getD k 0 = x := by rw [List.getD_eq_getElem?_getD, List.getElem?_set_self h]; rfl
theorem set_other {r : List Int} {k t : Nat} {x : Int} (h : k ≠ t) : (r.set k x).getD t 0 = r.getD t 0 := by rw [List.getD_eq_getElem?_getD, List.getElem?_set_ne h, ← List.getD_eq_getElem?_getD]
section
variable {ls : List RCue} {k : Nat} {arr : List Int}
theorem relax_other {t : Nat} (h : k ≠ t) : ∀ j, (relaxTo ls k arr j).getD t 0 = arr.getD t 0 := by
  intro j
  induction j with
  | zero => rfl
  | succ j ih => rw [relaxTo, set_other h, ih]
theorem relax_step (hk : k < arr.length) (j : Nat) (hj : nm ls k j ≠ k) : (relaxTo ls k arr (j + 1)).getD k 0 = if (relaxTo ls k arr j).getD k 0 < arr.getD (nm ls k j) 0 + tk ls (nm ls k j) then arr.getD (nm ls k j) 0 + tk ls (nm ls k j) else (relaxTo ls k arr j).getD k 0 := by
  have e := relax_other (ls := ls) (arr := arr) (k := k) (t := nm ls k j) (fun q => hj q.symm) j
  rw [relaxTo]
  try simp only
  rw [set_same (by rw [relax_len]; exact hk)]
  unfold nm tk at *
  rw [e]
theorem relax_up (hk : k < arr.length) (hn : ∀ j, j < nn ls k → nm ls k j ≠ k) : ∀ j, j ≤ nn ls k → arr.getD k 0 ≤ (relaxTo ls k arr j).getD k 0 ∧ (∀ i, i < j → arr.getD (nm ls k i) 0 + tk ls (nm ls k i) ≤ (relaxTo ls k arr j).getD k 0) ∧
    ((relaxTo ls k arr j).getD k 0 = arr.getD k 0 ∨ ∃ i, i < j ∧ (relaxTo ls k arr j).getD k 0 = arr.getD (nm ls k i) 0 + tk ls (nm ls k i)) := by
  intro j
  induction j with
  | zero => intro _; exact ⟨Int.le_refl _, fun i hi => absurd hi (by omega), .inl rfl⟩
  | succ j ih =>
    intro hj
    obtain ⟨h1, h2, h3⟩ := ih (by omega)
    rw [relax_step hk j (hn j (by omega))]
    split
    · next c =>
      refine ⟨by omega, fun i hi => ?_, .inr ⟨j, by omega, rfl⟩⟩
      rcases (by omega : i < j ∨ i = j) with q | rfl
      · have := h2 i q; omega
      · exact Int.le_refl _
    · next c =>
      refine ⟨h1, fun i hi => ?_, ?_⟩
      · rcases (by omega : i < j ∨ i = j) with q | rfl
        · exact h2 i q
        · omega
      · rcases h3 with q | ⟨i, hi, q⟩
        · exact .inl q
        · exact .inr ⟨i, by omega, q⟩
theorem clear_other {t : Nat} (h : k ≠ t) : ∀ j, (clearTo ls k arr j).getD t 0 = arr.getD t 0 := by
  intro j
  induction j with
  | zero => rfl
  | succ j ih =>
    rw [clearTo]
    try simp only
    split
    · rw [set_other h, ih]
    · exact ih
end
section
variable {ls : List RCue} (hok : cuesOk ls = true)
include hok
theorem ord_getD {i : Nat} (hi : i < ls.length) : ((cueOrder ls).getD i 0).toNat = pk ls i := by
  rw [List.getD_eq_getElem?_getD, order_at hok hi]
  rfl
theorem pk_lt {i : Nat} (hi : i < ls.length) : pk ls i < ls.length := (pk_free hok hi).1
/-- What a cue names comes before it. -/
theorem name_before {q j : Nat} (hq : q < ls.length) (hj : j < nn ls (pk ls q)) : ∃ i, i < q ∧ pk ls i = nm ls (pk ls q) j ∧ nm ls (pk ls q) j < ls.length := by
  obtain ⟨p1, p2, p3⟩ := pk_free hok hq
  obtain ⟨q0, q1⟩ := (cue_fine hok p1).2 j hj
  have hl : nm ls (pk ls q) j < ls.length := by unfold nm; omega
  have e : ls.getD (pk ls q) RCue.zero = ls[pk ls q] := by rw [List.getD_eq_getElem?_getD, List.getElem?_eq_getElem p1]; rfl
  have hn : Names ls (pk ls q) (nm ls (pk ls q) j) := ⟨hl, p1, j, by unfold nn at hj; rwa [e] at hj, by unfold nm; rw [← e]; omega⟩
  unfold freeB at p3
  simp only [Bool.and_eq_true, decide_eq_true_eq] at p3
  have hb : (overAt ls q).testBit (nm ls (pk ls q) j) = true := by
    rw [← p3.2, Nat.testBit_or, (wait_bit ls p1).2 (.one hn)]
    rfl
  obtain ⟨i, hi, e2⟩ := (over_mem hok (by omega) _).1 hb
  exact ⟨i, hi, e2, hl⟩
theorem name_not {q j : Nat} (hq : q < ls.length) (hj : j < nn ls (pk ls q)) : nm ls (pk ls q) j ≠ pk ls q := by
  obtain ⟨i, hi, e, _⟩ := name_before hok hq hj
  rw [← e]
  exact pk_new hok hq hi
/-! The earliest starts. -/
theorem starts_step {q : Nat} (hq : q < ls.length) : startsTo ls (q + 1) = relaxTo ls (pk ls q) (startsTo ls q) (nn ls (pk ls q)) := by
  rw [startsTo]
  try simp only
  rw [ord_getD hok hq]
  rfl
theorem starts_keep {q : Nat} : ∀ i, q < i → i ≤ ls.length → (startsTo ls i).getD (pk ls q) 0 = (startsTo ls (q + 1)).getD (pk ls q) 0 := by
  intro i
  induction i with
  | zero => intro h; omega
  | succ i ih =>
    intro h1 h2
    by_cases c : q = i
    · subst c; rfl
    · rw [starts_step hok (q := i) (by omega), relax_other (pk_new hok (q := q) (m := i) (by omega) (by omega)).symm, ih (by omega) (by omega)]
theorem starts_blank {q : Nat} (hq : q < ls.length) : ∀ i, i ≤ q → (startsTo ls i).getD (pk ls q) 0 = 0 := by
  intro i
  induction i with
  | zero =>
    intro _
    rw [startsTo, List.getD_eq_getElem?_getD, List.getElem?_replicate]
    split <;> rfl
  | succ i ih =>
    intro h
    rw [starts_step hok (q := i) (by omega), relax_other (pk_new hok (q := i) (m := q) hq (by omega)), ih (by omega)]
theorem starts_fact {q : Nat} (hq : q < ls.length) : 0 ≤ (startsTo ls ls.length).getD (pk ls q) 0 ∧ (∀ j, j < nn ls (pk ls q) → (startsTo ls ls.length).getD (nm ls (pk ls q) j) 0 + tk ls (nm ls (pk ls q) j) ≤ (startsTo ls ls.length).getD (pk ls q) 0) ∧
    ((startsTo ls ls.length).getD (pk ls q) 0 = 0 ∨ ∃ j, j < nn ls (pk ls q) ∧ (startsTo ls ls.length).getD (pk ls q) 0 = (startsTo ls ls.length).getD (nm ls (pk ls q) j) 0 + tk ls (nm ls (pk ls q) j)) := by
  have hl := starts_len ls q
  have U := relax_up (ls := ls) (k := pk ls q) (arr := startsTo ls q) (by rw [hl]; exact pk_lt hok hq) (fun j hj => name_not hok hq hj) (nn ls (pk ls q)) (Nat.le_refl _)
  rw [← starts_step hok hq, ← starts_keep hok ls.length hq (Nat.le_refl _), starts_blank hok hq q (Nat.le_refl _)] at U
  have old : ∀ j, j < nn ls (pk ls q) → (startsTo ls q).getD (nm ls (pk ls q) j) 0 = (startsTo ls ls.length).getD (nm ls (pk ls q) j) 0 := by
    intro j hj
    obtain ⟨i, hi, e, _⟩ := name_before hok hq hj
    rw [← e, starts_keep hok q hi (by omega), starts_keep hok ls.length (by omega) (Nat.le_refl _)]
  obtain ⟨u1, u2, u3⟩ := U
  refine ⟨u1, fun j hj => by have := u2 j hj; rwa [old j hj] at this, ?_⟩
  rcases u3 with c | ⟨j, hj, c⟩
  · exact .inl c
  · exact .inr ⟨j, hj, by rwa [old j hj] at c⟩
/-- No plan begins a cue earlier. -/
theorem starts_least {P : List Int} (h0 : ∀ k, k < ls.length → 0 ≤ P.getD k 0) (h1 : ∀ k, k < ls.length → ∀ j, j < nn ls k → P.getD (nm ls k j) 0 + tk ls (nm ls k j) ≤ P.getD k 0) : ∀ q, q < ls.length → (startsTo ls ls.length).getD (pk ls q) 0 ≤ P.getD (pk ls q) 0 := by
  intro q
  induction q using Nat.strongRecOn with
  | _ q ih =>
    intro hq
    have hk := pk_lt hok hq
    rcases (starts_fact hok hq).2.2 with c | ⟨j, hj, c⟩
    · rw [c]; exact h0 _ hk
    · obtain ⟨i, hi, e, _⟩ := name_before hok hq hj
      have a := ih i hi (by omega)
      have b := h1 _ hk j hj
      rw [e] at a
      omega
/-! The plan of one cue after the other. -/
theorem clear_step {q : Nat} (hq : q < ls.length) {arr : List Int} (hl : arr.length = ls.length) {j : Nat} (hj : j < q) : (clearTo ls (pk ls q) arr (j + 1)).getD (pk ls q) 0 =
    if commonB (ls.getD (pk ls q) RCue.zero).f2 (ls.getD (pk ls j) RCue.zero).f2 = true ∧ (clearTo ls (pk ls q) arr j).getD (pk ls q) 0 < arr.getD (pk ls j) 0 + tk ls (pk ls j) then arr.getD (pk ls j) 0 + tk ls (pk ls j) else (clearTo ls (pk ls q) arr j).getD (pk ls q) 0 := by
  have hk := pk_lt hok hq
  have e := clear_other (ls := ls) (arr := arr) (k := pk ls q) (t := pk ls j) (pk_new hok hq hj).symm j
  rw [clearTo]
  try simp only
  rw [ord_getD hok (i := j) (by omega)]
  unfold tk
  by_cases c : commonB (ls.getD (pk ls q) RCue.zero).f2 (ls.getD (pk ls j) RCue.zero).f2 = true
  · rw [if_pos c, set_same (by rw [clear_len, hl]; exact hk), e]
    by_cases d : (clearTo ls (pk ls q) arr j).getD (pk ls q) 0 < arr.getD (pk ls j) 0 + (ls.getD (pk ls j) RCue.zero).f0
    · rw [if_pos d, if_pos ⟨c, d⟩]
    · rw [if_neg d, if_neg (fun x => d x.2)]
  · rw [if_neg c, if_neg (fun x => c x.1)]
theorem clear_up {q : Nat} (hq : q < ls.length) {arr : List Int} (hl : arr.length = ls.length) : ∀ j, j ≤ q → arr.getD (pk ls q) 0 ≤ (clearTo ls (pk ls q) arr j).getD (pk ls q) 0 ∧
    ∀ i, i < j → commonB (ls.getD (pk ls q) RCue.zero).f2 (ls.getD (pk ls i) RCue.zero).f2 = true → arr.getD (pk ls i) 0 + tk ls (pk ls i) ≤ (clearTo ls (pk ls q) arr j).getD (pk ls q) 0 := by
  intro j
  induction j with
  | zero => intro _; exact ⟨Int.le_refl _, fun i hi => absurd hi (by omega)⟩
  | succ j ih =>
    intro hj
    obtain ⟨h1, h2⟩ := ih (by omega)
    rw [clear_step hok hq hl hj]
    split
    · next c =>
      refine ⟨by omega, fun i hi hc => ?_⟩
      rcases (by omega : i < j ∨ i = j) with r | rfl
      · have := h2 i r hc; omega
      · exact Int.le_refl _
    · next c =>
      refine ⟨h1, fun i hi hc => ?_⟩
      rcases (by omega : i < j ∨ i = j) with r | rfl
      · exact h2 i r hc
      · have : ¬ (clearTo ls (pk ls q) arr i).getD (pk ls q) 0 < arr.getD (pk ls i) 0 + tk ls (pk ls i) := fun d => c ⟨hc, d⟩
        omega
theorem plan_step {q : Nat} (hq : q < ls.length) : planTo ls (q + 1) = clearTo ls (pk ls q) (relaxTo ls (pk ls q) (planTo ls q) (nn ls (pk ls q))) q := by
  rw [planTo]
  try simp only
  rw [ord_getD hok hq]
  rfl
theorem plan_keep {q : Nat} : ∀ i, q < i → i ≤ ls.length → (planTo ls i).getD (pk ls q) 0 = (planTo ls (q + 1)).getD (pk ls q) 0 := by
  intro i
  induction i with
  | zero => intro h; omega
  | succ i ih =>
    intro h1 h2
    by_cases c : q = i
    · subst c; rfl
    · rw [plan_step hok (q := i) (by omega), clear_other (pk_new hok (q := q) (m := i) (by omega) (by omega)).symm, relax_other (pk_new hok (q := q) (m := i) (by omega) (by omega)).symm, ih (by omega) (by omega)]
theorem plan_blank {q : Nat} (hq : q < ls.length) : ∀ i, i ≤ q → (planTo ls i).getD (pk ls q) 0 = 0 := by
  intro i
  induction i with
  | zero =>
    intro _
    rw [planTo, List.getD_eq_getElem?_getD, List.getElem?_replicate]
    split <;> rfl
  | succ i ih =>
    intro h
    rw [plan_step hok (q := i) (by omega), clear_other (pk_new hok (q := i) (m := q) hq (by omega)), relax_other (pk_new hok (q := i) (m := q) hq (by omega)), ih (by omega)]
theorem plan_fact {q : Nat} (hq : q < ls.length) : 0 ≤ (planTo ls ls.length).getD (pk ls q) 0 ∧ (∀ j, j < nn ls (pk ls q) → (planTo ls ls.length).getD (nm ls (pk ls q) j) 0 + tk ls (nm ls (pk ls q) j) ≤ (planTo ls ls.length).getD (pk ls q) 0) ∧
    ∀ i, i < q → commonB (ls.getD (pk ls q) RCue.zero).f2 (ls.getD (pk ls i) RCue.zero).f2 = true → (planTo ls ls.length).getD (pk ls i) 0 + tk ls (pk ls i) ≤ (planTo ls ls.length).getD (pk ls q) 0 := by
  have hl := plan_len ls q
  have hk := pk_lt hok hq
  have U := relax_up (ls := ls) (k := pk ls q) (arr := planTo ls q) (by rw [hl]; exact hk) (fun j hj => name_not hok hq hj) (nn ls (pk ls q)) (Nat.le_refl _)
  have V := clear_up hok hq (arr := relaxTo ls (pk ls q) (planTo ls q) (nn ls (pk ls q))) (by rw [relax_len, hl]) q (Nat.le_refl _)
  rw [← plan_step hok hq, ← plan_keep hok ls.length hq (Nat.le_refl _)] at V
  rw [plan_blank hok hq q (Nat.le_refl _)] at U
  have old : ∀ i, i < q → (planTo ls q).getD (pk ls i) 0 = (planTo ls ls.length).getD (pk ls i) 0 := fun i hi => by
    rw [plan_keep hok q hi (by omega), plan_keep hok ls.length (by omega) (Nat.le_refl _)]
  obtain ⟨u1, u2, _⟩ := U
  obtain ⟨v1, v2⟩ := V
  refine ⟨by omega, fun j hj => ?_, fun i hi hc => ?_⟩
  · obtain ⟨i, hi, e, _⟩ := name_before hok hq hj
    have := u2 j hj
    rw [← e, old i hi, e] at this
    omega
  · have := v2 i hi hc
    rwa [relax_other (pk_new hok hq hi).symm, old i hi] at this
end
/-! The latest starts. -/
section
variable {ls : List RCue} {k : Nat} {arr : List Int}
theorem pull_le (ls : List RCue) (k : Nat) (arr : List Int) (t : Nat) : ∀ j, (pullTo ls k arr j).getD t 0 ≤ arr.getD t 0 := by
  intro j
  induction j with
  | zero => exact Int.le_refl _
  | succ j ih =>
    rw [pullTo]
    try simp only
    by_cases c : ((ls.getD k RCue.zero).f1.getD j 0).toNat = t
    · rw [c]
      by_cases l : t < (pullTo ls k arr j).length
      · rw [set_same l]
        split <;> omega
      · rw [List.set_eq_of_length_le (by omega)]
        exact ih
    · rw [set_other c]
      exact ih
theorem pull_other {t : Nat} : ∀ j, (∀ i, i < j → nm ls k i ≠ t) → (pullTo ls k arr j).getD t 0 = arr.getD t 0 := by
  intro j
  induction j with
  | zero => intro _; rfl
  | succ j ih =>
    intro h
    rw [pullTo]
    try simp only
    rw [set_other (show ((ls.getD k RCue.zero).f1.getD j 0).toNat ≠ t from h j (by omega)), ih (fun i hi => h i (by omega))]
theorem pull_more (ls : List RCue) (k : Nat) (arr : List Int) (t : Nat) (j : Nat) : (pullTo ls k arr (j + 1)).getD t 0 ≤ (pullTo ls k arr j).getD t 0 := by
  rw [pullTo]
  try simp only
  by_cases c : ((ls.getD k RCue.zero).f1.getD j 0).toNat = t
  · rw [c]
    by_cases l : t < (pullTo ls k arr j).length
    · rw [set_same l]
      split <;> omega
    · rw [List.set_eq_of_length_le (by omega)]
      exact Int.le_refl _
  · rw [set_other c]
    exact Int.le_refl _
theorem pull_down (hn : ∀ j, j < nn ls k → nm ls k j ≠ k ∧ nm ls k j < arr.length) : ∀ j, j ≤ nn ls k → ∀ i, i < j → (pullTo ls k arr j).getD (nm ls k i) 0 + tk ls (nm ls k i) ≤ arr.getD k 0 := by
  intro j
  induction j with
  | zero => intro _ i hi; omega
  | succ j ih =>
    intro hj i hi
    have m := pull_more ls k arr (nm ls k i) j
    rcases (by omega : i < j ∨ i = j) with q | rfl
    · have := ih (by omega) i q
      omega
    · have e := pull_other (ls := ls) (k := k) (arr := arr) (t := k) i (fun x hx => (hn x (by omega)).1)
      have l : (pullTo ls k arr (i + 1)).getD (nm ls k i) 0 ≤ arr.getD k 0 - tk ls (nm ls k i) := by
        rw [pullTo]
        try simp only
        unfold nm tk at *
        rw [set_same (by rw [pull_len]; exact (hn i (by omega)).2), e]
        split <;> omega
      omega
theorem pull_above {Q : List Int} (hn : ∀ j, j < nn ls k → nm ls k j ≠ k) (h0 : ∀ t, t < arr.length → Q.getD t 0 ≤ arr.getD t 0) (hk : k < arr.length) (h1 : ∀ j, j < nn ls k → Q.getD (nm ls k j) 0 + tk ls (nm ls k j) ≤ Q.getD k 0) : ∀ j, j ≤ nn ls k → ∀ t, t < arr.length → Q.getD t 0 ≤ (pullTo ls k arr j).getD t 0 := by
  intro j
  induction j with
  | zero => exact fun _ => h0
  | succ j ih =>
    intro hj t ht
    have a := ih (by omega) t ht
    have b := ih (by omega) k hk
    have d := h1 j (by omega)
    rw [pullTo]
    try simp only
    by_cases c : ((ls.getD k RCue.zero).f1.getD j 0).toNat = t
    · unfold nm tk at d
      rw [c] at d ⊢
      rw [set_same (by rw [pull_len]; exact ht)]
      split <;> omega
    · rw [set_other c]
      exact a
end
section
variable {ls : List RCue} (hok : cuesOk ls = true)
include hok
theorem late_step {i q : Nat} (h : i + (q + 1) = ls.length) : lateTo ls (i + 1) = pullTo ls (pk ls q) (lateTo ls i) (nn ls (pk ls q)) := by
  rw [lateTo]
  try simp only
  rw [show ls.length - (i + 1) = q by omega, ord_getD hok (by omega)]
  rfl
theorem late_le (t : Nat) : ∀ i i', i ≤ i' → i' ≤ ls.length → (lateTo ls i').getD t 0 ≤ (lateTo ls i).getD t 0 := by
  intro i i'
  induction i' with
  | zero => intro h _; rw [show i = 0 by omega]; exact Int.le_refl _
  | succ i' ih =>
    intro h1 h2
    by_cases c : i = i' + 1
    · rw [c]; exact Int.le_refl _
    · have := ih (by omega) (by omega)
      rw [late_step hok (i := i') (q := ls.length - (i' + 1)) (by omega)]
      have := pull_le ls (pk ls (ls.length - (i' + 1))) (lateTo ls i') t (nn ls (pk ls (ls.length - (i' + 1))))
      omega
theorem late_keep {q : Nat} (hq : q < ls.length) : ∀ i, ls.length ≤ i + (q + 1) → i ≤ ls.length → (lateTo ls ls.length).getD (pk ls q) 0 = (lateTo ls i).getD (pk ls q) 0 := by
  have one : ∀ i, ls.length ≤ i + (q + 1) → i < ls.length → (lateTo ls (i + 1)).getD (pk ls q) 0 = (lateTo ls i).getD (pk ls q) 0 := by
    intro i h1 h2
    rw [late_step hok (i := i) (q := ls.length - (i + 1)) (by omega)]
    refine pull_other _ fun j hj => ?_
    obtain ⟨p, hp, e, _⟩ := name_before hok (q := ls.length - (i + 1)) (by omega) hj
    rw [← e]
    exact pk_new hok hq (by omega)
  have all : ∀ d i, i + d = ls.length → ls.length ≤ i + (q + 1) → (lateTo ls ls.length).getD (pk ls q) 0 = (lateTo ls i).getD (pk ls q) 0 := by
    intro d
    induction d with
    | zero => intro i h _; rw [show i = ls.length by omega]
    | succ d ih => intro i h h1; rw [ih (i + 1) (by omega) (by omega), one i h1 (by omega)]
  exact fun i h1 h2 => all (ls.length - i) i (by omega) h1
omit hok in
theorem init_at : ∀ k t, t < k → (lateInit ls k).getD t 0 = playTime ls - tk ls t := by
  intro k
  induction k with
  | zero => intro t h; omega
  | succ k ih =>
    intro t h
    have hl := init_len ls k
    rw [lateInit]
    by_cases c : t = k
    · rw [List.getD_eq_getElem?_getD, List.getElem?_append_right (by omega), hl, c, Nat.sub_self]
      rfl
    · rw [List.getD_eq_getElem?_getD, List.getElem?_append_left (by omega), ← List.getD_eq_getElem?_getD]
      exact ih t (by omega)
theorem late_fact {q : Nat} (hq : q < ls.length) : (lateTo ls ls.length).getD (pk ls q) 0 + tk ls (pk ls q) ≤ playTime ls ∧ ∀ j, j < nn ls (pk ls q) → (lateTo ls ls.length).getD (nm ls (pk ls q) j) 0 + tk ls (nm ls (pk ls q) j) ≤ (lateTo ls ls.length).getD (pk ls q) 0 := by
  have hk := pk_lt hok hq
  constructor
  · have a := late_le hok (pk ls q) 0 ls.length (Nat.zero_le _) (Nat.le_refl _)
    rw [show lateTo ls 0 = lateInit ls ls.length from rfl, init_at ls.length _ hk] at a
    omega
  · intro j hj
    obtain ⟨i, hi⟩ : ∃ i, i + (q + 1) = ls.length := ⟨ls.length - (q + 1), by omega⟩
    have a := late_le hok (nm ls (pk ls q) j) (i + 1) ls.length (by omega) (Nat.le_refl _)
    have b := pull_down (ls := ls) (k := pk ls q) (arr := lateTo ls i) (fun x hx => ⟨name_not hok hq hx, by rw [late_len]; obtain ⟨_, _, _, l⟩ := name_before hok hq hx; exact l⟩) (nn ls (pk ls q)) (Nat.le_refl _) j hj
    rw [← late_step hok hi] at b
    rw [late_keep hok hq i (by omega) (by omega)]
    omega
/-- No plan of that length begins a cue later. -/
theorem late_most {Q : List Int} (h0 : ∀ k, k < ls.length → Q.getD k 0 + tk ls k ≤ playTime ls) (h1 : ∀ k, k < ls.length → ∀ j, j < nn ls k → Q.getD (nm ls k j) 0 + tk ls (nm ls k j) ≤ Q.getD k 0) : ∀ i, i ≤ ls.length → ∀ t, t < ls.length → Q.getD t 0 ≤ (lateTo ls i).getD t 0 := by
  intro i
  induction i with
  | zero =>
    intro _ t ht
    rw [show lateTo ls 0 = lateInit ls ls.length from rfl, init_at ls.length _ ht]
    have := h0 t ht
    omega
  | succ i ih =>
    intro hi t ht
    have hl := late_len ls i
    have hq : ls.length - (i + 1) < ls.length := by omega
    rw [late_step hok (i := i) (q := ls.length - (i + 1)) (by omega)]
    exact pull_above (fun j hj => name_not hok hq hj) (fun t ht => ih (by omega) t (by omega)) (by rw [hl]; exact pk_lt hok hq) (h1 _ (pk_lt hok hq)) _ (Nat.le_refl _) t (by omega)
omit hok in
theorem play_ge : ∀ k, k ≤ ls.length → (∀ t, t < k → (startsOf ls).getD t 0 + tk ls t ≤ playTo ls k) ∧ (playTo ls k = -1 ∨ ∃ t, t < k ∧ playTo ls k = (startsOf ls).getD t 0 + tk ls t) := by
  intro k
  induction k with
  | zero => intro _; exact ⟨fun t ht => absurd ht (by omega), .inl rfl⟩
  | succ k ih =>
    intro hk
    obtain ⟨h1, h2⟩ := ih (by omega)
    rw [playTo]
    unfold tk at *
    split
    · refine ⟨fun t ht => ?_, .inr ⟨k, by omega, rfl⟩⟩
      rcases (by omega : t < k ∨ t = k) with q | rfl
      · have := h1 t q; omega
      · exact Int.le_refl _
    · refine ⟨fun t ht => ?_, ?_⟩
      · rcases (by omega : t < k ∨ t = k) with q | rfl
        · exact h1 t q
        · omega
      · rcases h2 with q | ⟨t, ht, q⟩
        · exact .inl q
        · exact .inr ⟨t, by omega, q⟩
end
/-- All that FnTimes asks of cues that are fine. -/
structure TimeFacts (ls : List RCue) : Prop where
  lens : (startsOf ls).length = ls.length ∧ (latestStarts ls).length = ls.length ∧ (simplePlan ls).length = ls.length
  play : 1 ≤ playTime ls ∧ playTime ls ≤ 7250
  s0 : ∀ k, k < ls.length → 0 ≤ (startsOf ls).getD k 0 ∧ (startsOf ls).getD k 0 ≤ 7200
  st : ∀ k, k < ls.length → (startsOf ls).getD k 0 ≤ (latestStarts ls).getD k 0
  sp : ∀ k, k < ls.length → (startsOf ls).getD k 0 ≤ (simplePlan ls).getD k 0
  te : ∀ k, k < ls.length → (latestStarts ls).getD k 0 + tk ls k ≤ playTime ls
  sn : ∀ k, k < ls.length → ∀ j, j < nn ls k → nm ls k j < ls.length ∧ (startsOf ls).getD (nm ls k j) 0 + tk ls (nm ls k j) ≤ (startsOf ls).getD k 0
  tn : ∀ k, k < ls.length → ∀ j, j < nn ls k → (latestStarts ls).getD (nm ls k j) 0 + tk ls (nm ls k j) ≤ (latestStarts ls).getD k 0
  tight : ∃ k, k < ls.length ∧ (startsOf ls).getD k 0 = (latestStarts ls).getD k 0 ∧ (startsOf ls).getD k 0 + tk ls k = playTime ls
  pb : ∀ k, 0 ≤ (simplePlan ls).getD k 0 ∧ (simplePlan ls).getD k 0 ≤ 1200 * (ls.length : Int)
  plan : ls.length ≤ 8 → isPlan ls (simplePlan ls) = true ∧ clashesIn ls (simplePlan ls) = []
  both : ls.length ≤ 12 → isPlan ls (startsOf ls) = decide ((clashesIn ls (startsOf ls)).length = 0)
theorem ahead_of {ls : List RCue} {zs : List Int} (h : ∀ k, k < ls.length → ∀ j, j < nn ls k → zs.getD (nm ls k j) 0 + tk ls (nm ls k j) ≤ zs.getD k 0) : aheadB ls zs = true :=
  ahead_yes fun k hk j hj => by
    have := h k hk j hj
    unfold aheadAt
    unfold nm tk at this
    rw [decide_eq_false (by omega)]
    rfl
theorem fine_of {ls : List RCue} {zs : List Int} (hok : cuesOk ls = true) (hl : zs.length = ls.length) (h : ∀ k, k < zs.length → 0 ≤ zs.getD k 0 ∧ zs.getD k 0 ≤ 10000) : startsFine ls zs = true := by
  unfold startsFine
  rw [hok, decide_eq_true hl, List.all_eq_true.2 fun z hz => ?_]
  · rfl
  · obtain ⟨k, hk, rfl⟩ := List.mem_iff_getElem.1 hz
    have := h k hk
    rw [List.getD_eq_getElem?_getD, List.getElem?_eq_getElem hk, Option.getD_some] at this
    generalize zs[k] = x at this
    simp [inB]
    exact this
theorem timeFacts {ls : List RCue} (hok : cuesOk ls = true) : TimeFacts ls := by
  have hn := (cuesOk_has hok).1
  have es : startsOf ls = startsTo ls ls.length := by unfold startsOf; rw [if_pos hok]
  have el : latestStarts ls = lateTo ls ls.length := by unfold latestStarts; rw [if_pos hok]
  have ep : simplePlan ls = planTo ls ls.length := by unfold simplePlan; rw [if_pos hok]
  have ln : (startsOf ls).length = ls.length := by rw [es, starts_len]
  have all : ∀ {p : Nat → Prop}, (∀ q, q < ls.length → p (pk ls q)) → ∀ k, k < ls.length → p k := fun h k hk => by
    obtain ⟨q, hq, rfl⟩ := pk_all hok hk
    exact h q hq
  have sn : ∀ k, k < ls.length → ∀ j, j < nn ls k → nm ls k j < ls.length ∧ (startsOf ls).getD (nm ls k j) 0 + tk ls (nm ls k j) ≤ (startsOf ls).getD k 0 :=
    all fun q hq j hj => ⟨by obtain ⟨_, _, _, l⟩ := name_before hok hq hj; exact l, by rw [es]; exact (starts_fact hok hq).2.1 j hj⟩
  have pn : ∀ k, k < ls.length → ∀ j, j < nn ls k → (simplePlan ls).getD (nm ls k j) 0 + tk ls (nm ls k j) ≤ (simplePlan ls).getD k 0 :=
    all fun q hq j hj => by rw [ep]; exact (plan_fact hok hq).2.1 j hj
  have p0 : ∀ k, k < ls.length → 0 ≤ (simplePlan ls).getD k 0 := all fun q hq => by rw [ep]; exact (plan_fact hok hq).1
  have G := play_ge (ls := ls) ls.length (Nat.le_refl _)
  have eN : playTime ls = playTo ls ls.length := by unfold playTime; rw [ln]
  rw [← eN] at G
  have st : ∀ k, k < ls.length → (startsOf ls).getD k 0 ≤ (latestStarts ls).getD k 0 := fun k hk => by
    rw [el]
    exact late_most hok (Q := startsOf ls) (fun k hk => G.1 k hk) (fun k hk j hj => (sn k hk j hj).2) ls.length (Nat.le_refl _) k hk
  have te : ∀ k, k < ls.length → (latestStarts ls).getD k 0 + tk ls k ≤ playTime ls := all fun q hq => by rw [el]; exact (late_fact hok hq).1
  have pp := play_pos hok
  have si := startsOf_in ls
  have pi := plan_in hok ls.length (Nat.le_refl _)
  have fs : startsFine ls (startsOf ls) = true := fine_of hok ln fun k hk => by have := si k; omega
  have ah : aheadB ls (startsOf ls) = true := ahead_of fun k hk j hj => (sn k hk j hj).2
  refine ⟨⟨ln, by rw [el, late_len], by rw [ep, plan_len]⟩, pp, fun k hk => si k, st, ?_, te, sn, ?_, ?_, fun k => by rw [ep]; exact pi k, fun h8 => ?_, fun _ => ?_⟩
  · exact all fun q hq => by rw [es]; exact starts_least hok p0 pn q hq
  · exact all fun q hq j hj => by rw [el]; exact (late_fact hok hq).2 j hj
  · rcases G.2 with c | ⟨k, hk, c⟩
    · omega
    · refine ⟨k, hk, ?_, c.symm⟩
      have a := st k hk
      have b := te k hk
      omega
  · have fp : startsFine ls (simplePlan ls) = true := fine_of hok (by rw [ep, plan_len]) fun k hk => by
      have := pi k
      rw [← ep] at this
      omega
    have ap : aheadB ls (simplePlan ls) = true := ahead_of pn
    have low : ∀ i q, i < q → q < ls.length → clash ls (simplePlan ls) (pk ls i) (pk ls q) = false ∧ clash ls (simplePlan ls) (pk ls q) (pk ls i) = false := by
      intro i q hi hq
      have f := (plan_fact hok hq).2.2 i hi
      rw [← ep] at f
      unfold clash
      rw [common_sym (ls.getD (pk ls i) RCue.zero).f2]
      unfold tk at f
      cases c : commonB (ls.getD (pk ls q) RCue.zero).f2 (ls.getD (pk ls i) RCue.zero).f2 with
      | false => exact ⟨rfl, rfl⟩
      | true =>
        have := f c
        rw [decide_eq_false (by omega : ¬ (simplePlan ls).getD (pk ls q) 0 < (simplePlan ls).getD (pk ls i) 0 + (ls.getD (pk ls i) RCue.zero).f0)]
        simp
    have nc : ∀ i k, i < k → k < ls.length → clash ls (simplePlan ls) i k = false := by
      intro i k hik hk
      obtain ⟨a, ha, rfl⟩ := pk_all hok (i := i) (by omega)
      obtain ⟨b, hb, rfl⟩ := pk_all hok (i := k) hk
      rcases Nat.lt_trichotomy a b with c | rfl | c
      · exact (low a b c hb).1
      · omega
      · exact (low b a c ha).2
    have e : clashesIn ls (simplePlan ls) = [] := by unfold clashesIn; rw [if_pos fp, pairI_nil nc]
    refine ⟨?_, e⟩
    unfold isPlan
    rw [fp, ap, e]
    rfl
  · unfold isPlan
    rw [fs, ah]
    rfl
end Go.Proofs.Ytbgogcobkiaejac

/- The least of a row of numbers, and a number at its place: mathematics. No condition. -/
namespace Go.Proofs.Ytbgogcobkiaejac
set_option linter.unusedVariables false
set_option linter.unusedSimpArgs false
open Go.RowKit

/-- The least of the numbers up to place r. -/
def lowTo (zs : List Int) : Nat → Int
  | 0 => zs.getD 0 0
  | r + 1 => min (lowTo zs r) (zs.getD (r + 1) 0)
theorem getD_at {zs : List Int} {k : Nat} (h : k < zs.length) : zs.getD k 0 = zs[k] := by
  rw [List.getD_eq_getElem?_getD, List.getElem?_eq_getElem h]
  rfl
theorem lowTo_more {zs : List Int} {r : Nat} (h : r + 1 < zs.length) : lowTo zs (r + 1) = if zs[r + 1] < lowTo zs r then zs[r + 1] else lowTo zs r := by
  show min (lowTo zs r) (zs.getD (r + 1) 0) = _
  rw [getD_at h]
  split <;> omega
end Go.Proofs.Ytbgogcobkiaejac

/- The library's slices.Max at a row of numbers that is the call's own. Condition: the row is not empty. -/
namespace Go.Proofs.Ytbgogcobkiaejac
set_option linter.unusedVariables false
set_option linter.unusedSimpArgs false
open Go.RowKit

/-- The greatest of the numbers up to place r. -/
def topTo (zs : List Int) : Nat → Int
  | 0 => zs.getD 0 0
  | r + 1 => max (topTo zs r) (zs.getD (r + 1) 0)
theorem topTo_more {zs : List Int} {r : Nat} (h : r + 1 < zs.length) : topTo zs (r + 1) = if topTo zs r < zs[r + 1] then zs[r + 1] else topTo zs r := by
  show max (topTo zs r) (zs.getD (r + 1) 0) = _
  rw [getD_at h]
  split <;> omega
set_option maxHeartbeats 400000 in
theorem max_any (v : Value) (zs : List Int) (base : Nat) (w : World) (h : OwnI w base v zs) (hz : 0 < zs.length) (hl : zs.length ≤ 2000000) :
    Calls Try.prog 44 #[v] w fun e w' => e = .returned (.int .i64 (topTo zs (zs.length - 1))) ∧ w' = w := by
  obtain ⟨g, c, e1, _, _, r0, _⟩ := h.spot hz
  subst e1
  have H := Lib.hid h
  have E0 := Lib.hid (show topTo zs 0 = zs[0] from getD_at hz)
  have h1 : (1 : Int) ≤ (zs.length : Int) := by omega
  clear h
  generalize zs[0] = z0 at r0 E0
  go_enter Try.func44, Try.ntmps44
  go_wp2
  go_loopw [3, 4] (fun nv iv wr => wr = w ∧ ∃ r : Nat, r < zs.length ∧ iv = .int .i64 ((r : Int) + 1) ∧ nv = .int .i64 (topTo zs r)) (fun _ iv _ => zs.length - (intOf iv).toNat)
  case atStart => exact ⟨rfl, 0, hz, rfl, by rw [E0.out]⟩
  case round =>
    obtain ⟨rfl, r, hr, rfl, rfl⟩ := hrel
    by_cases hlt : r + 1 < zs.length
    · obtain ⟨g2, c2, e2, _, _, x0, _⟩ := H.out.spot hlt
      simp only [Value.slice.injEq, Option.some.injEq, Addr.mk.injEq] at e2
      obtain ⟨⟨rfl, _⟩, em, ec⟩ := e2
      clear em ec
      have TM := Lib.hid (topTo_more hlt)
      generalize zs[r + 1] = x at x0 TM
      generalize topTo zs r = t at TM
      have hr0 : (0 : Int) ≤ (r : Int) + 1 := by omega
      have hr1 : (r : Int) + 1 < (zs.length : Int) := by omega
      go_wp2
      exact ⟨⟨trivial, r + 1, by omega, by go_num, by rw [TM.out]⟩, by simp [intOf]; omega⟩
    · have hr1 : ¬ (r : Int) + 1 < (zs.length : Int) := by omega
      obtain rfl : r = zs.length - 1 := by omega
      go_wp2
      go_ret
      exact ⟨rfl, rfl⟩
end Go.Proofs.Ytbgogcobkiaejac

/- The program's ways to StartsOf, PlayTime, LatestStarts and SimplePlan are the model's: mathematics. No condition. -/
namespace Go.Proofs.Ytbgogcobkiaejac
set_option linter.unusedVariables false
set_option linter.unusedSimpArgs false
open Go.RowKit

/-- Cue k behind the first j of the order, where p says that it waits. -/
def earTo (ls : List RCue) (p : Nat → Nat → Bool) (k : Nat) (arr : List Int) : Nat → List Int
  | 0 => arr
  | j + 1 =>
    let r := earTo ls p k arr j
    let q := ((cueOrder ls).getD j 0).toNat
    if p k q = true then r.set k (if r.getD k 0 < r.getD q 0 + (ls.getD q RCue.zero).f0 then r.getD q 0 + (ls.getD q RCue.zero).f0 else r.getD k 0) else r
def earlTo (ls : List RCue) (p : Nat → Nat → Bool) : Nat → List Int
  | 0 => List.replicate ls.length 0
  | i + 1 =>
    let k := ((cueOrder ls).getD i 0).toNat
    earTo ls p k (earlTo ls p i) i
theorem ear_len (ls : List RCue) (p : Nat → Nat → Bool) (k : Nat) (arr : List Int) : ∀ j, (earTo ls p k arr j).length = arr.length := by
  intro j
  induction j with
  | zero => rfl
  | succ j ih =>
    rw [earTo]
    try simp only
    split
    · rw [List.length_set, ih]
    · exact ih
theorem earl_len (ls : List RCue) (p : Nat → Nat → Bool) : ∀ i, (earlTo ls p i).length = ls.length := by
  intro i
  induction i with
  | zero => simp [earlTo]
  | succ i ih => rw [earlTo]; simp only [ear_len, ih]
theorem ear_other {ls : List RCue} {p : Nat → Nat → Bool} {k t : Nat} {arr : List Int} (h : k ≠ t) : ∀ j, (earTo ls p k arr j).getD t 0 = arr.getD t 0 := by
  intro j
  induction j with
  | zero => rfl
  | succ j ih =>
    rw [earTo]
    try simp only
    split
    · rw [set_other h, ih]
    · exact ih
/-- The two kinds of waiting. -/
def waitP (ls : List RCue) (k q : Nat) : Bool := (ls.getD k RCue.zero).f1.any fun z => decide (z = (q : Int))
def comP (ls : List RCue) (k q : Nat) : Bool := commonB (ls.getD k RCue.zero).f2 (ls.getD q RCue.zero).f2
theorem clear_ear (ls : List RCue) (k : Nat) (arr : List Int) : ∀ j, clearTo ls k arr j = earTo ls (comP ls) k arr j := by
  intro j
  induction j with
  | zero => rfl
  | succ j ih => rw [clearTo, earTo, ih]; rfl
theorem list_same {xs ys : List Int} {n : Nat} (h1 : xs.length = n) (h2 : ys.length = n) (h : ∀ t, t < n → xs.getD t 0 = ys.getD t 0) : xs = ys := by
  refine List.ext_getElem (by omega) fun t a b => ?_
  have := h t (by omega)
  rwa [List.getD_eq_getElem?_getD, List.getElem?_eq_getElem a, List.getD_eq_getElem?_getD, List.getElem?_eq_getElem b] at this
theorem wait_some {ls : List RCue} {k q : Nat} (h : waitP ls k q = true) : ∃ j, j < nn ls k ∧ nm ls k j = q := by
  obtain ⟨z, hz, e⟩ := List.any_eq_true.1 h
  obtain ⟨j, hj, rfl⟩ := List.mem_iff_getElem.1 hz
  refine ⟨j, hj, ?_⟩
  unfold nm
  rw [List.getD_eq_getElem?_getD (l := (ls.getD k RCue.zero).f1), List.getElem?_eq_getElem hj, Option.getD_some, of_decide_eq_true e, Int.toNat_natCast]
section
variable {ls : List RCue} (hok : cuesOk ls = true)
include hok
theorem wait_of {k j : Nat} (hk : k < ls.length) (hj : j < nn ls k) : waitP ls k (nm ls k j) = true := by
  have q := ((cue_fine hok hk).2 j hj).1
  unfold waitP nm nn at *
  refine List.any_eq_true.2 ⟨(ls.getD k RCue.zero).f1[j], List.getElem_mem hj, ?_⟩
  rw [List.getD_eq_getElem?_getD (l := (ls.getD k RCue.zero).f1), List.getElem?_eq_getElem hj, Option.getD_some] at q ⊢
  rw [Int.toNat_of_nonneg q]
  simp
theorem ear_up (p : Nat → Nat → Bool) {q : Nat} (hq : q < ls.length) {arr : List Int} (hl : arr.length = ls.length) : ∀ j, j ≤ q → arr.getD (pk ls q) 0 ≤ (earTo ls p (pk ls q) arr j).getD (pk ls q) 0 ∧
    (∀ i, i < j → p (pk ls q) (pk ls i) = true → arr.getD (pk ls i) 0 + tk ls (pk ls i) ≤ (earTo ls p (pk ls q) arr j).getD (pk ls q) 0) ∧
    ((earTo ls p (pk ls q) arr j).getD (pk ls q) 0 = arr.getD (pk ls q) 0 ∨ ∃ i, i < j ∧ p (pk ls q) (pk ls i) = true ∧ (earTo ls p (pk ls q) arr j).getD (pk ls q) 0 = arr.getD (pk ls i) 0 + tk ls (pk ls i)) := by
  have hk := pk_lt hok hq
  intro j
  induction j with
  | zero => intro _; exact ⟨Int.le_refl _, fun i hi => absurd hi (by omega), .inl rfl⟩
  | succ j ih =>
    intro hj
    obtain ⟨h1, h2, h3⟩ := ih (by omega)
    have e := ear_other (ls := ls) (p := p) (arr := arr) (k := pk ls q) (t := pk ls j) (pk_new hok hq (by omega)).symm j
    rw [earTo]
    try simp only
    rw [ord_getD hok (i := j) (by omega)]
    unfold tk at *
    by_cases c : p (pk ls q) (pk ls j) = true
    · rw [if_pos c, set_same (by rw [ear_len, hl]; exact hk), e]
      split
      · next d =>
        refine ⟨by omega, fun i hi hc => ?_, .inr ⟨j, by omega, c, ?_⟩⟩
        · rcases (by omega : i < j ∨ i = j) with r | rfl
          · have := h2 i r hc; omega
          · omega
        · omega
      · next d =>
        refine ⟨h1, fun i hi hc => ?_, ?_⟩
        · rcases (by omega : i < j ∨ i = j) with r | rfl
          · exact h2 i r hc
          · omega
        · rcases h3 with r | ⟨i, hi, r⟩
          · exact .inl r
          · exact .inr ⟨i, by omega, r⟩
    · rw [if_neg c]
      refine ⟨h1, fun i hi hc => ?_, ?_⟩
      · rcases (by omega : i < j ∨ i = j) with r | rfl
        · exact h2 i r hc
        · exact absurd hc c
      · rcases h3 with r | ⟨i, hi, r⟩
        · exact .inl r
        · exact .inr ⟨i, by omega, r⟩
theorem ear_relax {q : Nat} (hq : q < ls.length) {arr : List Int} (hl : arr.length = ls.length) : earTo ls (waitP ls) (pk ls q) arr q = relaxTo ls (pk ls q) arr (nn ls (pk ls q)) := by
  have hk := pk_lt hok hq
  refine list_same (n := ls.length) (by rw [ear_len, hl]) (by rw [relax_len, hl]) fun t ht => ?_
  by_cases c : pk ls q = t
  · subst c
    obtain ⟨a1, a2, a3⟩ := ear_up hok (waitP ls) hq hl q (Nat.le_refl _)
    obtain ⟨b1, b2, b3⟩ := relax_up (ls := ls) (k := pk ls q) (arr := arr) (by rw [hl]; exact hk) (fun j hj => name_not hok hq hj) (nn ls (pk ls q)) (Nat.le_refl _)
    refine Int.le_antisymm ?_ ?_
    · rcases a3 with r | ⟨i, hi, hp, r⟩
      · omega
      · obtain ⟨j, hj, e⟩ := wait_some hp
        have := b2 j hj
        rw [e] at this
        omega
    · rcases b3 with r | ⟨j, hj, r⟩
      · omega
      · obtain ⟨i, hi, e, _⟩ := name_before hok hq hj
        have := a2 i hi (by rw [e]; exact wait_of hok hk hj)
        rw [e] at this
        omega
  · rw [ear_other c, relax_other c]
theorem ear_clear {q : Nat} (hq : q < ls.length) {arr : List Int} (hl : arr.length = ls.length) : earTo ls (fun k t => waitP ls k t || comP ls k t) (pk ls q) arr q = clearTo ls (pk ls q) (relaxTo ls (pk ls q) arr (nn ls (pk ls q))) q := by
  have hk := pk_lt hok hq
  refine list_same (n := ls.length) (by rw [ear_len, hl]) (by rw [clear_len, relax_len, hl]) fun t ht => ?_
  by_cases c : pk ls q = t
  · subst c
    obtain ⟨a1, a2, a3⟩ := ear_up hok (fun k t => waitP ls k t || comP ls k t) hq hl q (Nat.le_refl _)
    obtain ⟨b1, b2, b3⟩ := relax_up (ls := ls) (k := pk ls q) (arr := arr) (by rw [hl]; exact hk) (fun j hj => name_not hok hq hj) (nn ls (pk ls q)) (Nat.le_refl _)
    rw [clear_ear]
    obtain ⟨d1, d2, d3⟩ := ear_up hok (comP ls) hq (arr := relaxTo ls (pk ls q) arr (nn ls (pk ls q))) (by rw [relax_len, hl]) q (Nat.le_refl _)
    have old : ∀ i, i < q → (relaxTo ls (pk ls q) arr (nn ls (pk ls q))).getD (pk ls i) 0 = arr.getD (pk ls i) 0 := fun i hi => relax_other (pk_new hok hq hi).symm _
    refine Int.le_antisymm ?_ ?_
    · rcases a3 with r | ⟨i, hi, hp, r⟩
      · omega
      · rcases Bool.or_eq_true _ _ ▸ hp with hp | hp
        · obtain ⟨j, hj, e⟩ := wait_some hp
          have := b2 j hj
          rw [e] at this
          omega
        · have := d2 i hi hp
          rw [old i hi] at this
          omega
    · rcases d3 with r | ⟨i, hi, hp, r⟩
      · rcases b3 with r' | ⟨j, hj, r'⟩
        · omega
        · obtain ⟨i, hi, e, _⟩ := name_before hok hq hj
          have := a2 i hi (by rw [e, wait_of hok hk hj]; rfl)
          rw [e] at this
          omega
      · have := a2 i hi (by rw [hp]; simp)
        rw [old i hi] at r
        omega
  · rw [ear_other c, clear_other c, relax_other c]
theorem earl_starts : ∀ i, i ≤ ls.length → earlTo ls (waitP ls) i = startsTo ls i := by
  intro i
  induction i with
  | zero => intro _; rfl
  | succ i ih =>
    intro hi
    rw [starts_step hok (q := i) (by omega), ← ear_relax hok (q := i) (by omega) (starts_len ls i), ← ih (by omega), earlTo]
    try simp only
    rw [ord_getD hok (i := i) (by omega)]
theorem earl_plan : ∀ i, i ≤ ls.length → earlTo ls (fun k t => waitP ls k t || comP ls k t) i = planTo ls i := by
  intro i
  induction i with
  | zero => intro _; rfl
  | succ i ih =>
    intro hi
    rw [plan_step hok (q := i) (by omega), ← ear_clear hok (q := i) (by omega) (plan_len ls i), ← ih (by omega), earlTo]
    try simp only
    rw [ord_getD hok (i := i) (by omega)]
theorem ear_in (p : Nat → Nat → Bool) {k : Nat} (hk : k < ls.length) {arr : List Int} {m : Int} (h : InTo m arr) (hm : 0 ≤ m) : ∀ j, j ≤ ls.length → InTo (m + 50 * j) (earTo ls p k arr j) := by
  intro j
  induction j with
  | zero => intro _; exact inTo_more h (by omega)
  | succ j ih =>
    intro hj t
    have r := ih (by omega)
    obtain ⟨q, hp, e⟩ := order_get hok (i := j) (by omega)
    have f := (cue_fine hok hp).1
    rw [earTo]
    try simp only
    rw [List.getD_eq_getElem?_getD (l := cueOrder ls), e, Option.getD_some, Int.toNat_natCast]
    generalize (ls.getD q RCue.zero).f0 = g at f ⊢
    have r1 := r q
    have r2 := r k
    have r3 := r t
    split
    · by_cases c : k = t
      · subst c
        by_cases l : k < (earTo ls p k arr j).length
        · rw [List.getD_eq_getElem?_getD (l := List.set _ _ _), List.getElem?_set_self l]
          rw [Option.getD_some]
          split <;> omega
        · rw [List.set_eq_of_length_le (by omega)]
          omega
      · rw [List.getD_eq_getElem?_getD (l := List.set _ _ _), List.getElem?_set_ne c, ← List.getD_eq_getElem?_getD]
        omega
    · omega
theorem earl_in (p : Nat → Nat → Bool) : ∀ i, i ≤ ls.length → InTo (600 * i) (earlTo ls p i) := by
  intro i
  induction i with
  | zero =>
    intro _ t
    rw [earlTo, List.getD_eq_getElem?_getD, List.getElem?_replicate]
    split <;> simp
  | succ i ih =>
    intro hi
    obtain ⟨q, hp, e⟩ := order_get hok (i := i) (by omega)
    rw [earlTo]
    try simp only
    rw [List.getD_eq_getElem?_getD (l := cueOrder ls), e, Option.getD_some, Int.toNat_natCast]
    have n := (cuesOk_has hok).1
    have c := ear_in hok p hp (ih (by omega)) (by omega) i (by omega)
    exact inTo_more c (by omega)
end
/-- The ends of cues that begin so: the first m of them, and naught behind. -/
def endRow (ls : List RCue) (zs : List Int) (m : Nat) : List Int := (List.range ls.length).map fun t => if t < m then zs.getD t 0 + (ls.getD t RCue.zero).f0 else 0
def endsL (ls : List RCue) (zs : List Int) : List Int := (List.range ls.length).map fun t => zs.getD t 0 + (ls.getD t RCue.zero).f0
theorem endRow_len (ls : List RCue) (zs : List Int) (m : Nat) : (endRow ls zs m).length = ls.length := by simp [endRow]
theorem endsL_len (ls : List RCue) (zs : List Int) : (endsL ls zs).length = ls.length := by simp [endsL]
theorem endRow_at {ls : List RCue} {zs : List Int} {m t : Nat} (h : t < (endRow ls zs m).length) : (endRow ls zs m)[t] = if t < m then zs.getD t 0 + (ls.getD t RCue.zero).f0 else 0 := by simp [endRow]
theorem endRow_zero (ls : List RCue) (zs : List Int) : endRow ls zs 0 = List.replicate ls.length 0 := by
  refine List.ext_getElem (by simp [endRow]) fun t h1 h2 => ?_
  simp [endRow]
theorem endRow_all (ls : List RCue) (zs : List Int) : endRow ls zs ls.length = endsL ls zs := by
  refine List.ext_getElem (by simp [endRow, endsL]) fun t h1 h2 => ?_
  have : t < ls.length := by simpa [endsL] using h2
  simp [endRow, endsL, this]
theorem endRow_set (ls : List RCue) (zs : List Int) (m : Nat) : (endRow ls zs m).set m (zs.getD m 0 + (ls.getD m RCue.zero).f0) = endRow ls zs (m + 1) := by
  refine List.ext_getElem (by simp [endRow]) fun t h1 h2 => ?_
  have ht : t < ls.length := by simpa [endRow] using h2
  rw [List.getElem_set, endRow_at, endRow_at]
  by_cases e : m = t
  · subst e
    rw [if_pos rfl, if_pos (by omega)]
  · rw [if_neg e]
    by_cases c : t < m
    · rw [if_pos c, if_pos (by omega)]
    · rw [if_neg c, if_neg (by omega)]
theorem endsL_at (ls : List RCue) (zs : List Int) {t : Nat} (h : t < ls.length) : (endsL ls zs).getD t 0 = zs.getD t 0 + (ls.getD t RCue.zero).f0 := by
  rw [List.getD_eq_getElem?_getD, List.getElem?_eq_getElem (by rw [endsL_len]; exact h)]
  simp [endsL]
theorem endsL_set (ls : List RCue) (zs : List Int) {a : Nat} (ha : a < ls.length) (hl : zs.length = ls.length) (x : Int) : (endsL ls zs).set a (x + (ls.getD a RCue.zero).f0) = endsL ls (zs.set a x) := by
  refine list_same (n := ls.length) (by rw [List.length_set, endsL_len]) (endsL_len _ _) fun t ht => ?_
  rw [endsL_at _ _ ht]
  by_cases c : a = t
  · subst c
    rw [set_same (by rw [endsL_len]; exact ha), set_same (by rw [hl]; exact ha)]
  · rw [set_other c, set_other c, endsL_at _ _ ht]
theorem endsL_pull (ls : List RCue) (k : Nat) (arr : List Int) (j : Nat) (hl : arr.length = ls.length) (ha : nm ls k j < ls.length) (hk : (pullTo ls k arr j).getD k 0 = arr.getD k 0) :
    (endsL ls (pullTo ls k arr j)).set (nm ls k j) (if arr.getD k 0 < (endsL ls (pullTo ls k arr j)).getD (nm ls k j) 0 then arr.getD k 0 else (endsL ls (pullTo ls k arr j)).getD (nm ls k j) 0) = endsL ls (pullTo ls k arr (j + 1)) := by
  rw [pullTo]
  try simp only
  rw [endsL_at _ _ ha, hk]
  unfold nm at *
  generalize ((ls.getD k RCue.zero).f1.getD j 0).toNat = a at *
  rw [← endsL_set ls _ ha (by rw [pull_len, hl])]
  congr 1
  split <;> split <;> omega
theorem play_top (ls : List RCue) (hok : cuesOk ls = true) : topTo (endsL ls (startsOf ls)) (ls.length - 1) = playTime ls := by
  have hn := (cuesOk_has hok).1
  have e : (startsOf ls).length = ls.length := by unfold startsOf; rw [if_pos hok, starts_len]
  have key : ∀ r, r < ls.length → topTo (endsL ls (startsOf ls)) r = playTo ls (r + 1) := by
    intro r
    induction r with
    | zero =>
      intro h
      have s := startsOf_in ls 0
      have f := (cue_fine hok (k := 0) h).1
      rw [topTo, endsL_at _ _ h, playTo]
      show _ = if (-1 : Int) < _ then _ else -1
      rw [if_pos (by omega)]
    | succ r ih =>
      intro h
      have q := ih (by omega)
      show max (topTo (endsL ls (startsOf ls)) r) _ = _
      rw [q, endsL_at _ _ h, show playTo ls (r + 1 + 1) = if playTo ls (r + 1) < (startsOf ls).getD (r + 1) 0 + (ls.getD (r + 1) RCue.zero).f0 then (startsOf ls).getD (r + 1) 0 + (ls.getD (r + 1) RCue.zero).f0 else playTo ls (r + 1) from rfl]
      generalize playTo ls (r + 1) = x
      split <;> omega
  have k := key (ls.length - 1) (by omega)
  rw [show ls.length - 1 + 1 = ls.length by omega] at k
  rw [k]
  unfold playTime
  rw [e]
section
variable {ls : List RCue} (hok : cuesOk ls = true)
include hok
omit hok in
theorem ends_init : endsL ls (lateInit ls ls.length) = List.replicate ls.length (playTime ls) := by
  refine list_same (n := ls.length) (endsL_len _ _) (by simp) fun t ht => ?_
  rw [endsL_at _ _ ht, init_at _ _ ht, List.getD_eq_getElem?_getD (l := List.replicate _ _), List.getElem?_replicate, if_pos ht]
  show _ = playTime ls
  unfold tk
  omega
omit hok in
/-- The starts that stand when the last i of the order are done. -/
def backTo (ls : List RCue) : Nat → List Int
  | 0 => List.replicate ls.length 0
  | i + 1 => (backTo ls i).set (pk ls (ls.length - (i + 1))) ((lateTo ls i).getD (pk ls (ls.length - (i + 1))) 0)
omit hok in
theorem back_len (ls : List RCue) : ∀ i, (backTo ls i).length = ls.length := by
  intro i
  induction i with
  | zero => simp [backTo]
  | succ i ih => rw [backTo, List.length_set, ih]
theorem back_at {q : Nat} (hq : q < ls.length) : ∀ i, ls.length ≤ i + q → i ≤ ls.length → (backTo ls i).getD (pk ls q) 0 = (lateTo ls (ls.length - (q + 1))).getD (pk ls q) 0 := by
  intro i
  induction i with
  | zero => intro h1 _; omega
  | succ i ih =>
    intro h1 h2
    rw [backTo]
    by_cases c : ls.length ≤ i + q
    · rw [set_other (pk_new hok (q := ls.length - (i + 1)) (m := q) hq (by omega)), ih c (by omega)]
    · have e : ls.length - (i + 1) = q := by omega
      rw [e, set_same (by rw [back_len]; exact pk_lt hok hq), show ls.length - (q + 1) = i by omega]
theorem back_all : backTo ls ls.length = lateTo ls ls.length := by
  refine list_same (n := ls.length) (back_len ls _) (late_len ls _) fun t ht => ?_
  obtain ⟨q, hq, rfl⟩ := pk_all hok ht
  rw [back_at hok hq ls.length (by omega) (Nat.le_refl _), late_keep hok hq (ls.length - (q + 1)) (by omega) (by omega)]
/-- What the next cue of the way back names lies ahead of it. -/
theorem back_step {i : Nat} (hi : i < ls.length) : lateTo ls (i + 1) = pullTo ls (pk ls (ls.length - (i + 1))) (lateTo ls i) (nn ls (pk ls (ls.length - (i + 1)))) := late_step hok (by omega)
theorem pull_own {q : Nat} (hq : q < ls.length) (arr : List Int) : ∀ j, j ≤ nn ls (pk ls q) → (pullTo ls (pk ls q) arr j).getD (pk ls q) 0 = arr.getD (pk ls q) 0 := fun j hj => pull_other j fun i hi => name_not hok hq (by omega)
end
end Go.Proofs.Ytbgogcobkiaejac
