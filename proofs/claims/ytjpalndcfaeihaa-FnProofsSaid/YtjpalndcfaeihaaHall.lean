/- Hall's theorem with capacities, and its form with a lack: sets are truths over numbers below n. No condition. -/
import Derived.Test.YtjpalndcfaeihaaBase
namespace Go.Proofs.Ytjpalndcfaeihaa
set_option linter.unusedVariables false
set_option linter.unusedSimpArgs false

def cardP (Q : Nat → Bool) : Nat → Nat
  | 0 => 0
  | n + 1 => cardP Q n + if Q n = true then 1 else 0
/-- One of Q below n is joined to j. -/
def nbP (A : Nat → Nat → Bool) (Q : Nat → Bool) (j : Nat) : Nat → Bool
  | 0 => false
  | n + 1 => nbP A Q j n || (Q n && A n j)
/-- The capacities of all below m that are joined to one of Q. -/
def capP (A : Nat → Nat → Bool) (f : Nat → Nat) (Q : Nat → Bool) (n : Nat) : Nat → Nat
  | 0 => 0
  | m + 1 => capP A f Q n m + if nbP A Q m n = true then f m else 0
section
variable {A : Nat → Nat → Bool} {f : Nat → Nat} {P Q R : Nat → Bool} {n m j k d : Nat}
theorem nb_iff : nbP A Q j n = true ↔ ∃ i, i < n ∧ Q i = true ∧ A i j = true := by
  induction n with
  | zero => exact ⟨fun h => (by cases h), fun ⟨i, h, _⟩ => absurd h (by omega)⟩
  | succ n ih =>
    rw [nbP, Bool.or_eq_true, Bool.and_eq_true, ih]
    constructor
    · rintro (⟨i, h, q⟩ | ⟨a, b⟩)
      · exact ⟨i, by omega, q⟩
      · exact ⟨n, by omega, a, b⟩
    · rintro ⟨i, h, a, b⟩
      rcases (by omega : i < n ∨ i = n) with c | rfl
      · exact .inl ⟨i, c, a, b⟩
      · exact .inr ⟨a, b⟩
theorem nb_mono (h : ∀ i, i < n → Q i = true → R i = true) (hq : nbP A Q j n = true) : nbP A R j n = true := by
  obtain ⟨i, a, b, c⟩ := nb_iff.1 hq
  exact nb_iff.2 ⟨i, a, h i a b, c⟩
theorem card_mono (h : ∀ i, i < n → Q i = true → R i = true) : cardP Q n ≤ cardP R n := by
  induction n with
  | zero => exact Nat.le_refl _
  | succ n ih =>
    have a := ih (fun i hi => h i (by omega))
    have b := h n (by omega)
    rw [cardP, cardP]
    by_cases c : Q n = true
    · rw [if_pos c, if_pos (b c)]; omega
    · rw [if_neg c]; omega
theorem card_same (h : ∀ i, i < n → Q i = R i) : cardP Q n = cardP R n :=
  Nat.le_antisymm (card_mono fun i hi e => by rw [← h i hi]; exact e) (card_mono fun i hi e => by rw [h i hi]; exact e)
theorem card_le (Q : Nat → Bool) (n : Nat) : cardP Q n ≤ n := by
  induction n with
  | zero => exact Nat.le_refl _
  | succ n ih => rw [cardP]; split <;> omega
theorem card_all (n : Nat) : cardP (fun _ => true) n = n := by
  induction n with
  | zero => rfl
  | succ n ih => rw [cardP, ih, if_pos rfl]
theorem card_none (h : ∀ i, i < n → Q i = false) : cardP Q n = 0 := by
  induction n with
  | zero => rfl
  | succ n ih => rw [cardP, ih (fun i hi => h i (by omega)), h n (by omega), if_neg (by simp)]
theorem card_one (k n : Nat) (h : k < n) : cardP (fun i => decide (i = k)) n = 1 := by
  induction n with
  | zero => omega
  | succ n ih =>
    rw [cardP]
    by_cases c : k = n
    · subst c
      rw [card_none (fun i hi => decide_eq_false (by omega)), if_pos (decide_eq_true rfl)]
    · rw [ih (by omega), if_neg (by simp; omega)]
theorem card_some (h : 1 ≤ cardP Q n) : ∃ i, i < n ∧ Q i = true := by
  refine Classical.byContradiction fun hno => ?_
  have : cardP Q n = 0 := card_none fun i hi => by
    cases c : Q i with
    | false => rfl
    | true => exact absurd ⟨i, hi, c⟩ hno
  omega
theorem card_or_and (Q R : Nat → Bool) (n : Nat) : cardP (fun i => Q i || R i) n + cardP (fun i => Q i && R i) n = cardP Q n + cardP R n := by
  induction n with
  | zero => rfl
  | succ n ih =>
    rw [cardP, cardP, cardP, cardP]
    cases Q n <;> cases R n <;> simp <;> omega
/-- One taken away. -/
theorem card_less (hk : k < n) (hq : Q k = true) : cardP (fun i => Q i && decide (i ≠ k)) n + 1 = cardP Q n := by
  have a := card_or_and (fun i => Q i && decide (i ≠ k)) (fun i => decide (i = k)) n
  rw [card_one k n hk, card_none (n := n) (Q := fun i => (Q i && decide (i ≠ k)) && decide (i = k)) (fun i hi => by by_cases c : i = k <;> simp [c]), card_same (n := n) (Q := fun i => (Q i && decide (i ≠ k)) || decide (i = k)) (R := Q) (fun i hi => by
    by_cases c : i = k
    · subst c; simp [hq]
    · simp [c])] at a
  omega
theorem cap_mono (h : ∀ j, j < m → nbP A Q j n = true → nbP A R j n = true ∨ f j = 0) : capP A f Q n m ≤ capP A f R n m := by
  induction m with
  | zero => exact Nat.le_refl _
  | succ m ih =>
    have a := ih (fun j hj => h j (by omega))
    have b := h m (by omega)
    rw [capP, capP]
    by_cases c : nbP A Q m n = true
    · rw [if_pos c]
      rcases b c with q | q
      · rw [if_pos q]; omega
      · rw [q]; omega
    · rw [if_neg c]; omega
theorem cap_sub (Q R : Nat → Bool) (n m : Nat) : capP A f (fun i => Q i || R i) n m + capP A f (fun i => Q i && R i) n m ≤ capP A f Q n m + capP A f R n m := by
  induction m with
  | zero => exact Nat.le_refl _
  | succ m ih =>
    have h1 : nbP A (fun i => Q i || R i) m n = true → nbP A Q m n = true ∨ nbP A R m n = true := fun h => by
      obtain ⟨i, a, b, c⟩ := nb_iff.1 h
      rcases (by simpa using b : Q i = true ∨ R i = true) with q | q
      · exact .inl (nb_iff.2 ⟨i, a, q, c⟩)
      · exact .inr (nb_iff.2 ⟨i, a, q, c⟩)
    have h2 : nbP A (fun i => Q i && R i) m n = true → nbP A Q m n = true ∧ nbP A R m n = true := fun h => by
      obtain ⟨i, a, b, c⟩ := nb_iff.1 h
      have q : Q i = true ∧ R i = true := by simpa using b
      exact ⟨nb_iff.2 ⟨i, a, q.1, c⟩, nb_iff.2 ⟨i, a, q.2, c⟩⟩
    rw [capP, capP, capP, capP]
    generalize nbP A (fun i => Q i || R i) m n = u at h1 ⊢
    generalize nbP A (fun i => Q i && R i) m n = v at h2 ⊢
    generalize nbP A Q m n = x at h1 h2 ⊢
    generalize nbP A R m n = y at h1 h2 ⊢
    cases u <;> cases v <;> cases x <;> cases y <;> simp at h1 h2 ⊢ <;> omega
/-- One capacity less. -/
theorem cap_less (f : Nat → Nat) (p : Nat) (Q : Nat → Bool) (n m : Nat) : capP A f Q n m ≤ capP A (fun i => if i = p then f i - 1 else f i) Q n m + if p < m ∧ nbP A Q p n = true then 1 else 0 := by
  induction m with
  | zero => exact Nat.zero_le _
  | succ m ih =>
    rw [capP, capP]
    by_cases c : p = m
    · subst c
      rw [if_neg (fun h => absurd h.1 (by omega))] at ih
      rw [if_pos rfl]
      by_cases h : nbP A Q p n = true
      · rw [if_pos h, if_pos h, if_pos ⟨by omega, h⟩]; omega
      · rw [if_neg h, if_neg h]; omega
    · rw [if_neg (show ¬ m = p by omega)]
      by_cases h : p < m ∧ nbP A Q p n = true
      · rw [if_pos h] at ih
        rw [if_pos (show p < m + 1 ∧ nbP A Q p n = true from ⟨by omega, h.2⟩)]
        omega
      · rw [if_neg h] at ih
        omega
/-- No set of P is short of capacities. -/
def Hall (A : Nat → Nat → Bool) (f : Nat → Nat) (n m : Nat) (P : Nat → Bool) : Prop := ∀ Q : Nat → Bool, (∀ i, Q i = true → P i = true) → cardP Q n ≤ capP A f Q n m
/-- One of P can be given away so that no set of the others gets short. -/
theorem hall_step (H : Hall A f n m P) (hk : k < n) (hP : P k = true) : ∃ j, j < m ∧ A k j = true ∧ 1 ≤ f j ∧ Hall A (fun i => if i = j then f i - 1 else f i) n m (fun i => P i && decide (i ≠ k)) := by
  refine Classical.byContradiction fun hno => ?_
  have tight : ∀ j, j < m → A k j = true → 1 ≤ f j → ∃ Q : Nat → Bool, (∀ i, Q i = true → P i = true ∧ i ≠ k) ∧ cardP Q n = capP A f Q n m ∧ nbP A Q j n = true := by
    intro j hj ha hf
    have hn : ¬ Hall A (fun i => if i = j then f i - 1 else f i) n m (fun i => P i && decide (i ≠ k)) := fun h => hno ⟨j, hj, ha, hf, h⟩
    unfold Hall at hn
    obtain ⟨Q, hQ⟩ := Classical.not_forall.1 hn
    obtain ⟨hs, hc⟩ := Classical.not_imp.1 hQ
    have hs' : ∀ i, Q i = true → P i = true ∧ i ≠ k := fun i hi => by simpa using hs i hi
    have h1 := H Q (fun i hi => (hs' i hi).1)
    have h2 := cap_less (A := A) f j Q n m
    cases hnb : nbP A Q j n with
    | false => rw [hnb, if_neg (by simp)] at h2; omega
    | true => rw [hnb, if_pos ⟨hj, rfl⟩] at h2; exact ⟨Q, hs', by omega, hnb⟩
  have union : ∀ m0, m0 ≤ m → ∃ U : Nat → Bool, (∀ i, U i = true → P i = true ∧ i ≠ k) ∧ cardP U n = capP A f U n m ∧ ∀ j, j < m0 → A k j = true → 1 ≤ f j → nbP A U j n = true := by
    intro m0
    induction m0 with
    | zero =>
      intro _
      refine ⟨fun _ => false, fun i h => (by cases h), ?_, fun j h => absurd h (by omega)⟩
      have a := H (fun _ => false) (fun i h => (by cases h))
      have b : capP A f (fun _ => false) n m = 0 := by
        clear a
        induction m with
        | zero => rfl
        | succ m ih =>
          rw [capP, if_neg (fun h => by obtain ⟨i, _, q, _⟩ := nb_iff.1 h; cases q)]
          have z : ∀ m', capP A f (fun _ => false) n m' = 0 := fun m' => by
            induction m' with
            | zero => rfl
            | succ m' ih' => rw [capP, ih', if_neg (fun h => by obtain ⟨i, _, q, _⟩ := nb_iff.1 h; cases q)]
          rw [z]
      omega
    | succ m0 ih =>
      intro hm
      obtain ⟨U, u1, u2, u3⟩ := ih (by omega)
      by_cases c : A k m0 = true ∧ 1 ≤ f m0
      · obtain ⟨Q, q1, q2, q3⟩ := tight m0 (by omega) c.1 c.2
        have s1 : ∀ i, (U i || Q i) = true → P i = true ∧ i ≠ k := fun i hi => by
          rcases (by simpa using hi : U i = true ∨ Q i = true) with q | q
          · exact u1 i q
          · exact q1 i q
        refine ⟨fun i => U i || Q i, s1, ?_, fun j hj a b => ?_⟩
        · have a1 := card_or_and U Q n
          have a2 := cap_sub (A := A) (f := f) U Q n m
          have a3 := H (fun i => U i || Q i) (fun i hi => (s1 i hi).1)
          have a4 := H (fun i => U i && Q i) (fun i hi => (u1 i (by simp at hi; exact hi.1)).1)
          omega
        · rcases (by omega : j < m0 ∨ j = m0) with h | rfl
          · exact nb_mono (fun i _ hi => by simp [hi]) (u3 j h a b)
          · exact nb_mono (fun i _ hi => by simp [hi]) q3
      · exact ⟨U, u1, u2, fun j hj a b => by
          rcases (by omega : j < m0 ∨ j = m0) with h | rfl
          · exact u3 j h a b
          · exact absurd ⟨a, b⟩ c⟩
  obtain ⟨U, u1, u2, u3⟩ := union m (Nat.le_refl _)
  have uk : ∀ i, i < n → (U i && decide (i = k)) = false := fun i hi => by
    by_cases c : i = k
    · subst c
      cases h : U i with
      | false => rfl
      | true => exact absurd rfl (u1 i h).2
    · simp [c]
  have a1 := card_or_and U (fun i => decide (i = k)) n
  rw [card_one k n hk, card_none uk] at a1
  have a2 := H (fun i => U i || decide (i = k)) (fun i hi => by
    rcases (by simpa using hi : U i = true ∨ i = k) with q | rfl
    · exact (u1 i q).1
    · exact hP)
  have a3 : capP A f (fun i => U i || decide (i = k)) n m ≤ capP A f U n m := cap_mono fun j hj h => by
    obtain ⟨i, b1, b2, b3⟩ := nb_iff.1 h
    rcases (by simpa using b2 : U i = true ∨ i = k) with q | rfl
    · exact .inl (nb_iff.2 ⟨i, b1, q, b3⟩)
    · rcases (by omega : 1 ≤ f j ∨ f j = 0) with z | z
      · exact .inl (u3 j hj b3 z)
      · exact .inr z
  omega
/-- A set that lacks most: one of it can be left out, and the lack is less by one. -/
theorem lack_step (H : ∀ Q : Nat → Bool, (∀ i, Q i = true → P i = true) → cardP Q n ≤ capP A f Q n m + (d + 1)) : ∀ c (S : Nat → Bool), cardP S n ≤ c → (∀ i, S i = true → P i = true) → cardP S n = capP A f S n m + (d + 1) →
    ∃ p, p < n ∧ P p = true ∧ ∀ Q : Nat → Bool, (∀ i, Q i = true → (P i && decide (i ≠ p)) = true) → cardP Q n ≤ capP A f Q n m + d := by
  intro c
  induction c with
  | zero => intro S a b e; omega
  | succ c ih =>
    intro S a b e
    obtain ⟨p, hp, hS⟩ := card_some (Q := S) (n := n) (by omega)
    refine Classical.byContradiction fun hno => ?_
    have hn : ¬ ∀ Q : Nat → Bool, (∀ i, Q i = true → (P i && decide (i ≠ p)) = true) → cardP Q n ≤ capP A f Q n m + d := fun h => hno ⟨p, hp, b p hS, h⟩
    obtain ⟨Q, hQ⟩ := Classical.not_forall.1 hn
    obtain ⟨hs, hc⟩ := Classical.not_imp.1 hQ
    have hs' : ∀ i, Q i = true → P i = true ∧ i ≠ p := fun i hi => by simpa using hs i hi
    have a1 := card_or_and S Q n
    have a2 := cap_sub (A := A) (f := f) S Q n m
    have a3 := H (fun i => S i || Q i) (fun i hi => by
      rcases (by simpa using hi : S i = true ∨ Q i = true) with q | q
      · exact b i q
      · exact (hs' i q).1)
    have sub : ∀ i, (S i && Q i) = true → P i = true := fun i hi => b i (by simp at hi; exact hi.1)
    have a4 := H (fun i => S i && Q i) sub
    have a5 := card_less (Q := S) hp hS
    have a6 : cardP (fun i => S i && Q i) n ≤ cardP (fun i => S i && decide (i ≠ p)) n := card_mono fun i _ hi => by
      have q : S i = true ∧ Q i = true := by simpa using hi
      simp [q.1, (hs' i q.2).2]
    exact hno (ih (fun i => S i && Q i) (by omega) sub (by omega))
/-- All but d can be served, where no set lacks more than d. -/
theorem lack_all : ∀ d (P : Nat → Bool), (∀ Q : Nat → Bool, (∀ i, Q i = true → P i = true) → cardP Q n ≤ capP A f Q n m + d) → ∃ T : Nat → Bool, (∀ i, T i = true → P i = true) ∧ cardP P n ≤ cardP T n + d ∧ Hall A f n m T := by
  intro d
  induction d with
  | zero => intro P H; exact ⟨P, fun i h => h, Nat.le_refl _, H⟩
  | succ d ih =>
    intro P H
    by_cases c : ∃ S : Nat → Bool, (∀ i, S i = true → P i = true) ∧ cardP S n = capP A f S n m + (d + 1)
    · obtain ⟨S, s1, s2⟩ := c
      obtain ⟨p, hp, hP, h⟩ := lack_step H _ S (Nat.le_refl _) s1 s2
      obtain ⟨T, t1, t2, t3⟩ := ih _ h
      have := card_less (Q := P) hp hP
      exact ⟨T, fun i hi => by have := t1 i hi; simp at this; exact this.1, by omega, t3⟩
    · obtain ⟨T, t1, t2, t3⟩ := ih P (fun Q hQ => by
        have a := H Q hQ
        rcases (by omega : cardP Q n ≤ capP A f Q n m + d ∨ cardP Q n = capP A f Q n m + (d + 1)) with q | q
        · exact q
        · exact absurd ⟨Q, hQ, q⟩ c)
      exact ⟨T, t1, by omega, t3⟩
/-- No more can be served than all less what a set lacks. -/
theorem lack_most {T S : Nat → Bool} (H : Hall A f n m T) : cardP T n + cardP S n ≤ n + capP A f S n m := by
  have a1 := card_or_and T S n
  have a2 := card_le (fun i => T i || S i) n
  have a3 := H (fun i => T i && S i) (fun i hi => by simp at hi; exact hi.1)
  have a4 : capP A f (fun i => T i && S i) n m ≤ capP A f S n m := cap_mono fun j hj h => .inl (nb_mono (fun i _ hi => by simp at hi; exact hi.2) h)
  omega
end
end Go.Proofs.Ytjpalndcfaeihaa
