/- Which cue waits for which, as sets of bits: what stands in After, and all that follows from it. Plain mathematics. -/
import Derived.Test.YtbgogcobkiaejabCueM
import Derived.Test.YtbgogcobkiaejabIn
namespace Go.Proofs.Ytbgogcobkiaejab
set_option linter.unusedVariables false
set_option linter.unusedSimpArgs false
open Go.RowKit

/-- The indices of cues among the first k numbers, as bits. -/
def afterTo (n : Nat) (zs : List Int) : Nat → Nat
  | 0 => 0
  | k + 1 => if inB (zs.getD k 0) 0 ((n : Int) - 1) = true then afterTo n zs k ||| 1 <<< (zs.getD k 0).toNat else afterTo n zs k
theorem bit_one (j k : Nat) : (1 <<< j).testBit k = decide (j = k) := by
  rw [Nat.shiftLeft_eq, Nat.one_mul, Nat.testBit_two_pow]
theorem after_bit (n : Nat) (zs : List Int) (j : Nat) : ∀ k, (afterTo n zs k).testBit j = true ↔ j < n ∧ ∃ i, i < k ∧ zs.getD i 0 = (j : Int) := by
  intro k
  induction k with
  | zero => simp [afterTo]
  | succ k ih =>
    unfold afterTo
    by_cases c : inB (zs.getD k 0) 0 ((n : Int) - 1) = true
    · have hr : 0 ≤ zs.getD k 0 ∧ zs.getD k 0 ≤ (n : Int) - 1 := by simpa [inB] using c
      rw [if_pos c, Nat.testBit_or, Bool.or_eq_true, ih, bit_one, decide_eq_true_eq]
      constructor
      · rintro (⟨h1, i, hi, e⟩ | h)
        · exact ⟨h1, i, by omega, e⟩
        · exact ⟨by omega, k, by omega, by omega⟩
      · rintro ⟨h1, i, hi, e⟩
        rcases (by omega : i < k ∨ i = k) with h | rfl
        · exact .inl ⟨h1, i, h, e⟩
        · exact .inr (by omega)
    · rw [if_neg c, ih]
      constructor
      · rintro ⟨h1, i, hi, e⟩
        exact ⟨h1, i, by omega, e⟩
      · rintro ⟨h1, i, hi, e⟩
        rcases (by omega : i < k ∨ i = k) with h | rfl
        · exact ⟨h1, i, h, e⟩
        · exact absurd (inB_yes (by rw [e]; omega)) c
theorem small_of {n s : Nat} (h : ∀ j, s.testBit j = true → j < n) : s < 2 ^ n := Nat.lt_pow_two_of_testBit s fun j hj => by
  cases c : s.testBit j with
  | false => rfl
  | true => exact absurd (h j c) (by omega)
theorem after_lt (n : Nat) (zs : List Int) (k : Nat) : afterTo n zs k < 2 ^ n := small_of fun j hj => ((after_bit n zs j k).1 hj).1
def rowsA (ls : List RCue) : List Nat := ls.map fun l => afterTo ls.length l.f1 l.f1.length
/-- One pass: whoever waits for m waits for all for which m waits. -/
def passTo (m : Nat) (W : List Nat) : Nat → List Nat
  | 0 => W
  | i + 1 => if ((passTo m W i).getD i 0).testBit m = true then (passTo m W i).set i ((passTo m W i).getD i 0 ||| (passTo m W i).getD m 0) else passTo m W i
def closeTo (W : List Nat) : Nat → List Nat
  | 0 => W
  | m + 1 => passTo m (closeTo W m) W.length
def waitSet (ls : List RCue) : List Nat := closeTo (rowsA ls) ls.length
theorem pass_len (m : Nat) (W : List Nat) : ∀ i, (passTo m W i).length = W.length := by
  intro i
  induction i with
  | zero => rfl
  | succ i ih => unfold passTo; split <;> simp [ih]
theorem close_len (W : List Nat) : ∀ m, (closeTo W m).length = W.length := by
  intro m
  induction m with
  | zero => rfl
  | succ m ih => rw [closeTo, pass_len, ih]
theorem waitSet_len (ls : List RCue) : (waitSet ls).length = ls.length := by rw [waitSet, close_len, rowsA, List.length_map]
theorem pass_at (m : Nat) (W : List Nat) : ∀ i, i ≤ W.length → ∀ j, (passTo m W i).getD j 0 = if j < i ∧ (W.getD j 0).testBit m = true then W.getD j 0 ||| W.getD m 0 else W.getD j 0 := by
  intro i
  induction i with
  | zero => intro _ j; rw [if_neg (by omega)]; rfl
  | succ i ih =>
    intro hi j
    have hm : (passTo m W i).getD m 0 = W.getD m 0 := by
      rw [ih (by omega) m]
      split
      · exact Nat.or_self _
      · rfl
    have hii : (passTo m W i).getD i 0 = W.getD i 0 := by rw [ih (by omega) i, if_neg (by omega)]
    unfold passTo
    rw [hm, hii]
    by_cases c : (W.getD i 0).testBit m = true
    · rw [if_pos c]
      by_cases e : j = i
      · subst e
        rw [if_pos ⟨by omega, c⟩, List.getD_eq_getElem?_getD, List.getElem?_set_self (by rw [pass_len]; omega)]
        rfl
      · rw [List.getD_eq_getElem?_getD, List.getElem?_set_ne (by omega), ← List.getD_eq_getElem?_getD, ih (by omega) j]
        by_cases q : j < i ∧ (W.getD j 0).testBit m = true
        · rw [if_pos q, if_pos ⟨by omega, q.2⟩]
        · rw [if_neg q, if_neg (fun x => q ⟨by omega, x.2⟩)]
    · rw [if_neg c, ih (by omega) j]
      by_cases q : j < i ∧ (W.getD j 0).testBit m = true
      · rw [if_pos q, if_pos ⟨by omega, q.2⟩]
      · rw [if_neg q, if_neg (fun x => by
          rcases (by omega : j < i ∨ j = i) with h | rfl
          · exact q ⟨h, x.2⟩
          · exact c x.2)]
/-- A way along E of which all but the ends lie below M. -/
inductive Way (E : Nat → Nat → Prop) (M : Nat) : Nat → Nat → Prop where
  | one {i k : Nat} (h : E i k) : Way E M i k
  | cons {i j k : Nat} (h : E i j) (hj : j < M) (t : Way E M j k) : Way E M i k
section
variable {E : Nat → Nat → Prop} {M M' i j k : Nat}
theorem Way.mono (hM : M ≤ M') (h : Way E M i k) : Way E M' i k := by
  induction h with
  | one h => exact .one h
  | cons h hj _ ih => exact .cons h (Nat.lt_of_lt_of_le hj hM) ih
theorem Way.trans (h : Way E M i j) (hj : j < M) (t : Way E M j k) : Way E M i k := by
  induction h with
  | one h => exact .cons h hj t
  | cons h hq _ ih => exact .cons h hq (ih hj t)
theorem Way.split (h : Way E (M + 1) i k) : Way E M i k ∨ (Way E M i M ∧ Way E M M k) := by
  induction h with
  | one h => exact .inl (.one h)
  | @cons i j k h hj _ ih =>
    rcases (by omega : j < M ∨ j = M) with q | rfl
    · rcases ih with t | ⟨t1, t2⟩
      · exact .inl (.cons h q t)
      · exact .inr ⟨.cons h q t1, t2⟩
    · rcases ih with t | ⟨_, t2⟩
      · exact .inr ⟨.one h, t⟩
      · exact .inr ⟨.one h, t2⟩
end
/-- Cue i names cue k in its After. -/
def Names (ls : List RCue) (i k : Nat) : Prop := k < ls.length ∧ ∃ h : i < ls.length, ∃ j, j < ls[i].f1.length ∧ ls[i].f1.getD j 0 = (k : Int)
theorem rowsA_bit (ls : List RCue) {i k : Nat} (hi : i < ls.length) : ((rowsA ls).getD i 0).testBit k = true ↔ Names ls i k := by
  have e : (rowsA ls).getD i 0 = afterTo ls.length ls[i].f1 ls[i].f1.length := by
    unfold rowsA
    rw [List.getD_eq_getElem?_getD, List.getElem?_map, List.getElem?_eq_getElem hi]
    rfl
  rw [e, after_bit]
  exact ⟨fun ⟨h1, q⟩ => ⟨h1, hi, q⟩, fun ⟨h1, _, q⟩ => ⟨h1, q⟩⟩
theorem close_bit (ls : List RCue) : ∀ m, m ≤ ls.length → ∀ i k, i < ls.length → (((closeTo (rowsA ls) m).getD i 0).testBit k = true ↔ Way (Names ls) m i k) := by
  intro m
  have hl : (rowsA ls).length = ls.length := by rw [rowsA, List.length_map]
  induction m with
  | zero =>
    intro _ i k hi
    rw [closeTo, rowsA_bit ls hi]
    exact ⟨fun h => .one h, fun h => by cases h with | one h => exact h | cons _ hj _ => omega⟩
  | succ m ih =>
    intro hm i k hi
    rw [closeTo, pass_at m _ _ (by rw [close_len]; omega) i]
    have h1 := ih (by omega) i m hi
    have h2 := ih (by omega) i k hi
    have h3 := ih (by omega) m k (by omega)
    by_cases c : ((closeTo (rowsA ls) m).getD i 0).testBit m = true
    · rw [if_pos ⟨by omega, c⟩, Nat.testBit_or, Bool.or_eq_true, h2, h3]
      constructor
      · rintro (h | h)
        · exact h.mono (by omega)
        · exact ((h1.1 c).mono (by omega)).trans (by omega) (h.mono (by omega))
      · intro h
        rcases h.split with h | ⟨_, h⟩
        · exact .inl h
        · exact .inr h
    · rw [if_neg (fun x => c x.2), h2]
      exact ⟨fun h => h.mono (by omega), fun h => by
        rcases h.split with h | ⟨h, _⟩
        · exact h
        · exact absurd (h1.2 h) c⟩
/-- Cue i waits for cue k. -/
def Waits (ls : List RCue) (i k : Nat) : Prop := Way (Names ls) ls.length i k
theorem wait_bit (ls : List RCue) {i k : Nat} (hi : i < ls.length) : ((waitSet ls).getD i 0).testBit k = true ↔ Waits ls i k := close_bit ls ls.length (Nat.le_refl _) i k hi
theorem Way.ends {ls : List RCue} {M i k : Nat} (h : Way (Names ls) M i k) : i < ls.length ∧ k < ls.length := by
  induction h with
  | one h => exact ⟨h.2.1, h.1⟩
  | cons h _ _ ih => exact ⟨h.2.1, ih.2⟩
theorem close_lt (ls : List RCue) {m i : Nat} (hm : m ≤ ls.length) (hi : i < ls.length) : (closeTo (rowsA ls) m).getD i 0 < 2 ^ ls.length := small_of fun j hj => ((close_bit ls m hm i j hi).1 hj).ends.2
end Go.Proofs.Ytbgogcobkiaejab
