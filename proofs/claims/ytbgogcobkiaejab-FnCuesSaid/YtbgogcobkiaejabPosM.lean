/- The cues that can begin when those of a set are over, as the program looks for them (by After alone), and why this is what the reference finds (by all waiting). Plain mathematics. -/
import Derived.Test.YtbgogcobkiaejabCcnM
import Derived.Test.YtbgogcobkiaejabSetI
import Derived.Test.YtbgogcobkiaejabMapI
namespace Go.Proofs.Ytbgogcobkiaejab
set_option linter.unusedVariables false
set_option linter.unusedSimpArgs false
open Go.RowKit

def progB (ls : List RCue) (D k : Nat) : Bool := !D.testBit k && holdsAll D (ls.getD k RCue.zero).f1
def possTo (ls : List RCue) (D : Nat) : Nat → List Int
  | 0 => []
  | k + 1 => if progB ls D k = true then possTo ls D k ++ [(k : Int)] else possTo ls D k
theorem possTo_len (ls : List RCue) (D k : Nat) : (possTo ls D k).length ≤ k := by
  induction k with
  | zero => exact Nat.le_refl _
  | succ k ih =>
    unfold possTo
    split
    · simp only [List.length_append, List.length_cons, List.length_nil]; omega
    · omega
theorem poss_in (ls : List RCue) (D : Nat) : ∀ n z, z ∈ possTo ls D n → ∃ k : Nat, z = (k : Int) ∧ k < n ∧ progB ls D k = true := by
  intro n
  induction n with
  | zero => intro z hz; simp [possTo] at hz
  | succ n ih =>
    intro z hz
    unfold possTo at hz
    split at hz
    · next c =>
      rw [List.mem_append, List.mem_singleton] at hz
      rcases hz with q | rfl
      · obtain ⟨k, h1, h2, h3⟩ := ih z q
        exact ⟨k, h1, by omega, h3⟩
      · exact ⟨n, rfl, by omega, c⟩
    · obtain ⟨k, h1, h2, h3⟩ := ih z hz
      exact ⟨k, h1, by omega, h3⟩
theorem poss_part (ls : List RCue) (D : Nat) : ∀ n q, q ≤ (possTo ls D n).length → ∃ K, K ≤ n ∧ (possTo ls D n).take q = possTo ls D K := by
  intro n
  induction n with
  | zero => intro q _; exact ⟨0, Nat.le_refl _, by simp [possTo]⟩
  | succ n ih =>
    intro q hq
    by_cases c : q ≤ (possTo ls D n).length
    · obtain ⟨K, h1, h2⟩ := ih q c
      refine ⟨K, by omega, ?_⟩
      rw [← h2]
      conv => lhs; unfold possTo
      split
      · exact List.take_append_of_le_length c
      · rfl
    · have e : q = (possTo ls D (n + 1)).length := by
        have h : (possTo ls D (n + 1)).length ≤ (possTo ls D n).length + 1 := by
          conv => lhs; unfold possTo
          split <;> simp
        omega
      exact ⟨n + 1, Nat.le_refl _, by rw [e]; exact List.take_length⟩
/-- Whoever is over, all that it waits for is over. -/
def Closed (W : List Nat) (n X : Nat) : Prop := ∀ j, j < n → X.testBit j = true → W.getD j 0 ||| X = X
theorem sub_iff (s D : Nat) : s ||| D = D ↔ ∀ j, s.testBit j = true → D.testBit j = true := by
  constructor
  · intro h j hj
    rw [← h, Nat.testBit_or, hj]
    rfl
  · intro h
    refine Nat.eq_of_testBit_eq fun j => ?_
    rw [Nat.testBit_or]
    cases c : s.testBit j with
    | false => rfl
    | true => rw [h j c]; rfl
theorem closed_put {W : List Nat} {n X k : Nat} (h : Closed W n X) (hk : W.getD k 0 ||| X = X) : Closed W n (X ||| 1 <<< k) := fun j hj hb => by
  rw [sub_iff]
  intro m hm
  rw [Nat.testBit_or, bit_one, Bool.or_eq_true, decide_eq_true_eq] at hb
  rw [Nat.testBit_or, Bool.or_eq_true]
  rcases hb with q | rfl
  · exact .inl ((sub_iff _ _).1 (h j hj q) m hm)
  · exact .inl ((sub_iff _ _).1 hk m hm)
theorem closed_none (W : List Nat) (n : Nat) : Closed W n 0 := fun j _ hb => by simp at hb
section
variable {ls : List RCue}
theorem rise_in {zs : List Int} {most : Int} (h : rising zs most = true) : ∀ i (hi : i < zs.length), 0 ≤ zs[i] ∧ zs[i] ≤ most := fun i hi => by
  have r := (rise_iff zs most zs.length).1 h i hi
  unfold riseAt at r
  rw [show zs.getD i 0 = zs[i] by rw [List.getD_eq_getElem?_getD, List.getElem?_eq_getElem hi]; rfl] at r
  simp only [Bool.and_eq_true] at r
  simpa [inB] using r.1
theorem fine_after {n : Nat} {l : RCue} (h : cueFine n l = true) : ∀ i (hi : i < l.f1.length), 0 ≤ l.f1[i] ∧ l.f1[i] ≤ (n : Int) - 1 := by
  unfold cueFine at h
  simp only [Bool.and_eq_true] at h
  exact rise_in h.2.1
/-- By After alone, or by all waiting: for a closed set it is the same. -/
theorem prog_free (hok : cuesOk ls = true) {D k : Nat} (hD : Closed (waitSet ls) ls.length D) (hk : k < ls.length) : progB ls D k = freeB (waitSet ls) D k := by
  unfold progB freeB
  congr 1
  rw [getC hk]
  have fine := fine_after ((cuesOk_has hok).2.1 k hk)
  have e : holdsAll D ls[k].f1 = true ↔ (waitSet ls).getD k 0 ||| D = D := by
    rw [holdsAll_iff, sub_iff]
    constructor
    · intro h m hm
      have go : ∀ a b, Way (Names ls) ls.length a b → (∀ x, Names ls a x → D.testBit x = true) → D.testBit b = true := by
        intro a b w
        induction w with
        | one e => exact fun H => H _ e
        | @cons i j b e hj _ ih => exact fun H => ih (fun x hx => (sub_iff _ _).1 (hD j hj (H _ e)) x ((wait_bit ls hj).2 (.one hx)))
      refine go k m ((wait_bit ls hk).1 hm) fun x hx => ?_
      obtain ⟨_, _, q, hq, ex⟩ := hx
      have hb := h q hq
      rw [List.getD_eq_getElem?_getD, List.getElem?_eq_getElem hq] at ex
      rw [show ls[k].f1[q] = (x : Int) from ex, Int.toNat_natCast] at hb
      exact hb
    · intro h i hi
      obtain ⟨x, hx⟩ := Int.eq_ofNat_of_zero_le (fine i hi).1
      have hxl : x < ls.length := by have := (fine i hi).2; omega
      rw [hx, Int.toNat_natCast]
      exact h x ((wait_bit ls hk).2 (.one ⟨hxl, hk, i, hi, by rw [List.getD_eq_getElem?_getD, List.getElem?_eq_getElem hi]; exact hx⟩))
  cases c : holdsAll D ls[k].f1 with
  | true => rw [decide_eq_true (e.1 c)]
  | false => rw [decide_eq_false (fun x => by rw [e.2 x] at c; cases c)]
theorem free_poss (hok : cuesOk ls = true) : ∀ n, n ≤ ls.length → possTo ls 0 n = freeTo ls n := by
  intro n
  induction n with
  | zero => intro _; rfl
  | succ n ih =>
    intro hn
    rw [possTo, freeTo, ih (by omega)]
    have e : progB ls 0 n = true ↔ (ls.getD n RCue.zero).f1.length = 0 := by
      unfold progB
      rw [show (!(Nat.testBit 0 n)) = true by simp, Bool.true_and, holdsAll_iff]
      constructor
      · intro h
        refine Classical.byContradiction fun c => ?_
        have := h 0 (by omega)
        simp at this
      · intro h i hi
        omega
    by_cases c : progB ls 0 n = true
    · rw [if_pos c, if_pos (e.1 c)]
    · rw [if_neg c, if_neg (fun x => c (e.2 x))]
/-- The least one that is possible stands first. -/
theorem poss_first (hok : cuesOk ls = true) {D : Nat} (hD : Closed (waitSet ls) ls.length D) : ∀ n, n ≤ ls.length → (nextTo (waitSet ls) D n = -1 ∧ possTo ls D n = []) ∨ (0 ≤ nextTo (waitSet ls) D n ∧ ∃ t, possTo ls D n = nextTo (waitSet ls) D n :: t) := by
  intro n
  induction n with
  | zero => intro _; exact .inl ⟨rfl, rfl⟩
  | succ n ih =>
    intro hn
    have e := prog_free hok hD (k := n) (by omega)
    rw [nextTo, possTo, e]
    rcases ih (by omega) with ⟨h1, h2⟩ | ⟨h1, t, h2⟩
    · rw [if_pos (by omega), h2]
      by_cases c : freeB (waitSet ls) D n = true
      · rw [if_pos c, if_pos c]
        exact .inr ⟨by omega, [], rfl⟩
      · rw [if_neg c, if_neg c]
        exact .inl ⟨rfl, rfl⟩
    · rw [if_neg (by omega)]
      refine .inr ⟨h1, ?_⟩
      by_cases c : freeB (waitSet ls) D n = true
      · rw [if_pos c, h2]
        exact ⟨_, rfl⟩
      · rw [if_neg c, h2]
        exact ⟨_, rfl⟩
theorem ord_closed (hok : cuesOk ls = true) : ∀ m, m ≤ ls.length → Closed (waitSet ls) ls.length (ordTo (waitSet ls) ls.length m).2 := by
  intro m
  induction m with
  | zero => intro _; exact closed_none _ _
  | succ m ih =>
    intro hm
    obtain ⟨_, hx⟩ := ord_at hok m (by omega)
    obtain ⟨k, hk, e, hf⟩ := hx (by omega)
    unfold freeB at hf
    simp only [Bool.and_eq_true, decide_eq_true_eq] at hf
    rw [ordTo, e, Int.toNat_natCast]
    exact closed_put (ih (by omega)) hf.2
/-- One step of the count. -/
def stepT (S : Nat) (T : List Nat) (k : Nat) : List Nat := T.set (S ||| 1 <<< k) (T.getD (S ||| 1 <<< k) 0 + T.getD S 0)
def foldT (S : Nat) (T : List Nat) (zs : List Int) : List Nat := zs.foldl (fun T z => stepT S T z.toNat) T
def progT (ls : List RCue) (S : Nat) (T : List Nat) (q : Nat) : List Nat := foldT S T ((possTo ls S ls.length).take q)
theorem progT_next {S q : Nat} {T : List Nat} (h : q < (possTo ls S ls.length).length) : progT ls S T (q + 1) = stepT S (progT ls S T q) (possTo ls S ls.length)[q].toNat := by
  unfold progT foldT
  rw [List.take_add_one, List.getElem?_eq_getElem h, List.foldl_append]
  rfl
theorem step_none {S k : Nat} {T : List Nat} (h : T.getD S 0 = 0) : stepT S T k = T := by
  unfold stepT
  rw [h, Nat.add_zero]
  refine List.ext_getElem (by simp) fun i h1 h2 => ?_
  by_cases c : S ||| 1 <<< k = i
  · subst c
    rw [List.getElem_set_self, List.getD_eq_getElem?_getD, List.getElem?_eq_getElem h2]
    rfl
  · rw [List.getElem_set_ne c]
theorem fold_none {S : Nat} {T : List Nat} (h : T.getD S 0 = 0) : ∀ zs, foldT S T zs = T := by
  intro zs
  induction zs with
  | nil => rfl
  | cons z zs ih => show foldT S (stepT S T z.toNat) zs = T; rw [step_none h]; exact ih
theorem cntK_none {W : List Nat} {S : Nat} {T : List Nat} (h : T.getD S 0 = 0) : ∀ k, cntK W S T k = T := by
  intro k
  induction k with
  | zero => rfl
  | succ k ih =>
    unfold cntK
    rw [ih]
    split
    · exact step_none h
    · rfl
theorem cntK_fold (hok : cuesOk ls = true) {S : Nat} {T : List Nat} (hS : Closed (waitSet ls) ls.length S) : ∀ K, K ≤ ls.length → foldT S T (possTo ls S K) = cntK (waitSet ls) S T K := by
  intro K
  induction K with
  | zero => intro _; rfl
  | succ K ih =>
    intro hK
    rw [possTo, cntK, prog_free hok hS (by omega), ← ih (by omega)]
    split
    · unfold foldT
      rw [List.foldl_append]
      show stepT S _ (K : Int).toNat = _
      rw [Int.toNat_natCast]
      rfl
    · rfl
/-- A set that is not closed is never come to. -/
def NoneAt (W : List Nat) (n : Nat) (T : List Nat) : Prop := ∀ X, ¬ Closed W n X → T.getD X 0 = 0
theorem none_next {W T : List Nat} {n S k : Nat} (h : NoneAt W n T) (hf : freeB W S k = true) : NoneAt W n (stepT S T k) := by
  by_cases c : Closed W n S
  · intro X hX
    unfold freeB at hf
    simp only [Bool.and_eq_true, decide_eq_true_eq] at hf
    have hne : S ||| 1 <<< k ≠ X := fun e => hX (e ▸ closed_put c hf.2)
    unfold stepT
    rw [List.getD_eq_getElem?_getD, List.getElem?_set_ne hne, ← List.getD_eq_getElem?_getD]
    exact h X hX
  · rw [step_none (h S c)]
    exact h
theorem none_row {W T : List Nat} {n S : Nat} (h : NoneAt W n T) : ∀ k, NoneAt W n (cntK W S T k) := by
  intro k
  induction k with
  | zero => exact h
  | succ k ih =>
    unfold cntK
    split
    · next c => exact none_next ih c
    · exact ih
theorem none_all (W : List Nat) (n : Nat) : ∀ S, NoneAt W n (cntS W n S) := by
  intro S
  induction S with
  | zero =>
    intro X hX
    have h0 : 0 ≠ X := fun e => hX (e ▸ closed_none W n)
    unfold cntS
    rw [List.getD_eq_getElem?_getD, List.getElem?_set_ne h0, List.getElem?_replicate]
    split <;> rfl
  | succ S ih => exact none_row ih n
/-- The program's count comes by the same tables. -/
theorem progT_is (hok : cuesOk ls = true) (S q : Nat) (hq : q ≤ (possTo ls S ls.length).length) : ∃ K, K ≤ ls.length ∧ progT ls S (cntS (waitSet ls) ls.length S) q = cntK (waitSet ls) S (cntS (waitSet ls) ls.length S) K := by
  unfold progT
  by_cases c : Closed (waitSet ls) ls.length S
  · obtain ⟨K, h1, h2⟩ := poss_part ls S ls.length q hq
    exact ⟨K, h1, by rw [h2]; exact cntK_fold hok c K h1⟩
  · exact ⟨0, by omega, fold_none (none_all _ _ S S c) _⟩
theorem progT_all (hok : cuesOk ls = true) (S : Nat) : progT ls S (cntS (waitSet ls) ls.length S) (possTo ls S ls.length).length = cntS (waitSet ls) ls.length (S + 1) := by
  unfold progT
  rw [List.take_length, cntS]
  by_cases c : Closed (waitSet ls) ls.length S
  · exact cntK_fold hok c _ (Nat.le_refl _)
  · rw [fold_none (none_all _ _ S S c), cntK_none (none_all _ _ S S c)]
end
end Go.Proofs.Ytbgogcobkiaejab
