/- A map from numbers to truths that the call made, as a set of numbers; what a search through all waiting leaves in it. Plain mathematics and one map. Condition: the keys lie below 4096. -/
import Derived.Test.YtbgogcobkiaejabCwaM
import Derived.Test.YtbgogcobkiaejabRowB
import Derived.Maps.Own
import Derived.Maps.OwnOps
import Derived.Maps.Views
namespace Go.Proofs.Ytbgogcobkiaejab
set_option linter.unusedVariables false
set_option linter.unusedSimpArgs false
open Go.RowKit Go.Maps

theorem lawM : Keyed Try.prog 3 := int_keyed Try.underlying3
theorem zeroM (w : World) : (zeroValue 4).run Try.prog w = .ok (.bool false) w := by kernel_rfl
theorem keyM (k : Nat) (hk : k < 4096) : keyOf Try.prog 3 (.int .i64 (k : Int)) = some (.int .i64 (k : Int)) := keyOf_int_mk Try.underlying3 (by
  have e1 : IntKind.i64.min = -9223372036854775808 := by decide
  have e2 : IntKind.i64.max = 9223372036854775807 := by decide
  simp only [Lit.wf, Bool.and_eq_true, decide_eq_true_eq, e1, e2]
  omega)
/-- The number k besides. -/
def mark (S : Nat → Bool) (k : Nat) : Nat → Bool := fun j => decide (j = k) || S j
/-- Block b is a map of at most n keys; the keys below 4096 that hold true are the set S. -/
def SetM (w : World) (b n : Nat) (S : Nat → Bool) : Prop := ∃ D : DataW Unit, w.ownsMap Try.prog 3 (plainElem Try.prog 4) b n D ∧ ∀ k : Nat, k < 4096 → D.atKey (.int .i64 (k : Int)) (.lit (.bool false)) = .lit (.bool (S k))
theorem setM_made (w : World) : SetM (w.alloc (.map #[] 0)) w.heap.size 0 (fun _ => false) := ⟨_, World.ownsMap_made _ _ _ _, fun k _ => rfl⟩
section
variable {w w' : World} {b n k : Nat} {S : Nat → Bool}
theorem SetM.lt (h : SetM w b n S) : b < w.heap.size := let ⟨_, o, _⟩ := h; o.lt
theorem SetM.kept {row : Option Nat} (h : SetM w b n S) (hg : w.grownBy w' row) (hne : some b ≠ row) : SetM w' b n S := let ⟨D, o, e⟩ := h; ⟨D, o.kept hg hne, e⟩
theorem SetM.below (h : SetM w b n S) (hb : Below w.heap.size w w') : SetM w' b n S := h.kept (grown_of_below hb none) (by simp)
theorem SetM.look (h : SetM w b n S) (hk : k < 4096) : (Instr.lookup 52 (.map (some b)) (.int .i64 (k : Int)) false).run Try.prog w = .ok (.bool (S k)) w := by
  obtain ⟨D, o, e⟩ := h
  obtain ⟨v, ps, hrun, hv⟩ := o.lookup lawM (t := 52) Try.underlying52 (zeroM w) (plainElem_bool (H := Unit) Try.underlying4 false) (keyM k hk)
  rw [e k hk] at hv
  rw [hrun]
  unfold plainElem at hv
  rw [Try.underlying4] at hv
  cases v <;> simp at hv
  rw [hv.1]
theorem SetM.store (h : SetM w b n S) (hk : k < 4096) (hn : n < 4096) :
    ∃ w', (Instr.mapUpdate 52 (.map (some b)) (.int .i64 (k : Int)) (.bool true)).run Try.prog w = .ok () w' ∧ SetM w' b (n + 1) (mark S k) ∧ w.grownBy w' (some b) := by
  obtain ⟨D, o, e⟩ := h
  obtain ⟨w', hrun, o2, g2⟩ := o.update lawM (t := 52) (e := 4) Try.underlying52 (by unfold maxLen; omega) (keyM k hk) (plainElem_bool (H := Unit) Try.underlying4 true)
  refine ⟨w', hrun, ⟨_, o2, fun j hj => ?_⟩, g2⟩
  have hm : IsMap D := by obtain ⟨_, _, _, _, _, e⟩ := o; exact ⟨_, e⟩
  by_cases c : j = k
  · subst c
    rw [atKey_put_same hm (by simp [WideAt.IsKeyLit])]
    simp [mark]
  · rw [atKey_put_other (by intro q; exact c (by have := (Lit.int.inj q).2; omega)), e j hj]
    simp [mark, c]
end
theorem wpList_markM {w : World} {ops : Array Oper} {rest : List Oper} {o : Oper} {a : Act} {Q : Exit → Act → World → Prop}
    (hg : o.guard = none) (m x : Operand) (hop : o.op = Op.mapUpdate 52 m x (.const (.bool true))) (b n k : Nat) (S : Nat → Bool)
    (hm : a.eval m = .map (some b)) (hx : a.eval x = .int .i64 (k : Int)) (h : SetM w b n S) (hk : k < 4096) (hn : n < 4096)
    (hK : ∀ w', SetM w' b (n + 1) (mark S k) → w.grownBy w' (some b) → wpList Try.prog ops Q rest (a.put o.dst undef) w') :
    wpList Try.prog ops Q (o :: rest) a w := by
  refine wpList_plain hg fun K' hK' => ?_
  obtain ⟨w', hrun, r1, r2⟩ := h.store hk hn
  have e : a.eval (.const (.bool true)) = .bool true := rfl
  unfold Oper.wp
  simp [execOp, hop, hm, hx, e, hrun, Result.andThen]
  exact hK' _ _ (hK w' r1 r2)
/-- How many of the first n are in the set. -/
def cntP (S : Nat → Bool) : Nat → Nat
  | 0 => 0
  | j + 1 => cntP S j + (if S j = true then 1 else 0)
theorem cntP_le (S : Nat → Bool) (n : Nat) : cntP S n ≤ n := by
  induction n with
  | zero => exact Nat.le_refl _
  | succ n ih => unfold cntP; split <;> omega
theorem cntP_mark (S : Nat → Bool) (k : Nat) (hk : S k = false) : ∀ n, cntP (mark S k) n = cntP S n + (if k < n then 1 else 0) := by
  intro n
  induction n with
  | zero => simp [cntP]
  | succ n ih =>
    unfold cntP
    rw [ih]
    by_cases c : n = k
    · subst c
      rw [show mark S n n = true by simp [mark], hk]
      simp
    · rw [show mark S k n = S n by simp [mark, c]]
      by_cases q : k < n
      · rw [show (if k < n then 1 else 0) = 1 from if_pos q, show (if k < n + 1 then 1 else 0) = 1 from if_pos (by omega)]; omega
      · rw [show (if k < n then 1 else 0) = 0 from if_neg q, show (if k < n + 1 then 1 else 0) = 0 from if_neg (by omega)]; omega
theorem cntP_none (n : Nat) : cntP (fun _ => false) n = 0 := by
  induction n with
  | zero => rfl
  | succ n ih => unfold cntP; rw [ih]; simp
theorem cntP_more {S T : Nat → Bool} (h : ∀ k, S k = true → T k = true) (n : Nat) : cntP S n ≤ cntP T n := by
  induction n with
  | zero => exact Nat.le_refl _
  | succ n ih =>
    unfold cntP
    cases c : S n with
    | false => rw [if_neg (by simp)]; omega
    | true => rw [h n c]; simp; omega
/-- The first j cues of After are through. -/
structure WentTo (ls : List RCue) (i j : Nat) (S T : Nat → Bool) : Prop where
  more : ∀ k, S k = true → T k = true
  all : ∀ q, q < j → ∀ k : Nat, k < ls.length → (ls.getD i RCue.zero).f1.getD q 0 = (k : Int) → T k = true
  new : ∀ k, T k = true → S k = true ∨ (Waits ls i k ∧ ∀ m, Names ls k m → T m = true)
  low : ∀ k, T k = true → k < ls.length
structure Went (ls : List RCue) (i : Nat) (S T : Nat → Bool) : Prop where
  more : ∀ k, S k = true → T k = true
  all : ∀ k, Names ls i k → T k = true
  new : ∀ k, T k = true → S k = true ∨ (Waits ls i k ∧ ∀ m, Names ls k m → T m = true)
  low : ∀ k, T k = true → k < ls.length
section
variable {ls : List RCue} {i j k : Nat} {S T U : Nat → Bool}
theorem getC (h : i < ls.length) : ls.getD i RCue.zero = ls[i] := by rw [List.getD_eq_getElem?_getD, List.getElem?_eq_getElem h]; rfl
theorem went_start (ls : List RCue) (i : Nat) (hl : ∀ k, S k = true → k < ls.length) : WentTo ls i 0 S S := ⟨fun _ h => h, fun q hq => absurd hq (by omega), fun k h => .inl h, hl⟩
theorem WentTo.end_ (h : WentTo ls i (ls.getD i RCue.zero).f1.length S T) : Went ls i S T := ⟨h.more, fun k hk => by
  obtain ⟨h1, h2, q, h3, h4⟩ := hk
  exact h.all q (by rw [getC h2]; exact h3) k h1 (by rw [getC h2]; exact h4), h.new, h.low⟩
/-- A number that is no cue, or one that is in the set already. -/
theorem WentTo.skip (h : WentTo ls i j S T) (hs : ∀ k : Nat, k < ls.length → (ls.getD i RCue.zero).f1.getD j 0 = (k : Int) → T k = true) : WentTo ls i (j + 1) S T :=
  ⟨h.more, fun q hq k hk e => by
    rcases (by omega : q < j ∨ q = j) with c | rfl
    · exact h.all q c k hk e
    · exact hs k hk e, h.new, h.low⟩
/-- A cue that is new. -/
theorem WentTo.down (h : WentTo ls i j S T) (hi : i < ls.length) (hj : j < (ls.getD i RCue.zero).f1.length) (hk : k < ls.length) (e : (ls.getD i RCue.zero).f1.getD j 0 = (k : Int)) (g : Went ls k (mark T k) U) : WentTo ls i (j + 1) S U := by
  have hn : Names ls i k := ⟨hk, hi, j, by rw [← getC hi]; exact hj, by rw [← getC hi]; exact e⟩
  have mT : ∀ x, T x = true → U x = true := fun x hx => g.more x (by simp [mark, hx])
  refine ⟨fun x hx => mT x (h.more x hx), fun q hq x hx ex => ?_, fun x hx => ?_, g.low⟩
  · rcases (by omega : q < j ∨ q = j) with c | rfl
    · exact mT x (h.all q c x hx ex)
    · obtain rfl : x = k := by rw [e] at ex; omega
      exact g.more x (by simp [mark])
  · rcases g.new x hx with c | ⟨c1, c2⟩
    · simp only [mark, Bool.or_eq_true, decide_eq_true_eq] at c
      rcases c with rfl | c
      · exact .inr ⟨.one hn, g.all⟩
      · rcases h.new x c with d | ⟨d1, d2⟩
        · exact .inl d
        · exact .inr ⟨d1, fun m hm => mT m (d2 m hm)⟩
    · exact .inr ⟨.cons hn hk c1, c2⟩
/-- What the search finds from an empty set on. -/
theorem Went.found (h : Went ls i (fun _ => false) T) (k : Nat) : T k = true ↔ Waits ls i k := by
  constructor
  · intro c
    rcases h.new k c with d | ⟨d, _⟩
    · cases d
    · exact d
  · intro c
    have go : ∀ a b, Way (Names ls) ls.length a b → (∀ m, Names ls a m → T m = true) → T b = true := by
      clear c
      intro a b w
      induction w with
      | one e => exact fun H => H _ e
      | cons e _ t ih => exact fun H => ih (fun m hm => by
          rcases h.new _ (H _ e) with d | ⟨_, d⟩
          · cases d
          · exact d m hm)
    exact go i k c h.all
end
end Go.Proofs.Ytbgogcobkiaejab
