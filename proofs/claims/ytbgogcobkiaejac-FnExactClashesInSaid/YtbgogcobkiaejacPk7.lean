/- Texts of this seat laid together, each with its own first sentence below: ConN MapI InR WaiI RsjI RsiI CirI. -/
import Derived.Test.YtbgogcobkiaejacPk1
import Derived.Test.YtbgogcobkiaejacPk2
import Derived.Test.YtbgogcobkiaejacPk3
import Derived.Test.YtbgogcobkiaejacPk5
import Derived.Maps.Own
import Derived.Maps.OwnOps
import Derived.Maps.Views
import Derived.OwnWalk
import Derived.BigQuiet
/- The contracts of the library's slices.Index (any number) and slices.Contains at a row of numbers. Condition: the numbers lie in a row of their own. -/
namespace Go.Proofs.Ytbgogcobkiaejac
set_option linter.unusedVariables false
set_option linter.unusedSimpArgs false
open Go.RowKit

/-- Is the number among them? -/
def hasZ (zs : List Int) (x : Int) : Bool := zs.any fun z => decide (z = x)
theorem hasZ_yes {zs : List Int} {x : Int} {k : Nat} (hk : k < zs.length) (h : zs[k] = x) : hasZ zs x = true := List.any_eq_true.2 ⟨_, List.getElem_mem hk, decide_eq_true h⟩
theorem hasZ_no {zs : List Int} {x : Int} (h : ∀ k (hk : k < zs.length), zs[k] ≠ x) : hasZ zs x = false := by
  cases c : hasZ zs x with
  | false => rfl
  | true =>
    obtain ⟨z, hz, e⟩ := List.any_eq_true.1 c
    obtain ⟨k, hk, rfl⟩ := List.mem_iff_getElem.1 hz
    exact absurd (of_decide_eq_true e) (h k hk)

set_option maxHeartbeats 400000 in
/-- slices.Index: not negative just if the number is there. -/
theorem index_any (v : Value) (zs : List Int) (base : Nat) (w : World) (h : OwnI w base v zs) (hl : zs.length ≤ 2000000) (x : Int) :
    Calls Try.prog 76 #[v, .int .i64 x] w fun e w' => (∃ r : Int, e = .returned (.int .i64 r) ∧ (0 ≤ r ↔ hasZ zs x = true)) ∧ w = w' := by
  obtain ⟨A, c, e1⟩ := h.slice
  subst e1
  have H := Lib.hid h
  have YES := Lib.hid (fun k (hk : k < zs.length) (e : zs[k] = x) => hasZ_yes hk e)
  have NO := Lib.hid (fun h => hasZ_no (zs := zs) (x := x) h)
  clear h
  go_enter Try.func76, Try.ntmps76
  go_wp2
  go_loopw [8] (fun iv wr => w = wr ∧ ∃ r : Nat, r ≤ zs.length ∧ iv = .int .i64 (r : Int) ∧ Hid (∀ j (hj : j < zs.length), j < r → zs[j] ≠ x)) (fun iv _ => zs.length - (intOf iv).toNat)
  case atStart => exact ⟨rfl, 0, by omega, rfl, Lib.hid (fun j _ h => absurd h (by omega))⟩
  case round =>
    obtain ⟨rfl, r, hr, rfl, HN⟩ := hrel
    by_cases hlt : r < zs.length
    rotate_left
    · obtain rfl : r = zs.length := by omega
      have R := Lib.hid (NO.out (fun k hk => HN.out k hk hk))
      go_wp2
      go_ret
      exact ⟨⟨-1, rfl, by rw [R.out]; simp⟩, rfl⟩
    obtain ⟨g2, c2, e2, _, _, x0, _⟩ := H.out.spot (k := r) hlt
    simp only [Value.slice.injEq] at e2
    obtain ⟨rfl, -, rfl⟩ := e2
    have hr0 : (0 : Int) ≤ (r : Int) := by omega
    have hr1 : (r : Int) < (zs.length : Int) := by omega
    have Y := Lib.hid (YES.out r hlt)
    have NX := Lib.hid (fun (e : zs[r] ≠ x) => (show ∀ j (hj : j < zs.length), j < r + 1 → zs[j] ≠ x from fun j hj h => by
      rcases (by omega : j < r ∨ j = r) with q | rfl
      · exact HN.out j hj q
      · exact e))
    generalize zs[r] = y at x0 Y NX
    by_cases e : y = x
    · have R := Lib.hid (Y.out e)
      subst e
      go_wp2
      go_ret
      exact ⟨⟨r, rfl, by rw [R.out]; simp⟩, rfl⟩
    · have hne' : (x == y) = false := by simpa using fun a : x = y => e a.symm
      have N2 := Lib.hid (NX.out e)
      go_wp2
      exact ⟨⟨trivial, r + 1, by omega, by go_num, N2⟩, by simp [intOf]; omega⟩

theorem contains_any (v : Value) (zs : List Int) (base : Nat) (w : World) (h : OwnI w base v zs) (hl : zs.length ≤ 2000000) (x : Int) :
    Calls Try.prog 61 #[v, .int .i64 x] w fun e w' => e = .returned (.bool (hasZ zs x)) ∧ w = w' := by
  have C := Lib.hid (index_any v zs base w h hl x)
  obtain ⟨A, c, e1⟩ := h.slice
  subst e1
  clear h
  cases hb : hasZ zs x with
  | true =>
    rw [hb] at C
    go_enter Try.func61, Try.ntmps61
    go_wp2_with fail
    refine C.out.mono ?_
    rintro e w' ⟨⟨r, rfl, hr⟩, rfl⟩
    have hr2 : decide ((0 : Int) ≤ r) = true := decide_eq_true (by simpa using hr)
    clear hr
    go_wp2
    go_ret
    exact ⟨rfl, rfl⟩
  | false =>
    rw [hb] at C
    go_enter Try.func61, Try.ntmps61
    go_wp2_with fail
    refine C.out.mono ?_
    rintro e w' ⟨⟨r, rfl, hr⟩, rfl⟩
    have hr2 : decide ((0 : Int) ≤ r) = false := decide_eq_false (by simpa using hr)
    clear hr
    go_wp2
    go_ret
    exact ⟨rfl, rfl⟩
end Go.Proofs.Ytbgogcobkiaejac

/- A map from numbers to truths that the call made, as a set of numbers; what a search through all waiting leaves in it. Plain mathematics and one map. Condition: the keys lie below 4096. -/
namespace Go.Proofs.Ytbgogcobkiaejac
set_option linter.unusedVariables false
set_option linter.unusedSimpArgs false
open Go.RowKit Go.Maps

theorem lawM : Keyed Try.prog 3 := int_keyed Try.underlying3
theorem zeroM (w : World) : (zeroValue 4).run Try.prog w = .ok (.bool false) w := by kernel_rfl
theorem keyM (k : Nat) (hk : k < 4096) : keyOf Try.prog 3 (.int .i64 (k : Int)) = some (.int .i64 (k : Int)) := keyOf_int_mk Try.underlying3 (by
  have e1 : IntKind.i64.min = -9223372036854775808 := by decide
  have e2 : IntKind.i64.max = 9223372036854775807 := by decide
  simp only [Lit.wf, Bool.and_eq_true, decide_eq_true_eq, e1, e2]
  omega)
/-- The number k besides. -/
def mark (S : Nat → Bool) (k : Nat) : Nat → Bool := fun j => decide (j = k) || S j
/-- Block b is a map of at most n keys; the keys below 4096 that hold true are the set S. -/
def SetM (w : World) (b n : Nat) (S : Nat → Bool) : Prop := ∃ D : DataW Unit, w.ownsMap Try.prog 3 (plainElem Try.prog 4) b n D ∧ ∀ k : Nat, k < 4096 → D.atKey (.int .i64 (k : Int)) (.lit (.bool false)) = .lit (.bool (S k))
theorem setM_made (w : World) : SetM (w.alloc (.map #[] 0)) w.heap.size 0 (fun _ => false) := ⟨_, World.ownsMap_made _ _ _ _, fun k _ => rfl⟩
section
variable {w w' : World} {b n k : Nat} {S : Nat → Bool}
theorem SetM.lt (h : SetM w b n S) : b < w.heap.size := let ⟨_, o, _⟩ := h; o.lt
theorem SetM.kept {row : Option Nat} (h : SetM w b n S) (hg : w.grownBy w' row) (hne : some b ≠ row) : SetM w' b n S := let ⟨D, o, e⟩ := h; ⟨D, o.kept hg hne, e⟩
theorem SetM.below (h : SetM w b n S) (hb : Below w.heap.size w w') : SetM w' b n S := h.kept (grown_of_below hb none) (by simp)
theorem SetM.look (h : SetM w b n S) (hk : k < 4096) : (Instr.lookup 80 (.map (some b)) (.int .i64 (k : Int)) false).run Try.prog w = .ok (.bool (S k)) w := by
  obtain ⟨D, o, e⟩ := h
  obtain ⟨v, ps, hrun, hv⟩ := o.lookup lawM (t := 80) Try.underlying80 (zeroM w) (plainElem_bool (H := Unit) Try.underlying4 false) (keyM k hk)
  rw [e k hk] at hv
  rw [hrun]
  unfold plainElem at hv
  rw [Try.underlying4] at hv
  cases v <;> simp at hv
  rw [hv.1]
theorem SetM.store (h : SetM w b n S) (hk : k < 4096) (hn : n < 4096) :
    ∃ w', (Instr.mapUpdate 80 (.map (some b)) (.int .i64 (k : Int)) (.bool true)).run Try.prog w = .ok () w' ∧ SetM w' b (n + 1) (mark S k) ∧ w.grownBy w' (some b) := by
  obtain ⟨D, o, e⟩ := h
  obtain ⟨w', hrun, o2, g2⟩ := o.update lawM (t := 80) (e := 4) Try.underlying80 (by unfold maxLen; omega) (keyM k hk) (plainElem_bool (H := Unit) Try.underlying4 true)
  refine ⟨w', hrun, ⟨_, o2, fun j hj => ?_⟩, g2⟩
  have hm : IsMap D := by obtain ⟨_, _, _, _, _, e⟩ := o; exact ⟨_, e⟩
  by_cases c : j = k
  · subst c
    rw [atKey_put_same hm (by simp [WideAt.IsKeyLit])]
    simp [mark]
  · rw [atKey_put_other (by intro q; exact c (by have := (Lit.int.inj q).2; omega)), e j hj]
    simp [mark, c]
end
theorem wpList_markM {w : World} {ops : Array Oper} {rest : List Oper} {o : Oper} {a : Act} {Q : Exit → Act → World → Prop}
    (hg : o.guard = none) (m x : Operand) (hop : o.op = Op.mapUpdate 80 m x (.const (.bool true))) (b n k : Nat) (S : Nat → Bool)
    (hm : a.eval m = .map (some b)) (hx : a.eval x = .int .i64 (k : Int)) (h : SetM w b n S) (hk : k < 4096) (hn : n < 4096)
    (hK : ∀ w', SetM w' b (n + 1) (mark S k) → w.grownBy w' (some b) → wpList Try.prog ops Q rest (a.put o.dst undef) w') :
    wpList Try.prog ops Q (o :: rest) a w := by
  refine wpList_plain hg fun K' hK' => ?_
  obtain ⟨w', hrun, r1, r2⟩ := h.store hk hn
  have e : a.eval (.const (.bool true)) = .bool true := rfl
  unfold Oper.wp
  simp [execOp, hop, hm, hx, e, hrun, Result.andThen]
  exact hK' _ _ (hK w' r1 r2)
/-- How many of the first n are in the set. -/
def cntP (S : Nat → Bool) : Nat → Nat
  | 0 => 0
  | j + 1 => cntP S j + (if S j = true then 1 else 0)
theorem cntP_le (S : Nat → Bool) (n : Nat) : cntP S n ≤ n := by
  induction n with
  | zero => exact Nat.le_refl _
  | succ n ih => unfold cntP; split <;> omega
theorem cntP_mark (S : Nat → Bool) (k : Nat) (hk : S k = false) : ∀ n, cntP (mark S k) n = cntP S n + (if k < n then 1 else 0) := by
  intro n
  induction n with
  | zero => simp [cntP]
  | succ n ih =>
    unfold cntP
    rw [ih]
    by_cases c : n = k
    · subst c
      rw [show mark S n n = true by simp [mark], hk]
      simp
    · rw [show mark S k n = S n by simp [mark, c]]
      by_cases q : k < n
      · rw [show (if k < n then 1 else 0) = 1 from if_pos q, show (if k < n + 1 then 1 else 0) = 1 from if_pos (by omega)]; omega
      · rw [show (if k < n then 1 else 0) = 0 from if_neg q, show (if k < n + 1 then 1 else 0) = 0 from if_neg (by omega)]; omega
theorem cntP_none (n : Nat) : cntP (fun _ => false) n = 0 := by
  induction n with
  | zero => rfl
  | succ n ih => unfold cntP; rw [ih]; simp
theorem cntP_more {S T : Nat → Bool} (h : ∀ k, S k = true → T k = true) (n : Nat) : cntP S n ≤ cntP T n := by
  induction n with
  | zero => exact Nat.le_refl _
  | succ n ih =>
    unfold cntP
    cases c : S n with
    | false => rw [if_neg (by simp)]; omega
    | true => rw [h n c]; simp; omega
/-- The first j cues of After are through. -/
structure WentTo (ls : List RCue) (i j : Nat) (S T : Nat → Bool) : Prop where
  more : ∀ k, S k = true → T k = true
  all : ∀ q, q < j → ∀ k : Nat, k < ls.length → (ls.getD i RCue.zero).f1.getD q 0 = (k : Int) → T k = true
  new : ∀ k, T k = true → S k = true ∨ (Waits ls i k ∧ ∀ m, Names ls k m → T m = true)
  low : ∀ k, T k = true → k < ls.length
structure Went (ls : List RCue) (i : Nat) (S T : Nat → Bool) : Prop where
  more : ∀ k, S k = true → T k = true
  all : ∀ k, Names ls i k → T k = true
  new : ∀ k, T k = true → S k = true ∨ (Waits ls i k ∧ ∀ m, Names ls k m → T m = true)
  low : ∀ k, T k = true → k < ls.length
section
variable {ls : List RCue} {i j k : Nat} {S T U : Nat → Bool}
theorem getC (h : i < ls.length) : ls.getD i RCue.zero = ls[i] := by rw [List.getD_eq_getElem?_getD, List.getElem?_eq_getElem h]; rfl
theorem went_start (ls : List RCue) (i : Nat) (hl : ∀ k, S k = true → k < ls.length) : WentTo ls i 0 S S := ⟨fun _ h => h, fun q hq => absurd hq (by omega), fun k h => .inl h, hl⟩
theorem WentTo.end_ (h : WentTo ls i (ls.getD i RCue.zero).f1.length S T) : Went ls i S T := ⟨h.more, fun k hk => by
  obtain ⟨h1, h2, q, h3, h4⟩ := hk
  exact h.all q (by rw [getC h2]; exact h3) k h1 (by rw [getC h2]; exact h4), h.new, h.low⟩
/-- A number that is no cue, or one that is in the set already. -/
theorem WentTo.skip (h : WentTo ls i j S T) (hs : ∀ k : Nat, k < ls.length → (ls.getD i RCue.zero).f1.getD j 0 = (k : Int) → T k = true) : WentTo ls i (j + 1) S T :=
  ⟨h.more, fun q hq k hk e => by
    rcases (by omega : q < j ∨ q = j) with c | rfl
    · exact h.all q c k hk e
    · exact hs k hk e, h.new, h.low⟩
/-- A cue that is new. -/
theorem WentTo.down (h : WentTo ls i j S T) (hi : i < ls.length) (hj : j < (ls.getD i RCue.zero).f1.length) (hk : k < ls.length) (e : (ls.getD i RCue.zero).f1.getD j 0 = (k : Int)) (g : Went ls k (mark T k) U) : WentTo ls i (j + 1) S U := by
  have hn : Names ls i k := ⟨hk, hi, j, by rw [← getC hi]; exact hj, by rw [← getC hi]; exact e⟩
  have mT : ∀ x, T x = true → U x = true := fun x hx => g.more x (by simp [mark, hx])
  refine ⟨fun x hx => mT x (h.more x hx), fun q hq x hx ex => ?_, fun x hx => ?_, g.low⟩
  · rcases (by omega : q < j ∨ q = j) with c | rfl
    · exact mT x (h.all q c x hx ex)
    · obtain rfl : x = k := by rw [e] at ex; omega
      exact g.more x (by simp [mark])
  · rcases g.new x hx with c | ⟨c1, c2⟩
    · simp only [mark, Bool.or_eq_true, decide_eq_true_eq] at c
      rcases c with rfl | c
      · exact .inr ⟨.one hn, g.all⟩
      · rcases h.new x c with d | ⟨d1, d2⟩
        · exact .inl d
        · exact .inr ⟨d1, fun m hm => mT m (d2 m hm)⟩
    · exact .inr ⟨.cons hn hk c1, c2⟩
/-- What the search finds from an empty set on. -/
theorem Went.found (h : Went ls i (fun _ => false) T) (k : Nat) : T k = true ↔ Waits ls i k := by
  constructor
  · intro c
    rcases h.new k c with d | ⟨d, _⟩
    · cases d
    · exact d
  · intro c
    have go : ∀ a b, Way (Names ls) ls.length a b → (∀ m, Names ls a m → T m = true) → T b = true := by
      clear c
      intro a b w
      induction w with
      | one e => exact fun H => H _ e
      | cons e _ t ih => exact fun H => ih (fun m hm => by
          rcases h.new _ (H _ e) with d | ⟨_, d⟩
          · cases d
          · exact d m hm)
    exact go i k c h.all
end
end Go.Proofs.Ytbgogcobkiaejac

/- The contract of the program's look whether one number lies in a range. -/
namespace Go.Proofs.Ytbgogcobkiaejac
set_option linter.unusedVariables false
open Go.RowKit

theorem inRange_yes {v lo hi : Int} (h : lo ≤ v ∧ v ≤ hi) (w : World) :
    Calls Try.prog 58 #[.int .i64 v, .int .i64 lo, .int .i64 hi] w fun e w' => e = .returned (.bool true) ∧ w' = w := by
  obtain ⟨h1, h2⟩ := h
  go_enter Try.func58, Try.ntmps58
  go_wp2
  go_ret
  exact ⟨rfl, rfl⟩
theorem inRange_no {v lo hi : Int} (h : ¬ (lo ≤ v ∧ v ≤ hi)) (w : World) :
    Calls Try.prog 58 #[.int .i64 v, .int .i64 lo, .int .i64 hi] w fun e w' => e = .returned (.bool false) ∧ w' = w := by
  by_cases h1 : lo ≤ v
  · have h2 : ¬ v ≤ hi := fun x => h ⟨h1, x⟩
    go_enter Try.func58, Try.ntmps58
    go_wp2
    go_ret
    exact ⟨rfl, rfl⟩
  · go_enter Try.func58, Try.ntmps58
    go_wp2
    go_ret
    exact ⟨rfl, rfl⟩
theorem inRange_any (v lo hi : Int) (w : World) :
    Calls Try.prog 58 #[.int .i64 v, .int .i64 lo, .int .i64 hi] w fun e w' => e = .returned (.bool (inB v lo hi)) ∧ w' = w := by
  by_cases h : lo ≤ v ∧ v ≤ hi
  · rw [inB_yes h]
    exact inRange_yes h w
  · rw [inB_no h]
    exact inRange_no h w
end Go.Proofs.Ytbgogcobkiaejac

/- The contracts of the program's hasCue, addWaited and waitedFor. Condition: the cues lie in a row of their own, twelve at most. -/
namespace Go.Proofs.Ytbgogcobkiaejac
set_option linter.unusedVariables false
set_option linter.unusedSimpArgs false
open Go.RowKit Go.Maps

theorem hasCue_any (A : Option Addr) (n c : Nat) (i : Int) (w : World) (hn : n ≤ 2000000) :
    Calls Try.prog 82 #[.slice A n c, .int .i64 i] w fun e w' => e = .returned (.bool (inB i 0 ((n : Int) - 1))) ∧ w = w' := by
  have C1 := Lib.hid (fun W => (inRange_any i 0 ((n : Int) - 1) W).mono fun e w' h => (show _ ∧ W = w' from ⟨h.1, h.2.symm⟩))
  have en : IntKind.i64.wrap ((n : Int) - 1) = (n : Int) - 1 := IntWalk.i64_in _ (by omega)
  go_enter Try.func82, Try.ntmps82
  go_wp2_with (go_at_call 58; refine (C1.out _).mono ?_; rintro e w' ⟨rfl, rfl⟩)
  go_ret
  exact ⟨rfl, rfl⟩

/-- What addWaited leaves. -/
def WentPost (w w0 : World) (mb : Nat) (ls : List RCue) (i : Nat) (S : Nat → Bool) (e : Ending) (w' : World) : Prop :=
  e = .returned (.tuple #[]) ∧ ∃ T, SetM w' mb (cntP T ls.length) T ∧ Went ls i S T ∧ Below w0.heap.size w0 w'

set_option maxRecDepth 100000 in
set_option maxHeartbeats 3200000 in
theorem implAdd (w0 : World) (v : Value) (ls : List RCue) (b : Nat) (hO : OwnCue w0 b v ls) (hn : ls.length ≤ 12) (hl : bulkCue ls ≤ 1048576) (mb : Nat) (hm : w0.heap.size ≤ mb) :
    ∀ (f : Nat) (S : Nat → Bool) (i : Nat) (w : World), ls.length - cntP S ls.length = f → i < ls.length → SetM w mb (cntP S ls.length) S → (∀ k, S k = true → k < ls.length) → Below w0.heap.size w0 w →
      Calls Try.prog 81 #[.map (some mb), v, .int .i64 (i : Int)] w (WentPost w w0 mb ls i S) := by
  obtain ⟨A, cv, rfl⟩ := hO.slice
  have HO := Lib.hid hO
  have HM := Lib.hid hm
  have HC := Lib.hid (fun (x : Int) W => hasCue_any A ls.length cv x W (by omega))
  have RW := Lib.hid (fun k (h : k < ls.length) => (show ls[k].f1.length ≤ 2000000 by have := bulkCue_row ls k h; omega))
  clear hO hm hl
  intro f
  induction f using Nat.strongRecOn with
  | _ f ih =>
    intro S i w hf hi hS hlow hb
    have IH := Lib.hid ih
    have HS := Lib.hid hS
    have HB := Lib.hid hb
    have HF := Lib.hid hf
    have W0 := Lib.hid (went_start ls i hlow)
    clear ih hS hlow hf
    obtain ⟨g, cg, A1, c1, A2, c2, f1, -, ⟨-, x1, -⟩, ⟨o1, -⟩, -, -, -, -⟩ := HO.out.spot hi
    simp only [Value.slice.injEq] at f1
    obtain ⟨rfl, -, rfl⟩ := f1
    replace x1 := cell_below x1 hb
    have hr := RW.out i hi
    have hi0 : (0 : Int) ≤ (i : Int) := by omega
    have hi1 : (i : Int) < (ls.length : Int) := by omega
    have ZF := Lib.hid (getC hi)
    have O1 := Lib.hid o1
    clear o1 hb
    obtain ⟨zs, hz⟩ : ∃ zs, zs = ls[i].f1 := ⟨_, rfl⟩
    rw [← hz] at x1 hr O1
    have ZF := Lib.hid (show (ls.getD i RCue.zero).f1 = zs by rw [ZF.out, hz])
    clear hz
    go_enter Try.func81, Try.ntmps81
    go_wp2_with fail
    go_loopw [14] (fun jv wr => ∃ (j : Nat) (T : Nat → Bool), j ≤ zs.length ∧ jv = .int .i64 (j : Int) ∧ Hid (SetM wr mb (cntP T ls.length) T) ∧ Hid (WentTo ls i j S T) ∧ Hid (Below w0.heap.size w0 wr)) (fun jv _ => zs.length - (intOf jv).toNat)
    case atStart => exact ⟨0, S, by omega, rfl, HS, W0, HB⟩
    case round =>
      clear HS W0 HB x1
      obtain ⟨j, T, hj, rfl, ST, WT, BW⟩ := hrel
      by_cases hlt : j < zs.length
      rotate_left
      · obtain rfl : j = zs.length := by omega
        have F := Lib.hid (show Went ls i S T from (show WentTo ls i (ls.getD i RCue.zero).f1.length S T by rw [ZF.out]; exact WT.out).end_)
        go_wp2
        go_end0
        exact ⟨rfl, T, ST.out, F.out, BW.out⟩
      have hj0 : (0 : Int) ≤ (j : Int) := by omega
      have hj1 : (j : Int) < (zs.length : Int) := by omega
      obtain ⟨g1, _, f1, -, -, z0, -⟩ := (O1.out.below BW.out).spot hlt
      simp only [Value.slice.injEq] at f1
      obtain ⟨rfl, -, rfl⟩ := f1
      have EX := Lib.hid (show (ls.getD i RCue.zero).f1.getD j 0 = zs[j] by rw [ZF.out, List.getD_eq_getElem?_getD, List.getElem?_eq_getElem hlt]; rfl)
      have JL := Lib.hid (show j < (ls.getD i RCue.zero).f1.length by rw [ZF.out]; exact hlt)
      generalize zs[j] = x at z0 EX
      have H1 := Lib.hid (fun W => HC.out x W)
      cases hin : inB x 0 ((ls.length : Int) - 1) with
      | false =>
        have W2 := Lib.hid (WT.out.skip fun k hk e => by rw [EX.out] at e; rw [inB_yes (by omega)] at hin; cases hin)
        rw [hin] at H1
        clear hin WT
        go_wp2_with (go_at_call 82; refine (H1.out _).mono ?_; rintro e w' ⟨rfl, rfl⟩)
        exact ⟨⟨j + 1, T, by omega, by go_num, ST, W2, BW⟩, by simp [intOf]; omega⟩
      | true =>
        have hx : 0 ≤ x ∧ x ≤ (ls.length : Int) - 1 := by simpa [inB] using hin
        rw [hin] at H1
        obtain ⟨k, rfl⟩ := Int.eq_ofNat_of_zero_le hx.1
        have hk : k < ls.length := by omega
        have LK := ST.out.look (k := k) (by omega)
        clear hx hin
        cases ht : T k with
        | true =>
          have W2 := Lib.hid (WT.out.skip fun q hq e => (show T q = true by rw [EX.out] at e; rw [show q = k by omega]; exact ht))
          rw [ht] at LK
          clear ht WT
          go_wp2_with (go_at_call 82; refine (H1.out _).mono ?_; rintro e w' ⟨rfl, rfl⟩)
          exact ⟨⟨j + 1, T, by omega, by go_num, ST, W2, BW⟩, by simp [intOf]; omega⟩
        | false =>
          have CM := cntP_mark T k ht ls.length
          rw [if_pos hk] at CM
          have CL := cntP_le (mark T k) ls.length
          rw [ht] at LK
          have LW := Lib.hid (show ∀ q, mark T k q = true → q < ls.length from fun q hq => by
            simp only [mark, Bool.or_eq_true, decide_eq_true_eq] at hq
            rcases hq with rfl | c
            · exact hk
            · exact WT.out.low q c)
          have DN := Lib.hid (fun U (g : Went ls k (mark T k) U) => WT.out.down hi JL.out hk EX.out g)
          have CS : cntP S ls.length ≤ cntP T ls.length := cntP_more (fun q h => WT.out.more q h) _
          have FU := Lib.hid (show ls.length - cntP (mark T k) ls.length < f by have := HF.out; omega)
          have HX := Lib.hid (show ∀ U, SetM U mb (cntP T ls.length + 1) (mark T k) → SetM U mb (cntP (mark T k) ls.length) (mark T k) from fun U h => by rw [CM]; exact h)
          have hcn : cntP T ls.length < 4096 := by omega
          have hbw := BW.out.size
          clear ht WT CM CL CS
          go_wp2_with (first | (go_at_call 82; refine (H1.out _).mono ?_; rintro e w' ⟨rfl, rfl⟩) | (at_mapUpdate; refine wpList_markM rfl _ _ rfl mb _ k T rfl rfl ST.out (by omega) hcn ?_; intro w2 s2 g2))
          have S2 := Lib.hid (HX.out _ s2)
          have B2 := Lib.hid (BW.out.grown g2 hbw (fun q hq => by have := Option.some.inj hq; have := HM.out; omega))
          clear s2 g2 ST BW
          refine (IH.out _ FU.out (mark T k) k _ rfl hk S2.out LW.out B2.out).mono ?_
          rintro e w3 ⟨rfl, U, s3, g3, b3⟩
          have S3 := Lib.hid s3
          have W3 := Lib.hid (DN.out U g3)
          have B3 := Lib.hid b3
          clear s3 g3 b3
          go_wp2
          exact ⟨⟨j + 1, U, by omega, by go_num, S3, W3, B3⟩, by simp [intOf]; omega⟩

set_option maxRecDepth 100000 in
/-- The keys are the cues for which cue i waits. -/
theorem implWtd (v : Value) (ls : List RCue) (b : Nat) (w : World) (hO : OwnCue w b v ls) (hn : ls.length ≤ 12) (hl : bulkCue ls ≤ 1048576) (i : Nat) (hi : i < ls.length) :
    Calls Try.prog 75 #[v, .int .i64 (i : Int)] w fun e w' => ∃ (mb n : Nat) (T : Nat → Bool), e = .returned (.map (some mb)) ∧ SetM w' mb n T ∧ (∀ k, T k = true ↔ Waits ls i k) ∧ Below w.heap.size w w' := by
  have CA := Lib.hid (implAdd w v ls b hO hn hl w.heap.size (Nat.le_refl _) _ (fun _ => false) i (w.alloc (.map #[] 0)) rfl hi (by rw [cntP_none]; exact setM_made w) (fun k h => by cases h) ((Below.refl _ _).alloc (Nat.le_refl _) _))
  obtain ⟨A, c, rfl⟩ := hO.slice
  have hmm := @run_makeMap Try.prog
  clear hO
  go_enter Try.func75, Try.ntmps75
  go_wp2_with fail
  refine CA.out.mono ?_
  rintro e w2 ⟨rfl, T, s2, g2, b2⟩
  have F := Lib.hid (show ∃ (mb n : Nat) (T : Nat → Bool), Ending.returned (.map (some w.heap.size)) = .returned (.map (some mb)) ∧ SetM w2 mb n T ∧ (∀ k, T k = true ↔ Waits ls i k) ∧ Below w.heap.size w w2 from ⟨_, _, T, rfl, s2, g2.found, b2⟩)
  clear s2 g2 b2
  go_wp2
  go_ret
  exact F.out
end Go.Proofs.Ytbgogcobkiaejac

/- The contracts of the program's ascendsInRange (from 0 on) and arePuppets. Condition: the numbers lie in rows of their own. -/
namespace Go.Proofs.Ytbgogcobkiaejac
set_option linter.unusedVariables false
set_option linter.unusedSimpArgs false
open Go.RowKit

set_option maxRecDepth 100000 in
set_option maxHeartbeats 1600000 in
theorem implAsc (v : Value) (zs : List Int) (most : Int) (b : Nat) (w : World) (h : OwnI w b v zs) (hl : zs.length ≤ 2000000) :
    Calls Try.prog 73 #[v, .int .i64 0, .int .i64 most] w fun e w' => e = .returned (.bool (rising zs most)) ∧ w' = w := by
  obtain ⟨A, c, rfl⟩ := h.slice
  have O := Lib.hid h
  have C0 := Lib.hid (fun v lo hi W => (inRange_any v lo hi W).mono fun e w' h => (show _ ∧ W = w' from ⟨h.1, h.2.symm⟩))
  have R1 := Lib.hid (fun (h : ∀ k, k < zs.length → riseAt zs most k = true) => (rise_iff zs most zs.length).2 h)
  have R0 := Lib.hid (fun k (hk : k < zs.length) h => rise_bad (most := most) hk h)
  clear h
  go_enter Try.func73, Try.ntmps73
  go_wp2_with fail
  go_loopw [11] (fun iv wr => w = wr ∧ ∃ k : Nat, k ≤ zs.length ∧ iv = .int .i64 (k : Int) ∧ Hid (∀ i, i < k → riseAt zs most i = true)) (fun iv _ => zs.length - (intOf iv).toNat)
  case atStart => exact ⟨rfl, 0, by omega, rfl, Lib.hid (fun i hi => absurd hi (by omega))⟩
  case round =>
    obtain ⟨rfl, k, hk, rfl, HN⟩ := hrel
    by_cases hlt : k < zs.length
    rotate_left
    · obtain rfl : k = zs.length := by omega
      have R := Lib.hid (show rising zs most = true from R1.out HN.out)
      go_wp2
      go_ret
      exact ⟨by rw [R.out]; rfl, rfl⟩
    have hk0 : (0 : Int) ≤ (k : Int) := by omega
    have hk1 : (k : Int) < (zs.length : Int) := by omega
    obtain ⟨g, _, f1, _, _, z0, _⟩ := O.out.spot hlt
    simp only [Value.slice.injEq] at f1
    obtain ⟨rfl, -, rfl⟩ := f1
    have NX := Lib.hid (fun (h : riseAt zs most k = true) => (show ∀ i, i < k + 1 → riseAt zs most i = true from fun i hi => by
      rcases (by omega : i < k ∨ i = k) with q | rfl
      · exact HN.out i q
      · exact h))
    have RX := Lib.hid (R0.out k hlt)
    have AT := Lib.hid (show riseAt zs most k = (inB zs[k] 0 most && (decide (k = 0) || decide (zs.getD (k - 1) 0 < zs[k]))) by
      unfold riseAt
      rw [show zs.getD k 0 = zs[k] by rw [List.getD_eq_getElem?_getD, List.getElem?_eq_getElem hlt]; rfl])
    have ZK := Lib.hid (show ∀ j, j + 1 = k → ∀ hj : j < zs.length, zs.getD (k - 1) 0 = zs[j] from fun j e hj => by
      rw [show k - 1 = j by omega, List.getD_eq_getElem?_getD, List.getElem?_eq_getElem hj]; rfl)
    generalize zs[k] = x at z0 AT
    have C1 := Lib.hid (fun W => C0.out x 0 most W)
    cases hin : inB x 0 most with
    | false =>
      have R := Lib.hid (RX.out (by rw [AT.out, hin]; rfl))
      rw [hin] at C1
      clear hin NX AT
      go_wp2_with (go_at_call 58; refine (C1.out _).mono ?_; rintro e w' ⟨rfl, rfl⟩)
      go_ret
      exact ⟨by rw [R.out]; rfl, rfl⟩
    | true =>
      rw [hin] at C1
      rcases Nat.eq_zero_or_pos k with rfl | hpos
      · have N2 := Lib.hid (NX.out (by rw [AT.out, hin]; rfl))
        clear hin NX AT
        go_wp2_with (go_at_call 58; refine (C1.out _).mono ?_; rintro e w' ⟨rfl, rfl⟩)
        exact ⟨⟨trivial, 1, by omega, by rfl, N2⟩, by simp [intOf]; omega⟩
      · obtain ⟨j, rfl⟩ : ∃ j, k = j + 1 := ⟨k - 1, by omega⟩
        have hj : j < zs.length := by omega
        obtain ⟨_, _, f1, _, _, z1, _⟩ := O.out.spot hj
        simp only [Value.slice.injEq, Option.some.injEq, Addr.mk.injEq] at f1
        obtain ⟨⟨rfl, _⟩, -, -⟩ := f1
        have A2 := Lib.hid (show riseAt zs most (j + 1) = decide (zs[j] < x) by
          rw [AT.out, hin, ZK.out j rfl hj]
          simp)
        have ek : ((j + 1 : Nat) : Int) = (j : Int) + 1 := by omega
        have e1 : IntKind.i64.wrap ((j : Int) + 1 - 1) = (j : Int) := by rw [IntWalk.i64_in _ (by omega)]; omega
        have hp : (0 : Int) < (j : Int) + 1 := by omega
        have hj0 : (0 : Int) ≤ (j : Int) := by omega
        have hj1 : (j : Int) < (zs.length : Int) := by omega
        generalize zs[j] = y at z1 A2
        clear hin AT ZK
        by_cases hyx : y < x
        · have N2 := Lib.hid (NX.out (by rw [A2.out]; exact decide_eq_true hyx))
          have dx : decide (x ≤ y) = false := decide_eq_false (by omega)
          have nx : ¬ x ≤ y := by omega
          clear hyx NX A2
          go_wp2_with (go_at_call 58; refine (C1.out _).mono ?_; rintro e w' ⟨rfl, rfl⟩)
          exact ⟨⟨trivial, j + 2, by omega, by go_num, N2⟩, by simp [intOf]; omega⟩
        · have R := Lib.hid (RX.out (by rw [A2.out]; exact decide_eq_false hyx))
          have dx : decide (x ≤ y) = true := decide_eq_true (by omega)
          have nx : x ≤ y := by omega
          clear hyx NX A2
          go_wp2_with (go_at_call 58; refine (C1.out _).mono ?_; rintro e w' ⟨rfl, rfl⟩)
          go_ret
          exact ⟨by rw [R.out]; rfl, rfl⟩

set_option maxRecDepth 100000 in
set_option maxHeartbeats 1600000 in
theorem implPup (v : Value) (zs : List Int) (b : Nat) (w : World) (h : OwnI w b v zs) (hl : zs.length ≤ 2000000) :
    Calls Try.prog 74 #[v] w fun e w' => e = .returned (.bool (rising zs 6)) ∧ w = w' := by
  have P := Lib.hid ((implAsc v zs 6 b w h hl).mono fun e w' h => (show _ ∧ w = w' from ⟨h.1, h.2.symm⟩))
  obtain ⟨A, c, rfl⟩ := h.slice
  clear h
  go_enter Try.func74, Try.ntmps74
  go_wp2_with (go_at_call 73; refine P.out.mono ?_; rintro e w' ⟨rfl, rfl⟩)
  go_ret
  exact ⟨rfl, rfl⟩
end Go.Proofs.Ytbgogcobkiaejac

/- The contract of the program's cueFits. Condition: the numbers lie in rows of their own. -/
namespace Go.Proofs.Ytbgogcobkiaejac
set_option linter.unusedVariables false
set_option linter.unusedSimpArgs false
open Go.RowKit

set_option maxRecDepth 100000 in
set_option maxHeartbeats 1600000 in
theorem implFits (l : RCue) (n : Nat) (A1 A2 : Option Addr) (c1 c2 : Nat) (b : Nat) (w : World) (hn : n ≤ 2000000) (o1 : OwnI w b (.slice A1 l.f1.length c1) l.f1) (o2 : OwnI w b (.slice A2 l.f2.length c2) l.f2) (h1 : l.f1.length ≤ 2000000) (h2 : l.f2.length ≤ 2000000) :
    Calls Try.prog 59 #[.agg #[.int .i64 l.f0, .slice A1 l.f1.length c1, .slice A2 l.f2.length c2], .int .i64 (n : Int)] w fun e w' => e = .returned (.bool (cueFine n l)) ∧ Below w.heap.size w w' := by
  have BA := Lib.hid ((Below.refl w.heap.size w).alloc (Nat.le_refl _) (.cells #[.int .i64 l.f0, .slice A1 l.f1.length c1, .slice A2 l.f2.length c2] 33))
  have P1 := Lib.hid ((implAsc _ l.f1 ((n : Int) - 1) b _ (o1.alloc (.cells #[.int .i64 l.f0, .slice A1 l.f1.length c1, .slice A2 l.f2.length c2] 33)) h1).mono fun e w' h => (show _ ∧ w.alloc _ = w' from ⟨h.1, h.2.symm⟩))
  have P2 := Lib.hid (implPup _ l.f2 b _ (o2.alloc (.cells #[.int .i64 l.f0, .slice A1 l.f1.length c1, .slice A2 l.f2.length c2] 33)) h2)
  have C1 := Lib.hid (fun W => (inRange_any l.f0 1 50 W).mono fun e w' h => (show _ ∧ W = w' from ⟨h.1, h.2.symm⟩))
  have en : IntKind.i64.wrap ((n : Int) - 1) = (n : Int) - 1 := IntWalk.i64_in _ (by omega)
  have FI := Lib.hid (show cueFine n l = (inB l.f0 1 50 && (rising l.f1 ((n : Int) - 1) && rising l.f2 6)) from rfl)
  clear o1 o2
  cases q1 : inB l.f0 1 50 with
  | false =>
    have R := Lib.hid (show cueFine n l = false by rw [FI.out, q1]; rfl)
    rw [q1] at C1
    go_enter Try.func59, Try.ntmps59
    go_wp2_with (go_at_call 58; refine (C1.out _).mono ?_; rintro e w' ⟨rfl, rfl⟩)
    go_ret
    exact ⟨by rw [R.out]; rfl, BA.out⟩
  | true =>
    rw [q1] at C1
    cases q2 : rising l.f1 ((n : Int) - 1) with
    | false =>
      have R := Lib.hid (show cueFine n l = false by rw [FI.out, q1, q2]; rfl)
      rw [q2] at P1
      go_enter Try.func59, Try.ntmps59
      go_wp2_with (first | (go_at_call 58; refine (C1.out _).mono ?_; rintro e w' ⟨rfl, rfl⟩) | (go_at_call 73; refine P1.out.mono ?_; rintro e w' ⟨rfl, rfl⟩))
      go_ret
      exact ⟨by rw [R.out]; rfl, BA.out⟩
    | true =>
      have R := Lib.hid (show cueFine n l = rising l.f2 6 by rw [FI.out, q1, q2]; rfl)
      rw [q2] at P1
      go_enter Try.func59, Try.ntmps59
      go_wp2_with (first | (go_at_call 58; refine (C1.out _).mono ?_; rintro e w' ⟨rfl, rfl⟩) | (go_at_call 74; refine P2.out.mono ?_; rintro e w' ⟨rfl, rfl⟩) | (go_at_call 73; refine P1.out.mono ?_; rintro e w' ⟨rfl, rfl⟩))
      go_ret
      exact ⟨by rw [R.out]; rfl, BA.out⟩
end Go.Proofs.Ytbgogcobkiaejac

/- The contracts of the program's CircleIn and CuesOk. Condition: the cues lie in a row of their own. -/
namespace Go.Proofs.Ytbgogcobkiaejac
set_option linter.unusedVariables false
set_option linter.unusedSimpArgs false
open Go.RowKit

theorem nilI (w : World) (b : Nat) : OwnI w b (.slice none 0 0) [] := ⟨rfl, .inl ⟨rfl, rfl⟩⟩

set_option maxRecDepth 100000 in
set_option maxHeartbeats 1600000 in
theorem implCirc (v : Value) (ls : List RCue) (b : Nat) (w : World) (h : OwnCue w b v ls) (hl : bulkCue ls ≤ 1048576) :
    Calls Try.prog 60 #[v] w (IntsPost w (circleIn ls)) := by
  obtain ⟨A, c, rfl⟩ := h.slice
  have O := Lib.hid h
  clear h
  have hbl := bulkCue_len ls
  by_cases hn : ls.length ≤ 12
  rotate_left
  · have R := Lib.hid (show circleIn ls = [] by unfold circleIn; rw [if_neg hn])
    have h12 : (12 : Int) < (ls.length : Int) := by omega
    go_enter Try.func60, Try.ntmps60
    go_wp2
    go_ret
    exact ⟨_, rfl, by rw [R.out]; exact nilI _ _, Below.refl _ _⟩
  have h12 : ¬ (12 : Int) < (ls.length : Int) := by omega
  have R := Lib.hid (show circleIn ls = circTo ls ls.length by unfold circleIn; rw [if_pos hn])
  have CW := Lib.hid (fun W h i hi => implWtd (.slice A ls.length c) ls b W h hn hl i hi)
  have CM := Lib.hid (fun k (hk : k < ls.length) (t : Bool) (ht : t = true ↔ Waits ls k k) => (show circTo ls (k + 1) = if t = true then circTo ls k ++ [(k : Int)] else circTo ls k by
    rw [circTo]
    by_cases q : ((waitSet ls).getD k 0).testBit k = true
    · rw [if_pos q, if_pos (ht.2 ((wait_bit ls hk).1 q))]
    · rw [if_neg q, if_neg (fun x => q ((wait_bit ls hk).2 (ht.1 x)))]))
  go_enter Try.func60, Try.ntmps60
  go_wp2_with fail
  go_loopw [3, 10] (fun ov iv wr => ∃ (k : Nat) (vo : Value), vo = ov ∧ k ≤ ls.length ∧ iv = .int .i64 (k : Int) ∧ Hid (OwnI wr w.heap.size vo (circTo ls k)) ∧ Hid (Below w.heap.size w wr)) (fun _ iv _ => ls.length - (intOf iv).toNat)
  case atStart => exact ⟨0, _, rfl, by omega, rfl, Lib.hid (nilI _ _), Lib.hid (Below.refl _ _)⟩
  case round =>
    obtain ⟨k, vo, rfl, hk, rfl, OO, BW⟩ := hrel
    by_cases hlt : k < ls.length
    rotate_left
    · obtain rfl : k = ls.length := by omega
      have F := Lib.hid (R.out ▸ OO.out)
      go_wp2
      go_ret
      exact ⟨_, rfl, F.out, BW.out⟩
    have hk0 : (0 : Int) ≤ (k : Int) := by omega
    have hk1 : (k : Int) < (ls.length : Int) := by omega
    have hcl := circTo_len ls k
    go_wp2_with fail
    refine (CW.out _ (O.out.below BW.out) k hlt).mono ?_
    rintro e w1 ⟨mb, n, T, rfl, s1, t1, b1⟩
    have LK := s1.look (k := k) (by omega)
    have B1 := Lib.hid (BW.out.trans (b1.mono BW.out.size))
    have O1 := Lib.hid (OO.out.below b1)
    have NX := Lib.hid (CM.out k hlt (T k) (t1 k))
    have hbs := B1.out.size
    clear s1 t1 b1 OO BW
    generalize T k = t at LK NX
    cases t with
    | true =>
      have N2 := Lib.hid (show circTo ls (k + 1) = circTo ls k ++ [(k : Int)] by rw [NX.out]; rfl)
      have ON := Lib.hid (oneI w1 w1.heap.size (k : Int) (Nat.le_refl _))
      clear NX
      go_wp2_with (at_builtin; refine wpList_rowsI rfl (.tmp 18) (.tmp 20) rfl w.heap.size w1.heap.size _ _ (circTo ls k) [(k : Int)] rfl rfl (O1.out.alloc _) ON.out ?_ ?_ ?_; (simp <;> omega); (simp <;> omega); intro v2 w2 o2 g2 hat2)
      have B2 := Lib.hid (madeR (B1.out.alloc hbs _) (by simp; omega) (O1.out.alloc _) g2)
      have O2 : Hid (OwnI w2 w.heap.size v2 (circTo ls (k + 1))) := Lib.hid (N2.out ▸ o2)
      exact ⟨⟨k + 1, v2, rfl, by omega, by go_num, O2, B2⟩, by simp [intOf] <;> omega⟩
    | false =>
      have N2 := Lib.hid (show circTo ls (k + 1) = circTo ls k by rw [NX.out]; rfl)
      clear NX
      go_wp2
      exact ⟨⟨k + 1, vo, rfl, by omega, by go_num, Lib.hid (by rw [N2.out]; exact O1.out), B1⟩, by simp [intOf] <;> omega⟩

set_option maxRecDepth 100000 in
set_option maxHeartbeats 1600000 in
theorem implCOk (v : Value) (ls : List RCue) (b : Nat) (w : World) (h : OwnCue w b v ls) (hl : bulkCue ls ≤ 1048576) :
    Calls Try.prog 38 #[v] w fun e w' => e = .returned (.bool (cuesOk ls)) ∧ Below w.heap.size w w' := by
  have CC := Lib.hid (fun W h => implCirc v ls b W h hl)
  obtain ⟨A, c, rfl⟩ := h.slice
  have O := Lib.hid h
  clear h
  have C1 := Lib.hid (fun W => (inRange_any (ls.length : Int) 1 12 W).mono fun e w' h => (show _ ∧ W = w' from ⟨h.1, h.2.symm⟩))
  have hbl := bulkCue_len ls
  have CL := circleIn_len12 ls
  cases hin : inB (ls.length : Int) 1 12 with
  | false =>
    have R := Lib.hid (cuesOk_no hin)
    rw [hin] at C1
    clear hin
    go_enter Try.func38, Try.ntmps38
    go_wp2_with (go_at_call 58; refine (C1.out _).mono ?_; rintro e w' ⟨rfl, rfl⟩)
    go_ret
    exact ⟨by rw [R.out]; rfl, Below.refl _ _⟩
  | true =>
    have RA := Lib.hid (fun h => cuesOk_all hin h)
    have RB := Lib.hid (fun k (hk : k < ls.length) h => cuesOk_bad hk h)
    have RW := Lib.hid (fun k (h : k < ls.length) => (show ls[k].f1.length ≤ 2000000 ∧ ls[k].f2.length ≤ 2000000 by have := bulkCue_row ls k h; omega))
    rw [hin] at C1
    clear hin
    go_enter Try.func38, Try.ntmps38
    go_wp2_with (go_at_call 58; refine (C1.out _).mono ?_; rintro e w' ⟨rfl, rfl⟩)
    go_loopw [11] (fun iv wr => ∃ k : Nat, k ≤ ls.length ∧ iv = .int .i64 (k : Int) ∧ Hid (∀ i (hi : i < ls.length), i < k → cueFine ls.length ls[i] = true) ∧ Hid (Below w.heap.size w wr)) (fun iv _ => ls.length - (intOf iv).toNat)
    case atStart => exact ⟨0, by omega, rfl, Lib.hid (fun i _ hi => absurd hi (by omega)), Lib.hid (Below.refl _ _)⟩
    case round =>
      obtain ⟨k, hk, rfl, HT, BW⟩ := hrel
      by_cases hlt : k < ls.length
      rotate_left
      · obtain rfl : k = ls.length := by omega
        have R := Lib.hid (RA.out (fun i hi => HT.out i hi hi))
        have CF := Lib.hid (CC.out wr (O.out.below BW.out))
        generalize circleIn ls = zs at R CF CL
        go_wp2_with fail
        refine CF.out.mono ?_
        rintro e w2 ⟨v2, rfl, o2, b2⟩
        obtain ⟨Z, cz, rfl⟩ := o2.slice
        have B2 := Lib.hid (BW.out.trans (b2.mono BW.out.size))
        clear o2 b2
        by_cases hz : zs.length = 0
        · have hzb : ((zs.length : Int) == 0) = true := by rw [hz]; rfl
          rw [decide_eq_true hz] at R
          clear hz
          go_wp2
          go_ret
          exact ⟨by rw [R.out]; try rfl, B2.out⟩
        · have hzb : ((zs.length : Int) == 0) = false := by simp; exact fun e => hz (by rw [e]; rfl)
          rw [decide_eq_false hz] at R
          clear hz
          go_wp2
          go_ret
          exact ⟨by rw [R.out]; try rfl, B2.out⟩
      have hk0 : (0 : Int) ≤ (k : Int) := by omega
      have hk1 : (k : Int) < (ls.length : Int) := by omega
      obtain ⟨g, cg, A1, c1, A2, c2, f1, -, ⟨x0, x1, x2⟩, ⟨o1, o2⟩, -, -, -, -⟩ := (O.out.below BW.out).spot hlt
      simp only [Value.slice.injEq] at f1
      obtain ⟨rfl, -, rfl⟩ := f1
      have hr := RW.out k hlt
      have NX := Lib.hid (fun (h : cueFine ls.length ls[k] = true) => (show ∀ i (hi : i < ls.length), i < k + 1 → cueFine ls.length ls[i] = true from fun i hi hj => by
        rcases (by omega : i < k ∨ i = k) with q | rfl
        · exact HT.out i hi q
        · exact h))
      have RX := Lib.hid (RB.out k hlt)
      have hbs := BW.out.size
      have BA := Lib.hid (BW.out.alloc hbs (.cells #[.int .i64 ls[k].f0, .slice A1 ls[k].f1.length c1, .slice A2 ls[k].f2.length c2] 33))
      have FT := Lib.hid (implFits ls[k] ls.length A1 A2 c1 c2 b (wr.alloc (.cells #[.int .i64 ls[k].f0, .slice A1 ls[k].f1.length c1, .slice A2 ls[k].f2.length c2] 33)) (by omega) (o1.alloc _) (o2.alloc _) hr.1 hr.2)
      clear o1 o2 hr
      generalize ls[k] = l at x0 x1 x2 NX RX BA FT
      cases h1 : cueFine ls.length l with
      | false =>
        have R := Lib.hid (RX.out h1)
        rw [h1] at FT
        clear h1 RX NX
        go_wp2_with (go_at_call 59; refine FT.out.mono ?_; rintro e w2 ⟨rfl, b2⟩; have B2 := Lib.hid (BA.out.trans (b2.mono BA.out.size)); clear b2)
        go_ret
        exact ⟨by rw [R.out]; rfl, B2.out⟩
      | true =>
        have N2 := Lib.hid (NX.out h1)
        rw [h1] at FT
        clear h1 RX NX
        go_wp2_with (go_at_call 59; refine FT.out.mono ?_; rintro e w2 ⟨rfl, b2⟩; have B2 := Lib.hid (BA.out.trans (b2.mono BA.out.size)); clear b2)
        exact ⟨⟨k + 1, by omega, by go_num, N2, B2⟩, by simp [intOf]; omega⟩
end Go.Proofs.Ytbgogcobkiaejac
