/- A map from hands left (six numbers) to truths that the call made, as a set. Condition: each number is 0 to 2. -/
import Derived.Test.YtjpalndcfaeihaaFcaM
import Derived.Test.YtjpalndcfaeihaaRowB
import Derived.Maps.Own
import Derived.Maps.OwnOps
import Derived.Maps.Views
import Derived.WideKeyArr
namespace Go.Proofs.Ytjpalndcfaeihaa
set_option linter.unusedVariables false
set_option linter.unusedSimpArgs false
open Go.RowKit Go.Maps

theorem arrKey6 : WideMaps.ArrKey Try.prog 50 3 6 := ⟨Try.underlying50, by kernel_rfl, by kernel_rfl, by kernel_rfl⟩
theorem lawH : Keyed Try.prog 50 := Keyed.of_law arrKey6.law
theorem keyTypeH : Try.prog.keyType 50 = true := by kernel_rfl
theorem cellsH : Try.prog.cellsOf 50 = 6 := arrKey6.size
theorem cellsHI : Try.prog.cellsOf 3 = 1 := arrKey6.one
theorem zeroH (w : World) : (zeroValue 4).run Try.prog w = .ok (.bool false) w := by kernel_rfl
/-- The array as a value. -/
def arrH (L : List Int) : Value := .agg (L.map intV).toArray
def litH (L : List Int) : Lit := .string (keyBytes (L.map (Lit.int .i64)))
theorem wfH {z : Int} (h : 0 ≤ z ∧ z ≤ 2) : (Lit.int .i64 z).wf = true := by
  have e1 : IntKind.i64.min = -9223372036854775808 := by decide
  have e2 : IntKind.i64.max = 9223372036854775807 := by decide
  simp only [Lit.wf, Bool.and_eq_true, decide_eq_true_eq, e1, e2]
  omega
theorem keyLitH (n : Nat) {z : Int} (h : 0 ≤ z ∧ z ≤ 2) : Try.prog.keyLits (n + 1) 3 [intV z] = some [.int .i64 z] := by
  simp only [Program.keyLits, Try.underlying3, intV, wfH h, true_and, and_self, if_true]
theorem keyH {L : List Int} (h : HSix L) : keyOf Try.prog 50 (arrH L) = some (litH L) := by
  obtain ⟨hl, hv⟩ := h
  match L, hl with
  | [a, b, c, d, e, f], _ =>
    have h0 := keyLitH (Try.prog.types.size - 1) (hv 0)
    have h1 := keyLitH (Try.prog.types.size - 1) (hv 1)
    have h2 := keyLitH (Try.prog.types.size - 1) (hv 2)
    have h3 := keyLitH (Try.prog.types.size - 1) (hv 3)
    have h4 := keyLitH (Try.prog.types.size - 1) (hv 4)
    have h5 := keyLitH (Try.prog.types.size - 1) (hv 5)
    rw [show Try.prog.types.size - 1 + 1 = Try.prog.types.size by kernel_rfl] at h0 h1 h2 h3 h4 h5
    simp only [List.getD_cons_zero, List.getD_cons_succ] at h0 h1 h2 h3 h4 h5
    have hf : Value.formed Try.prog 50 (arrH [a, b, c, d, e, f]) = true := by
      simp only [arrH, Value.formed, Try.underlying50, cellsH]
      rfl
    have hc : (arrH [a, b, c, d, e, f]).cells.toList = [intV a, intV b, intV c, intV d, intV e, intV f] := rfl
    unfold keyOf
    simp only [Try.underlying50, keyTypeH, hf, Bool.and_self, if_true, hc]
    unfold Program.keyLits
    simp only [Try.underlying50, cellsH, cellsHI, List.length_cons, List.length_nil]
    rw [if_pos trivial, show List.range 6 = [0, 1, 2, 3, 4, 5] by rfl]
    simp only [List.mapM_cons, List.mapM_nil, List.drop_succ_cons, List.drop_zero, List.take_succ_cons, List.take_zero, Nat.zero_mul, Nat.one_mul, Nat.mul_one, h0, h1, h2, h3, h4, h5, Option.bind_eq_bind, Option.bind_some, Option.pure_def, Option.map_some]
    rfl
theorem arrH_inj {L M : List Int} (h : arrH L = arrH M) : L = M := by
  unfold arrH at h
  have e := congrArg Array.toList (Value.agg.inj h)
  simp only at e
  exact (List.map_inj_right (fun a b q => by simpa [intV] using q)).1 e
theorem litH_inj {L M : List Int} (h1 : HSix L) (h2 : HSix M) (e : litH L = litH M) : L = M := arrH_inj (lawH.inj (keyH h1) (by rw [e]; exact keyH h2))
/-- The hands L besides. -/
def markH (T : List Int → Bool) (L : List Int) : List Int → Bool := fun M => decide (M = L) || T M
theorem markH_iff (T : List Int → Bool) (L M : List Int) : markH T L M = true ↔ M = L ∨ T M = true := by simp [markH]
/-- Block b is a map of at most n keys; the hands that hold true are the set T. -/
def SetH (w : World) (b n : Nat) (T : List Int → Bool) : Prop := ∃ D : DataW Unit, w.ownsMap Try.prog 50 (plainElem Try.prog 4) b n D ∧ ∀ L, HSix L → D.atKey (litH L) (.lit (.bool false)) = .lit (.bool (T L))
theorem setH_made (w : World) : SetH (w.alloc (.map #[] 0)) w.heap.size 0 (fun _ => false) := ⟨_, World.ownsMap_made _ _ _ _, fun k _ => rfl⟩
section
variable {w w' : World} {b n : Nat} {T : List Int → Bool} {L : List Int}
theorem SetH.lt (h : SetH w b n T) : b < w.heap.size := let ⟨_, o, _⟩ := h; o.lt
theorem SetH.mono (h : SetH w b n T) {m : Nat} (hm : n ≤ m) : SetH w b m T := let ⟨D, o, e⟩ := h; ⟨D, o.mono hm, e⟩
theorem SetH.kept {row : Option Nat} (h : SetH w b n T) (hg : w.grownBy w' row) (hne : some b ≠ row) : SetH w' b n T := let ⟨D, o, e⟩ := h; ⟨D, o.kept hg hne, e⟩
theorem SetH.below (h : SetH w b n T) (hb : Below w.heap.size w w') : SetH w' b n T := h.kept (grown_of_below hb none) (by simp)
theorem SetH.look (h : SetH w b n T) (hL : HSix L) : (Instr.lookup 52 (.map (some b)) (arrH L) false).run Try.prog w = .ok (.bool (T L)) w := by
  obtain ⟨D, o, e⟩ := h
  obtain ⟨v, ps, hrun, hv⟩ := o.lookup lawH (t := 52) Try.underlying52 (zeroH w) (plainElem_bool (H := Unit) Try.underlying4 false) (keyH hL)
  rw [e L hL] at hv
  rw [hrun]
  unfold plainElem at hv
  rw [Try.underlying4] at hv
  cases v <;> simp at hv
  rw [hv.1]
theorem SetH.store (h : SetH w b n T) (hL : HSix L) (hn : n < 4096) :
    ∃ w', (Instr.mapUpdate 52 (.map (some b)) (arrH L) (.bool true)).run Try.prog w = .ok () w' ∧ SetH w' b (n + 1) (markH T L) ∧ w.grownBy w' (some b) := by
  obtain ⟨D, o, e⟩ := h
  obtain ⟨w', hrun, o2, g2⟩ := o.update lawH (t := 52) (e := 4) Try.underlying52 (by unfold maxLen; omega) (keyH hL) (plainElem_bool (H := Unit) Try.underlying4 true)
  refine ⟨w', hrun, ⟨_, o2, fun M hM => ?_⟩, g2⟩
  have hm : IsMap D := by obtain ⟨_, _, _, _, _, e⟩ := o; exact ⟨_, e⟩
  by_cases c : M = L
  · subst c
    rw [atKey_put_same hm (by simp [litH, WideAt.IsKeyLit])]
    simp [markH]
  · rw [atKey_put_other (fun q => c (litH_inj hM hL q)), e M hM]
    simp [markH, c]
end
theorem wpList_markH {w : World} {ops : Array Oper} {rest : List Oper} {o : Oper} {a : Act} {Q : Exit → Act → World → Prop}
    (hg : o.guard = none) (m x : Operand) (hop : o.op = Op.mapUpdate 52 m x (.const (.bool true))) (b n : Nat) (T : List Int → Bool) (L : List Int)
    (hm : a.eval m = .map (some b)) (hx : a.eval x = arrH L) (h : SetH w b n T) (hL : HSix L) (hn : n < 4096)
    (hK : ∀ w', SetH w' b (n + 1) (markH T L) → w.grownBy w' (some b) → wpList Try.prog ops Q rest (a.put o.dst undef) w') :
    wpList Try.prog ops Q (o :: rest) a w := by
  refine wpList_plain hg fun K' hK' => ?_
  obtain ⟨w', hrun, r1, r2⟩ := h.store hL hn
  have e : a.eval (.const (.bool true)) = .bool true := rfl
  unfold Oper.wp
  simp [execOp, hop, hm, hx, e, hrun, Result.andThen]
  exact hK' _ _ (hK w' r1 r2)
end Go.Proofs.Ytjpalndcfaeihaa
