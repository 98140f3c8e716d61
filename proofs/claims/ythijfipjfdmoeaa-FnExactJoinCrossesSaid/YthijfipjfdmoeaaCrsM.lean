/- Crossings as mathematics: valid lists, the order behind them, the pairs, undoing, reducing, counting. No condition. -/
import Derived.Test.YthijfipjfdmoeaaCrossM
import Derived.Test.YthijfipjfdmoeaaSwpM
namespace Go.Proofs.Ythijfipjfdmoeaa
set_option linter.unusedVariables false
open Go.RowKit

/-- CrossesOk. -/
def crossOk (n : Int) (ls : List RCross) : Bool := inB n 1 7 && (decide (ls.length ≤ 40) && ls.all fun l => inB l.f0 0 (n - 2))
theorem crossOk_no {n : Int} {ls : List RCross} (h : inB n 1 7 = false ∨ 40 < ls.length) : crossOk n ls = false := by
  unfold crossOk
  rcases h with h | h
  · rw [h]; rfl
  · rw [decide_eq_false (by omega : ¬ ls.length ≤ 40)]; simp
theorem crossOk_at {n : Int} {ls : List RCross} {k : Nat} (hk : k < ls.length) (h : inB ls[k].f0 0 (n - 2) = false) : crossOk n ls = false := by
  unfold crossOk
  rw [Bool.and_eq_false_iff]
  refine .inr ?_
  rw [Bool.and_eq_false_iff]
  refine .inr ?_
  rw [List.all_eq_false]
  exact ⟨ls[k], List.getElem_mem hk, by rw [h]; decide⟩
theorem crossOk_yes {n : Int} {ls : List RCross} (h1 : inB n 1 7 = true) (h2 : ls.length ≤ 40) (h : ∀ k (hk : k < ls.length), inB ls[k].f0 0 (n - 2) = true) : crossOk n ls = true := by
  unfold crossOk
  rw [h1, decide_eq_true h2, Bool.true_and, Bool.true_and, List.all_eq_true]
  intro l hl
  obtain ⟨k, hk, rfl⟩ := List.mem_iff_getElem.1 hl
  exact h k hk
theorem crossOk_has {n : Int} {ls : List RCross} (h : crossOk n ls = true) : inB n 1 7 = true ∧ ls.length ≤ 40 ∧ ∀ k (hk : k < ls.length), inB ls[k].f0 0 (n - 2) = true := by
  unfold crossOk at h
  simp only [Bool.and_eq_true, decide_eq_true_eq, List.all_eq_true] at h
  exact ⟨h.1, h.2.1, fun k hk => h.2.2 _ (List.getElem_mem hk)⟩
/-- What one crossing makes of an order. -/
def stepA (zs : List Int) (l : RCross) : List Int := (swapR zs l.f0).1
theorem stepA_len (zs : List Int) (l : RCross) : (stepA zs l).length = zs.length := by
  unfold stepA swapR
  split
  · exact swap_len _ _
  · rfl
def startL (n : Nat) : List Int := (List.range n).map fun (k : Nat) => (k : Int)
theorem startL_len (n : Nat) : (startL n).length = n := by simp [startL]
theorem startL_more (n : Nat) : startL (n + 1) = startL n ++ [(n : Int)] := by simp [startL, List.range_succ]
def nowAt (n : Int) (ls : List RCross) (k : Nat) : List Int := (ls.take k).foldl stepA (startL n.toNat)
theorem foldA_len (ls : List RCross) (zs : List Int) : (ls.foldl stepA zs).length = zs.length := by
  induction ls generalizing zs with
  | nil => rfl
  | cons l ls ih => rw [List.foldl_cons, ih, stepA_len]
theorem nowAt_len (n : Int) (ls : List RCross) (k : Nat) : (nowAt n ls k).length = n.toNat := by rw [nowAt, foldA_len, startL_len]
theorem nowAt_zero (n : Int) (ls : List RCross) : nowAt n ls 0 = startL n.toNat := rfl
theorem nowAt_more (n : Int) {ls : List RCross} {k : Nat} (h : k < ls.length) : nowAt n ls (k + 1) = stepA (nowAt n ls k) ls[k] := by
  unfold nowAt
  rw [List.take_add_one, List.getElem?_eq_getElem h, List.foldl_append]
  rfl
def ordAfter (n : Int) (ls : List RCross) : List Int := if crossOk n ls = true then nowAt n ls ls.length else []
theorem ordAfter_len (n : Int) (ls : List RCross) : (ordAfter n ls).length ≤ 7 := by
  unfold ordAfter
  split
  · next h =>
    have h := (crossOk_has h).1
    rw [nowAt_len]
    unfold inB at h
    have h := of_decide_eq_true h
    omega
  · simp
def turned (l : RCross) : RCross := ⟨l.f0, !l.f1⟩
def undo (ls : List RCross) : List RCross := (ls.map turned).reverse
theorem undo_len (ls : List RCross) : (undo ls).length = ls.length := by simp [undo]
/-- The crossings from place k on, the last one first, turned. -/
def undoTo (ls : List RCross) (k : Nat) : List RCross := undo (ls.drop k)
theorem undoTo_zero (ls : List RCross) : undoTo ls 0 = undo ls := by simp [undoTo]
theorem undoTo_all (ls : List RCross) : undoTo ls ls.length = [] := by simp [undoTo, undo]
theorem undoTo_less {ls : List RCross} {k : Nat} (h : k < ls.length) : undoTo ls k = undoTo ls (k + 1) ++ [turned ls[k]] := by
  unfold undoTo undo
  rw [List.drop_eq_getElem_cons h, List.map_cons, List.reverse_cons]
/-- One step of the reduction. -/
def undoes (x l : RCross) : Bool := decide (x.f0 = l.f0) && (x.f1 != l.f1)
def push (out : List RCross) (l : RCross) : List RCross :=
  match out.getLast? with
  | some x => if undoes x l = true then out.dropLast else out ++ [l]
  | none => out ++ [l]
def redTo (ls : List RCross) (k : Nat) : List RCross := (ls.take k).foldl push []
def reduced (n : Int) (ls : List RCross) : List RCross := if crossOk n ls = true then redTo ls ls.length else []
theorem redTo_more {ls : List RCross} {k : Nat} (h : k < ls.length) : redTo ls (k + 1) = push (redTo ls k) ls[k] := by
  unfold redTo
  rw [List.take_add_one, List.getElem?_eq_getElem h, List.foldl_append]
  rfl
theorem push_len (out : List RCross) (l : RCross) : (push out l).length ≤ out.length + 1 := by
  unfold push
  split
  · split <;> simp <;> omega
  · simp
theorem redTo_len (ls : List RCross) (k : Nat) : (redTo ls k).length ≤ k := by
  have : ∀ (xs : List RCross) (o : List RCross), (xs.foldl push o).length ≤ o.length + xs.length := by
    intro xs
    induction xs with
    | nil => intro o; simp
    | cons x xs ih =>
      intro o
      have h1 := ih (push o x)
      have h2 := push_len o x
      rw [List.foldl_cons, List.length_cons]
      omega
  have h := this (ls.take k) []
  simp only [List.length_nil, List.length_take] at h
  unfold redTo
  omega
theorem reduced_len (n : Int) (ls : List RCross) : (reduced n ls).length ≤ ls.length := by
  unfold reduced
  split
  · exact redTo_len ls _
  · simp
/-- Who passes whom at a crossing. -/
def pairC (now : List Int) (l : RCross) : List Int := if l.f1 = true then [atI now l.f0.toNat, atI now (l.f0.toNat + 1)] else [atI now (l.f0.toNat + 1), atI now l.f0.toNat]
def pairsTo (n : Int) (ls : List RCross) (k : Nat) : List (List Int) := (List.range k).map fun i => pairC (nowAt n ls i) (ls.getD i RCross.zero)
def pairsOf (n : Int) (ls : List RCross) : List (List Int) := if crossOk n ls = true then pairsTo n ls ls.length else []
theorem pairsTo_more (n : Int) {ls : List RCross} {k : Nat} (h : k < ls.length) : pairsTo n ls (k + 1) = pairsTo n ls k ++ [pairC (nowAt n ls k) ls[k]] := by
  unfold pairsTo
  rw [List.range_succ, List.map_append, List.map_singleton, List.getD_eq_getElem?_getD, List.getElem?_eq_getElem h]
  rfl
theorem pairsTo_len (n : Int) (ls : List RCross) (k : Nat) : (pairsTo n ls k).length = k := by simp [pairsTo]
theorem pairC_len (now : List Int) (l : RCross) : (pairC now l).length = 2 := by unfold pairC; split <;> rfl
/-- How often a puppet goes in front. -/
def frontTo (p : Int) (zss : List (List Int)) (k : Nat) : Nat := (zss.take k).countP fun z => decide (atI z 0 = p)
theorem frontTo_more (p : Int) {zss : List (List Int)} {k : Nat} (h : k < zss.length) : frontTo p zss (k + 1) = frontTo p zss k + (if atI zss[k] 0 = p then 1 else 0) := by
  unfold frontTo
  rw [List.take_add_one, List.getElem?_eq_getElem h, List.countP_append]
  simp [List.countP_cons]
def countFront (n : Int) (ls : List RCross) (p : Int) : Int := if crossOk n ls = true ∧ inB p 0 (n - 1) = true then (frontTo p (pairsOf n ls) (pairsOf n ls).length : Int) else -1
/-- A row of crossings of the call's own as a result. -/
def CrossPost (w : World) (ls : List RCross) (e : Ending) (w' : World) : Prop := ∃ v, e = .returned v ∧ OwnCross w' w.heap.size v ls ∧ Below w.heap.size w w'
end Go.Proofs.Ythijfipjfdmoeaa
