/- Texts of this seat laid together, each with its own first sentence below: TilM RowI Held CueA Draw Once NewA StK StO AscM. -/
import Derived.Test.YtbgogcobkiaejacPk3
import Derived.Test.YtbgogcobkiaejacPk1
import Derived.Maps.AppendAt
import Derived.RegionTactic
import Derived.Deep.AppendLies
import Derived.Deep.RegionHeld3
import Derived.Deep.RegionLaw
import Derived.Laws.BitsLemmas
import Derived.BigQuiet
import Derived.Deep.QuietTactic
import Derived.Deep.Draws
import Derived.Laws.Pointers
/- LatestStarts as mathematics. No condition. -/
namespace Go.Proofs.Ytbgogcobkiaejac
set_option linter.unusedVariables false
set_option linter.unusedSimpArgs false
open Go.RowKit

def lateInit (ls : List RCue) : Nat → List Int
  | 0 => []
  | k + 1 => lateInit ls k ++ [playTime ls - (ls.getD k RCue.zero).f0]
/-- The first j of the cues that cue k names may not come later than that. -/
def pullTo (ls : List RCue) (k : Nat) (arr : List Int) : Nat → List Int
  | 0 => arr
  | j + 1 =>
    let r := pullTo ls k arr j
    let p := ((ls.getD k RCue.zero).f1.getD j 0).toNat
    r.set p (if r.getD k 0 - (ls.getD p RCue.zero).f0 < r.getD p 0 then r.getD k 0 - (ls.getD p RCue.zero).f0 else r.getD p 0)
/-- The last i of the order. -/
def lateTo (ls : List RCue) : Nat → List Int
  | 0 => lateInit ls ls.length
  | i + 1 =>
    let k := ((cueOrder ls).getD (ls.length - (i + 1)) 0).toNat
    pullTo ls k (lateTo ls i) (ls.getD k RCue.zero).f1.length
def latestStarts (ls : List RCue) : List Int := if cuesOk ls = true then lateTo ls ls.length else []
theorem init_len (ls : List RCue) : ∀ k, (lateInit ls k).length = k := by
  intro k
  induction k with
  | zero => rfl
  | succ k ih => rw [lateInit, List.length_append, ih]; rfl
theorem pull_len (ls : List RCue) (k : Nat) (arr : List Int) : ∀ j, (pullTo ls k arr j).length = arr.length := by
  intro j
  induction j with
  | zero => rfl
  | succ j ih => rw [pullTo]; simp only [List.length_set, ih]
theorem late_len (ls : List RCue) : ∀ i, (lateTo ls i).length = ls.length := by
  intro i
  induction i with
  | zero => rw [lateTo, init_len]
  | succ i ih => rw [lateTo]; simp only [pull_len, ih]
theorem latest_len (ls : List RCue) : (latestStarts ls).length ≤ 2000000 := by
  unfold latestStarts
  split
  · next h => have := (cuesOk_has h).1; rw [late_len]; omega
  · simp
def LoTo (m : Int) (arr : List Int) : Prop := ∀ t, -m ≤ arr.getD t 0 ∧ arr.getD t 0 ≤ 7250
theorem loTo_more {m m' : Int} {arr : List Int} (h : LoTo m arr) (hm : m ≤ m') : LoTo m' arr := fun t => by have := h t; omega
theorem play_no {ls : List RCue} (h : cuesOk ls = false) : playTime ls = -1 := by
  unfold playTime startsOf
  rw [if_neg (by rw [h]; simp)]
  rfl
section
variable {ls : List RCue} (hok : cuesOk ls = true)
include hok
theorem play_pos : 1 ≤ playTime ls ∧ playTime ls ≤ 7250 := by
  have hn := (cuesOk_has hok).1
  have e : (startsOf ls).length = ls.length := by unfold startsOf; rw [if_pos hok, starts_len]
  have b := play_in ls (startsOf ls).length (Nat.le_refl _)
  refine ⟨?_, b.2⟩
  unfold playTime
  rw [e]
  obtain ⟨m, hm⟩ : ∃ m, ls.length = m + 1 := ⟨ls.length - 1, by omega⟩
  rw [hm, playTo]
  have s := startsOf_in ls m
  have f := (cue_fine hok (k := m) (by omega)).1
  split <;> omega
theorem init_in : ∀ k, k ≤ ls.length → LoTo 50 (lateInit ls k) := by
  intro k
  induction k with
  | zero => intro _ t; simp [lateInit]
  | succ k ih =>
    intro hk t
    have r := ih (by omega) t
    have p := play_pos hok
    have f := (cue_fine hok (k := k) (by omega)).1
    rw [lateInit]
    rcases Nat.lt_trichotomy t (lateInit ls k).length with c | c | c
    · rw [List.getD_eq_getElem?_getD, List.getElem?_append_left c, ← List.getD_eq_getElem?_getD]; exact r
    · rw [c, List.getD_eq_getElem?_getD, List.getElem?_append_right (Nat.le_refl _), Nat.sub_self]
      show -50 ≤ playTime ls - _ ∧ playTime ls - _ ≤ 7250
      omega
    · rw [List.getD_eq_getElem?_getD, List.getElem?_eq_none (by rw [List.length_append]; simp; omega), Option.getD_none]
      omega
theorem pull_in {k : Nat} (hk : k < ls.length) {arr : List Int} {m : Int} (h : LoTo m arr) (hm : 0 ≤ m) : ∀ j, j ≤ (ls.getD k RCue.zero).f1.length → LoTo (m + 50 * j) (pullTo ls k arr j) := by
  intro j
  induction j with
  | zero => intro _; exact loTo_more h (by omega)
  | succ j ih =>
    intro hj t
    have r := ih (by omega)
    obtain ⟨q0, q1⟩ := (cue_fine hok hk).2 j (by omega)
    have hp : ((ls.getD k RCue.zero).f1.getD j 0).toNat < ls.length := by omega
    have f := (cue_fine hok hp).1
    rw [pullTo]
    generalize ((ls.getD k RCue.zero).f1.getD j 0).toNat = p at f ⊢
    generalize (ls.getD p RCue.zero).f0 = g at f ⊢
    have r1 := r p
    have r2 := r k
    have r3 := r t
    by_cases c : p = t
    · subst c
      by_cases l : p < (pullTo ls k arr j).length
      · rw [List.getD_eq_getElem?_getD (l := List.set _ _ _), List.getElem?_set_self l]
        rw [Option.getD_some]
        split <;> omega
      · rw [List.set_eq_of_length_le (by omega)]
        omega
    · rw [List.getD_eq_getElem?_getD (l := List.set _ _ _), List.getElem?_set_ne c, ← List.getD_eq_getElem?_getD]
      omega
theorem late_in : ∀ i, i ≤ ls.length → LoTo (50 + 600 * i) (lateTo ls i) := by
  intro i
  induction i with
  | zero => intro _; exact loTo_more (init_in hok ls.length (Nat.le_refl _)) (by omega)
  | succ i ih =>
    intro hi
    obtain ⟨p, hp, e⟩ := order_get hok (i := ls.length - (i + 1)) (by omega)
    rw [lateTo]
    rw [List.getD_eq_getElem?_getD, e]
    have q := pull_in hok hp (ih (by omega)) (by omega) _ (Nat.le_refl _)
    have l := after_max hok hp
    exact loTo_more q (by omega)
end
end Go.Proofs.Ytbgogcobkiaejac

/- An own row of numbers behind another. Condition: the numbers lie in rows of their own. -/
namespace Go.Proofs.Ytbgogcobkiaejac
set_option linter.unusedVariables false
open Go.RowKit

theorem intV_one (zs : List Int) : ∀ u ∈ zs.map intV, u.oneCell' = true := by
  intro u hu
  obtain ⟨z, _, rfl⟩ := List.mem_map.1 hu
  rfl
/-- One own row behind another: what came is nil, empty or holds numbers. -/
theorem run_rowsI (w : World) (ty : TypeId) (base b2 : Nat) (v x : Value) (xs ys : List Int) (h1 : OwnI w base v xs) (h2 : OwnI w b2 x ys) (hl : xs.length + ys.length ≤ 4000000) (hB : base ≤ w.heap.size) :
    ∃ v' w', (Builtin.append_ #[26, 26] ty #[v, x]).run Try.prog w = .ok v' w' ∧ OwnI w' base v' (xs ++ ys) ∧ w.grownBy w' v.ownBlock ∧ (v'.ownBlock = v.ownBlock ∨ v'.ownBlock = some w.heap.size) := by
  obtain ⟨i, hi, hz, hs, hb⟩ := info_parts info_int
  rcases id h2.2 with ⟨rfl, hn⟩ | ⟨g, cap, cur, rfl, _⟩
  · have hy : ys = [] := List.eq_nil_of_length_eq_zero hn
    subst hy
    refine ⟨v, w, ?_, by simpa using h1, World.grownBy.refl w _, .inl rfl⟩
    rcases h1.2 with ⟨rfl, _⟩ | ⟨g, cap, cur, rfl, _, _, hnc, _⟩
    · simp [Builtin.append_, run_underlying Try.underlying26, sizeOf, typeInfo, hi, Builtin.lenOf, Builtin.firstCells]
    · simp [Builtin.append_, run_underlying Try.underlying26, sizeOf, typeInfo, hi, Builtin.lenOf, Builtin.firstCells, hnc, storeCells]
  · obtain ⟨v', w', hr, o, g1, _, hat⟩ := run_append_own_at (P := Try.prog) w base 26 ty 3 i (.int .i64 0) 1 8 Try.underlying26 hi hz hs hb rfl (by omega) v xs.length (xs.map intV) h1
      ⟨g, 0, none⟩ ys.length cap (ys.map intV) (by simp) (World.ownsRow.cells h2 rfl) (intV_one ys) (by simp only [maxLen]; omega) (by omega) hB
    refine ⟨v', w', hr, ?_, g1, hat⟩
    unfold OwnI
    rw [List.length_append, List.map_append]
    exact o
section
variable {w : World} {o : Oper} {a : Act} {Q : Exit → Act → World → Prop}
theorem wp_rowsI {K : Act → World → Prop} (s y : Operand) (ho : o.op = .call { callee := .builtin .append, args := #[s, y], argTypes := #[26, 26] })
    (base b2 : Nat) (v x : Value) (xs ys : List Int) (hs : a.eval s = v) (hy : a.eval y = x) (h1 : OwnI w base v xs) (h2 : OwnI w b2 x ys) (hl : xs.length + ys.length ≤ 4000000) (hB : base ≤ w.heap.size)
    (h : ∀ v' w', OwnI w' base v' (xs ++ ys) → w.grownBy w' v.ownBlock → (v'.ownBlock = v.ownBlock ∨ v'.ownBlock = some w.heap.size) → K (a.put o.dst v') w') : o.wp Try.prog a w K Q := by
  obtain ⟨v', w', hrun, e2, e3, e4⟩ := run_rowsI w o.type base b2 v x xs ys h1 h2 hl hB
  unfold Oper.wp execOp
  simp only [ho, resolve, invoke, builtin, Sem.run_bind, Sem.run_pure, Result.andThen_ok, List.map_toArray, List.map_cons, List.map_nil, hs, hy, hrun]
  exact h v' w' e2 e3 e4
theorem wpList_rowsI {ops : Array Oper} {rest : List Oper} (hgd : o.guard = none) (s y : Operand) (ho : o.op = .call { callee := .builtin .append, args := #[s, y], argTypes := #[26, 26] })
    (base b2 : Nat) (v x : Value) (xs ys : List Int) (hs : a.eval s = v) (hy : a.eval y = x) (h1 : OwnI w base v xs) (h2 : OwnI w b2 x ys) (hl : xs.length + ys.length ≤ 4000000) (hB : base ≤ w.heap.size)
    (h : ∀ v' w', OwnI w' base v' (xs ++ ys) → w.grownBy w' v.ownBlock → (v'.ownBlock = v.ownBlock ∨ v'.ownBlock = some w.heap.size) → wpList Try.prog ops Q rest (a.put o.dst v') w') : wpList Try.prog ops Q (o :: rest) a w :=
  wpList_plain hgd fun _ hK => wp_rowsI s y ho base b2 v x xs ys hs hy h1 h2 hl hB fun v' w' e2 e3 e4 => hK _ _ (h v' w' e2 e3 e4)
theorem step_rowsI {ops : Array Oper} {K : Act → World → Prop} {E : Prop} (hgd : o.guard = none) (s y : Operand) (ho : o.op = .call { callee := .builtin .append, args := #[s, y], argTypes := #[26, 26] })
    (base b2 : Nat) (v x : Value) (xs ys : List Int) (hs : a.eval s = v) (hy : a.eval y = x) (h1 : OwnI w base v xs) (h2 : OwnI w b2 x ys) (hl : xs.length + ys.length ≤ 4000000) (hB : base ≤ w.heap.size)
    (h : ∀ v' w', OwnI w' base v' (xs ++ ys) → w.grownBy w' v.ownBlock → (v'.ownBlock = v.ownBlock ∨ v'.ownBlock = some w.heap.size) → K (a.put o.dst v') w') :
    if Region.wanted o (yielded ops a.tmps) = true then Oper.wp Try.prog o a w K Q else E := by
  have hw : Region.wanted o (yielded ops a.tmps) = true := by simp [Region.wanted, hgd]
  rw [if_pos hw]
  exact wp_rowsI s y ho base b2 v x xs ys hs hy h1 h2 hl hB h
end
end Go.Proofs.Ytbgogcobkiaejac

/- Rows of cells whose blocks are all older than a mark; one element more; a row in a struct that grows by append. Condition: what came was made behind the others. -/
namespace Go.Proofs.Ytbgogcobkiaejac
set_option linter.unusedVariables false
set_option linter.unusedSimpArgs false
open Go.RowKit

/-- Rows of cells all of whose blocks are older than B. -/
def Held (e : TypeId) (K : Nat) (w : World) (base B : Nat) (v : Value) (n : Nat) (ss : List Slot) : Prop :=
  ∃ vs, OwnVV e K w base v n vs ss ∧ (∀ k, v.ownBlock = some k → k < B) ∧ ∀ t (ht : t < vs.length) k, vs[t].ownBlock = some k → k < B
section
variable {e : TypeId} {K : Nat} {w w' : World} {base b B n : Nat} {v : Value} {vs : List Value} {ss : List Slot}
theorem held_of (h : OwnV e K w base v n ss) : Held e K w base w.heap.size v n ss := by
  obtain ⟨vs, h⟩ := h
  exact ⟨vs, h, fun k hk => (h.lt k hk).2, fun t ht k hk => (h.eachLt t ht k hk).2⟩
theorem Held.own (h : Held e K w base B v n ss) : OwnV e K w base v n ss := let ⟨vs, x, _⟩ := h; ⟨vs, x⟩
theorem Held.kept {row : Option Nat} (h : Held e K w base B v n ss) (hg : w.grownBy w' row) (hr : ∀ k, row = some k → k < base ∨ B ≤ k) : Held e K w' base B v n ss := by
  obtain ⟨vs, h, h1, h2⟩ := h
  refine ⟨vs, h.kept hg (sep_of fun k e1 e2 => ?_) (fun t ht => sep_of fun k e1 e2 => ?_), h1, h2⟩
  · have a := h1 k e1
    have b := (h.lt k e1).1
    have c := hr k e2
    omega
  · have a := h2 t ht k e1
    have b := (h.eachLt t ht k e1).1
    have c := hr k e2
    omega
theorem Held.below (h : Held e K w base B v n ss) (hb : Below w.heap.size w w') : Held e K w' base B v n ss := h.kept (grown_of_below hb none) (fun k hk => by cases hk)
/-- One element more: what its cells hold has been made since B. -/
theorem OwnVV.snoc {v' : Value} {us : List Value} {xs : List Slot} (h : OwnVV e K w base v n vs ss) (h1 : ∀ k, v.ownBlock = some k → k < B) (h2 : ∀ t (ht : t < vs.length) k, vs[t].ownBlock = some k → k < B) (hB : base ≤ B) (hl : us.length = xs.length)
    (hu : ∀ j (hj : j < us.length) (hj' : j < xs.length), SlotOk w B us[j] xs[j]) (ha : ∀ i j (hi : i < us.length) (hj : j < us.length), i ≠ j → us[i].ownBlock = none ∨ us[i].ownBlock ≠ us[j].ownBlock)
    (o : w'.ownsRow base e K v' (n + 1) (vs ++ us)) (hg : w.grownBy w' v.ownBlock) (hat : v'.ownBlock = v.ownBlock ∨ v'.ownBlock = some w.heap.size) : OwnVV e K w' base v' (n + 1) (vs ++ us) (ss ++ xs) := by
  have ul : ∀ j (hj : j < us.length) k, us[j].ownBlock = some k → B ≤ k ∧ k < w.heap.size := fun j hj => (hu j hj (by rw [← hl]; exact hj)).lt
  have uoff : ∀ j (hj : j < us.length), us[j].ownBlock = none ∨ us[j].ownBlock ≠ v.ownBlock := fun j hj => sep_of fun k e1 e2 => by have := (ul j hj k e1).1; have := h1 k e2; omega
  have hsz : ∀ t (ht : t < vs.length) k, vs[t].ownBlock = some k → k < w.heap.size := fun t ht k hk => (h.eachLt t ht k hk).2
  have at1 : ∀ i (hi : i < (vs ++ us).length), (∃ h : i < vs.length, (vs ++ us)[i] = vs[i]) ∨ ∃ j, ∃ h : j < us.length, i = vs.length + j ∧ (vs ++ us)[i] = us[j] := fun i hi => by
    by_cases c : i < vs.length
    · exact .inl ⟨c, List.getElem_append_left c⟩
    · rw [List.length_append] at hi
      exact .inr ⟨i - vs.length, by omega, by omega, List.getElem_append_right (by omega)⟩
  refine ⟨o, by rw [List.length_append, List.length_append, h.len, hl], fun i hi hi' => ?_, fun i hi => ?_, fun i j hi hj hij => ?_⟩
  · rcases at1 i hi with ⟨c, e1⟩ | ⟨j, hj, rfl, e1⟩
    · rw [e1, List.getElem_append_left (by rw [← h.len]; exact c)]
      exact (h.each i c (by rw [← h.len]; exact c)).kept hg (h.off i c)
    · have e2 : (ss ++ xs)[vs.length + j] = xs[j]'(by rw [← hl]; exact hj) := by
        rw [List.getElem_append_right (by rw [h.len]; omega)]
        congr 1
        rw [h.len]
        omega
      rw [e1, e2]
      exact ((hu j hj (by rw [← hl]; exact hj)).mono hB).kept hg (uoff j hj)
  · rcases at1 i hi with ⟨c, e1⟩ | ⟨j, hj, rfl, e1⟩ <;> rw [e1] <;> rcases hat with q | q <;> rw [q]
    · exact h.off i c
    · exact sep_of fun k e1 e2 => by have := hsz i c k e1; have := Option.some.inj e2; omega
    · exact uoff j hj
    · exact sep_of fun k e1 e2 => by have := (ul j hj k e1).2; have := Option.some.inj e2; omega
  · rcases at1 i hi with ⟨c, e1⟩ | ⟨i1, hi1, rfl, e1⟩ <;> rcases at1 j hj with ⟨d, e2⟩ | ⟨j1, hj1, rfl, e2⟩ <;> rw [e1, e2]
    · exact h.apart i j c d hij
    · exact sep_of fun k e1 e2 => by have := h2 i c k e1; have := (ul j1 hj1 k e2).1; omega
    · exact sep_of fun k e1 e2 => by have := h2 j d k e2; have := (ul i1 hi1 k e1).1; omega
    · exact ha i1 j1 hi1 hj1 (by omega)
/-- A row in a cell has grown, perhaps in a new place: the cell is written. -/
theorem OwnVV.swap {w1 w2 : World} {g c t : Nat} {u : Value} {zs : List Int} (h : OwnVV e K w base (.slice (some ⟨g, 0, none⟩) n c) n vs ss) (ht : t < vs.length) (hb : Below w.heap.size w w1) (hg : w1.grownBy w2 vs[t].ownBlock)
    (hu : OwnI w2 base u zs) (hat : u.ownBlock = vs[t].ownBlock ∨ u.ownBlock = some w1.heap.size) :
    OwnVV e K (w2.setCell ⟨g, t, none⟩ u) base (.slice (some ⟨g, 0, none⟩) n c) n (vs.set t u) (ss.set t (.row zs)) ∧ w2.grownBy (w2.setCell ⟨g, t, none⟩ u) (some g) ∧ w2.cell? ⟨g, t, none⟩ = some vs[t] ∧ w2.frozen? ⟨g, t, none⟩ = false := by
  have h1 := h.below hb
  have hgl := (h.lt g rfl).2
  have hbs := hb.size
  have r2 := World.ownsRow.kept h1.row hg (sep_flip (h1.off t ht))
  obtain ⟨s1, g1⟩ := World.ownsRow.stored r2 t u
  have new : ∀ k, k < w.heap.size → u.ownBlock = some w1.heap.size → u.ownBlock ≠ some k := fun k hk e1 e2 => by
    have := Option.some.inj (e1.symm.trans e2)
    omega
  have uoff : u.ownBlock = none ∨ u.ownBlock ≠ some g := by
    rcases hat with q | q
    · rw [q]; exact h.off t ht
    · exact .inr (new g hgl q)
  have ua : ∀ i (hi : i < vs.length), i ≠ t → u.ownBlock = none ∨ u.ownBlock ≠ vs[i].ownBlock := fun i hi hne => by
    rcases hat with q | q
    · rw [q]; exact h.apart t i ht hi (fun e => hne e.symm)
    · exact sep_of fun k e1 e2 => new k ((h.eachLt i hi k e2).2) q e1
  refine ⟨⟨s1, by simp [h.len], fun i hi hi' => ?_, fun i hi => ?_, fun i j hi hj hij => ?_⟩, g1, ?_, World.ownsRow.frozenAt r2 t⟩
  · simp only [List.length_set] at hi hi'
    by_cases q : t = i
    · subst q
      simp only [List.getElem_set_self]
      exact OwnI.kept hu g1 uoff
    · simp only [List.getElem_set_ne q]
      exact ((h1.each i hi hi').kept hg (h1.apart i t hi ht (Ne.symm q))).kept g1 (h.off i hi)
  · simp only [List.length_set] at hi
    by_cases q : t = i
    · subst q
      simp only [List.getElem_set_self]
      exact uoff
    · simp only [List.getElem_set_ne q]
      exact h.off i hi
  · simp only [List.length_set] at hi hj
    by_cases q : t = i
    · subst q
      simp only [List.getElem_set_self, List.getElem_set_ne hij]
      exact ua j hj (fun e => hij e.symm)
    · simp only [List.getElem_set_ne q]
      by_cases q2 : t = j
      · subst q2
        simp only [List.getElem_set_self]
        exact sep_flip (ua i hi (fun e => q e.symm))
      · simp only [List.getElem_set_ne q2]
        exact h.apart i j hi hj hij
  · have hl := r2.1
    rw [World.ownsRow.cellAt r2 t (by omega), List.getElem?_eq_getElem ht]
end
end Go.Proofs.Ytbgogcobkiaejac

/- One cue more behind an own row of cues; a row in a struct that grows by append. Condition: what came was made behind the others. -/
namespace Go.Proofs.Ytbgogcobkiaejac
set_option linter.unusedVariables false
set_option linter.unusedSimpArgs false
open Go.RowKit

/-- A new row that holds one cue. -/
theorem oneCueRow (w : World) (z : Int) (u1 u2 : Value) (b : Nat) (hb : b ≤ w.heap.size) : (w.alloc (.cells #[.int .i64 z, u1, u2] 33)).ownsRow b 33 3 (.slice (some ⟨w.heap.size, 0, none⟩) 1 1) 1 [.int .i64 z, u1, u2] :=
  ⟨rfl, .inr ⟨w.heap.size, 1, #[.int .i64 z, u1, u2], rfl, hb, heap_alloc_new w _, Nat.le_refl _, by simp only [maxLen]; omega, rfl, rfl⟩⟩
theorem run_oneCue {w : World} {base B b2 : Nat} {v x u1 u2 : Value} {ls : List RCue} {l : RCue} (ty : TypeId) (h : Held 33 3 w base B v ls.length (flatCue ls)) (hB : base ≤ B) (hw : base ≤ w.heap.size)
    (o1 : OwnI w B u1 l.f1) (o2 : OwnI w B u2 l.f2) (a12 : u1.ownBlock = none ∨ u1.ownBlock ≠ u2.ownBlock) (hx : w.ownsRow b2 33 3 x 1 [.int .i64 l.f0, u1, u2]) (hl : ls.length ≤ 1000000) :
    ∃ v' w', (Builtin.append_ #[24, 24] ty #[v, x]).run Try.prog w = .ok v' w' ∧ OwnCue w' base v' (ls ++ [l]) ∧ w.grownBy w' v.ownBlock ∧ (v'.ownBlock = v.ownBlock ∨ v'.ownBlock = some w.heap.size) := by
  obtain ⟨i, hi, hz, hs, hbd⟩ := info_parts infoCue
  obtain ⟨vs, h, h1, h2⟩ := h
  obtain ⟨A1, c1, rfl⟩ := o1.slice
  obtain ⟨A2, c2, rfl⟩ := o2.slice
  rcases id hx.2 with ⟨_, hn⟩ | ⟨g, cap, cur, rfl, _⟩
  · omega
  · obtain ⟨v', w', hr, o, g1, _, hat⟩ := run_append_own_at (P := Try.prog) w base 24 ty 33 i (.agg #[.int .i64 0, .slice none 0 0, .slice none 0 0]) 3 56 Try.underlying24 hi hz hs hbd rfl (by omega) v ls.length vs h.row
      ⟨g, 0, none⟩ 1 cap [.int .i64 l.f0, .slice A1 l.f1.length c1, .slice A2 l.f2.length c2] (by simp) (World.ownsRow.cells hx rfl) (by simp [Value.oneCell']) (by simp only [maxLen]; omega) (by omega) hw
    refine ⟨v', w', hr, ⟨vs ++ [.int .i64 l.f0, .slice A1 l.f1.length c1, .slice A2 l.f2.length c2], ?_⟩, g1, hat⟩
    rw [List.length_append, flatCue_append, show flatCue [l] = l.slots by simp [flatCue]]
    refine h.snoc h1 h2 hB rfl (fun j hj hj' => ?_) (fun i j hi hj hij => ?_) o g1 hat
    · rcases (by simp at hj; omega : j = 0 ∨ j = 1 ∨ j = 2) with rfl | rfl | rfl
      · exact rfl
      · exact o1
      · exact o2
    · rcases (by simp at hi; omega : i = 0 ∨ i = 1 ∨ i = 2) with rfl | rfl | rfl <;> rcases (by simp at hj; omega : j = 0 ∨ j = 1 ∨ j = 2) with rfl | rfl | rfl <;> first | (exact absurd rfl hij) | exact .inl rfl | exact sep_none_r rfl | exact a12 | exact sep_flip a12
theorem wpList_oneCue {w : World} {o : Oper} {a : Act} {Q : Exit → Act → World → Prop} {ops : Array Oper} {rest : List Oper} (hgd : o.guard = none) (s y : Operand) (ho : o.op = .call { callee := .builtin .append, args := #[s, y], argTypes := #[24, 24] })
    (base B b2 : Nat) (v x u1 u2 : Value) (ls : List RCue) (l : RCue) (hs : a.eval s = v) (hy : a.eval y = x) (h : Held 33 3 w base B v ls.length (flatCue ls)) (hB : base ≤ B) (hw : base ≤ w.heap.size)
    (o1 : OwnI w B u1 l.f1) (o2 : OwnI w B u2 l.f2) (a12 : u1.ownBlock = none ∨ u1.ownBlock ≠ u2.ownBlock) (hx : w.ownsRow b2 33 3 x 1 [.int .i64 l.f0, u1, u2]) (hl : ls.length ≤ 1000000)
    (hK : ∀ v' w', OwnCue w' base v' (ls ++ [l]) → w.grownBy w' v.ownBlock → (v'.ownBlock = v.ownBlock ∨ v'.ownBlock = some w.heap.size) → wpList Try.prog ops Q rest (a.put o.dst v') w') : wpList Try.prog ops Q (o :: rest) a w :=
  wpList_plain hgd fun K hK' => by
    obtain ⟨v', w', hrun, e2, e3, e4⟩ := run_oneCue (ty := o.type) h hB hw o1 o2 a12 hx hl
    unfold Oper.wp execOp
    simp only [ho, resolve, invoke, builtin, Sem.run_bind, Sem.run_pure, Result.andThen_ok, List.map_toArray, List.map_cons, List.map_nil, hs, hy, hrun]
    exact hK' _ _ (hK v' w' e2 e3 e4)
theorem emptyCue (w : World) (base g : Nat) (cs : Array Value) (hg : g = w.heap.size) (hb : base ≤ g) (hs : cs.size = 0) : OwnCue (w.alloc (.cells cs 33)) base (.slice (some ⟨g, 0, none⟩) 0 0) [] := by
  subst hg
  exact ⟨[], ⟨rfl, .inr ⟨w.heap.size, 0, cs, rfl, hb, heap_alloc_new w _, Nat.le_refl _, Nat.zero_le _, by omega, by simp⟩⟩, rfl, fun k hk => absurd hk (by simp), fun k hk => absurd hk (by simp), fun i j hi => absurd hi (by simp)⟩
/-- One struct in a box: a row of one. -/
theorem boxCue (w : World) (z : Int) (b : Nat) (hb : b ≤ w.heap.size) : OwnCue (w.alloc (.cells #[.int .i64 z, .slice none 0 0, .slice none 0 0] 33)) b (.slice (some ⟨w.heap.size, 0, none⟩) 1 1) [⟨z, [], []⟩] := by
  refine ownV_plain (vs := [.int .i64 z, .slice none 0 0, .slice none 0 0]) (oneCueRow w z _ _ b hb) rfl (fun t ht ht' => ?_) (fun t ht => ?_)
  · rcases (by simp at ht; omega : t = 0 ∨ t = 1 ∨ t = 2) with rfl | rfl | rfl <;> first | rfl | exact ⟨rfl, .inl ⟨rfl, rfl⟩⟩
  · rcases (by simp at ht; omega : t = 0 ∨ t = 1 ∨ t = 2) with rfl | rfl | rfl <;> rfl
end Go.Proofs.Ytbgogcobkiaejac

/- The drawing of numbers out of a law's bytes: the cursor, and the contracts of the functions that move it. No condition but that the bytes can be read. -/
namespace Go.Proofs.Ytbgogcobkiaejac
set_option linter.unusedVariables false
open Go.RowKit

theorem i64_and255 (n : Int) : bits .and .i64 n 255 = n % 256 := by
  have hm : (BitVec.ofInt 64 255).toNat = 2 ^ 8 - 1 := by decide
  have key : (BitVec.ofInt 64 n &&& BitVec.ofInt 64 255).toNat = (n % ((2 ^ 64 : Nat) : Int)).toNat % 2 ^ 8 := by
    rw [BitVec.toNat_and, BitVec.toNat_ofInt, hm, Nat.and_two_pow_sub_one_eq_mod]
  show IntKind.i64.wrap ((BitVec.ofInt 64 n &&& BitVec.ofInt 64 255).toNat : Nat) = n % 256
  rw [key, IntKind.wrap_i64]
  omega
theorem i64_and30 (n : Int) : bits .and .i64 n 1073741823 = n % 1073741824 := by
  have hm : (BitVec.ofInt 64 1073741823).toNat = 2 ^ 30 - 1 := by decide
  have key : (BitVec.ofInt 64 n &&& BitVec.ofInt 64 1073741823).toNat = (n % ((2 ^ 64 : Nat) : Int)).toNat % 2 ^ 30 := by
    rw [BitVec.toNat_and, BitVec.toNat_ofInt, hm, Nat.and_two_pow_sub_one_eq_mod]
  show IntKind.i64.wrap ((BitVec.ofInt 64 n &&& BitVec.ofInt 64 1073741823).toNat : Nat) = n % 1073741824
  rw [key, IntKind.wrap_i64]
  omega

/-- Block b is a cursor over the bytes 'code' (a slice value of n elements). -/
def CurAt (w : World) (b : Nat) (a : Option Addr) (n cap : Nat) : Prop :=
  ∃ i h : Int, 0 ≤ i ∧ i ≤ (n : Int) ∧ w.heap[b]? = some (.cells #[.slice a n cap, .int .i64 i, .int .i64 h] 66 (0, 0))

/-- A cursor of the call's own: below the blocks of w0 nothing has turned. -/
structure St (w0 : World) (a : Option Addr) (n cap : Nat) (w : World) (b : Nat) : Prop where
  below : Below w0.heap.size w0 w
  own : w0.heap.size ≤ b
  cur : CurAt w b a n cap

theorem CurAt.lt {w : World} {b : Nat} {a : Option Addr} {n cap : Nat} (h : CurAt w b a n cap) : b < w.heap.size := by
  obtain ⟨i, x, _, _, hb⟩ := h
  exact (Array.getElem?_eq_some_iff.1 hb).1

theorem grown_drewN {a w : World} {row : Option Nat} (h : a.grownBy w row) (n : Nat) : a.grownBy (w.drewN n) row := ⟨h.os, h.tape, h.output, h.size, h.block⟩
theorem grown_set {a w : World} {b o : Nat} {u : Value} (h : a.grownBy w (some b)) : a.grownBy (w.setCell ⟨b, o, none⟩ u) (some b) :=
  ⟨h.os, h.tape, h.output, by simpa [World.setCell] using h.size, fun k hk hne => (Below.heap_setCell _ _ _ _ (by rintro rfl; exact hne rfl)).trans (h.block k hk hne)⟩
theorem st_grown {w0 w w' : World} {b : Nat} (hb : Below w0.heap.size w0 w) (ho : w0.heap.size ≤ b) (hg : w.grownBy w' (some b)) : Below w0.heap.size w0 w' :=
  hb.grown hg hb.size (by intro k hk; injection hk with hk; omega)
theorem row_len {w : World} {a : Option Addr} {n cap : Nat} {z : List Int} (hr : IsRow .u8 w a n cap z) : n ≤ 9223372036854775807 := by
  rcases hr with ⟨_, rfl, _, _⟩ | ⟨x, rfl, hl, hm, _⟩
  · omega
  · simp only [maxLen] at hm; omega

/-- One element of the bytes. -/
theorem row_at {w : World} {a : Option Addr} {n cap : Nat} {z : List Int} (hr : IsRow .u8 w a n cap z) {j : Nat} (hj : j < n) :
    ∃ (xb xo : Nat) (v : Int), a = some ⟨xb, xo, none⟩ ∧ w.cell? ⟨xb, xo + j, none⟩ = some (.int .u8 v) ∧ 0 ≤ v ∧ v < 256 ∧ xb < w.heap.size := by
  rcases hr with ⟨_, rfl, _, _⟩ | ⟨x, rfl, hl, hm, hz, hcell, hwz⟩
  · omega
  · obtain ⟨xb, xo, spot⟩ := x
    have hc := hcell j (by omega)
    have hspot : spot = none := by simpa [Addr.add] using World.cell?_spot (hcell 0 (by omega))
    subst hspot
    have he : (⟨xb, xo, none⟩ : Addr).add j = ⟨xb, xo + j, none⟩ := by unfold Addr.add; split <;> simp_all
    rw [he] at hc
    have hv := hwz (z.getD j 0) (by rw [List.getD_eq_getElem?_getD, List.getElem?_eq_getElem (by omega)]; exact List.getElem_mem _)
    have hb : 0 ≤ z.getD j 0 ∧ z.getD j 0 ≤ 255 := by simpa [Lit.wf, IntKind.min, IntKind.max, IntKind.signed, IntKind.bits] using hv
    exact ⟨xb, xo, z.getD j 0, rfl, hc, hb.1, by omega, World.block_lt_of_cell? w _ hc⟩

theorem st_moved {w0 w w1 : World} {a : Option Addr} {n cap b : Nat} {j h h2 : Int} (hb : Below w0.heap.size w0 w) (ho : w0.heap.size ≤ b) (hg1 : w.grownBy w1 (some b))
    (hc1 : w1.heap[b]? = some (.cells (#[.slice a n cap, .int .i64 j, .int .i64 h].setIfInBounds 2 (.int .i64 h2)) 66 (0, 0))) (h0 : 0 ≤ j) (h1 : j + 1 ≤ (n : Int)) (N : Nat) :
    St w0 a n cap ((w1.drewN N).setCell ⟨b, 1, none⟩ (.int .i64 (j + 1))) b ∧ w.grownBy ((w1.drewN N).setCell ⟨b, 1, none⟩ (.int .i64 (j + 1))) (some b) :=
  have hg2 := grown_set (o := 1) (u := .int .i64 (j + 1)) (grown_drewN hg1 N)
  ⟨⟨st_grown hb ho hg2, ho, j + 1, h2, by omega, by omega, heap_setCell_same (w1.drewN N) b 1 _ _ (.int .i64 (j + 1)) hc1⟩, hg2⟩

/-- What a function that draws one number comes to: a number of which P holds, the cursor moved, nothing else turned. -/
def NumPost (w0 : World) (a : Option Addr) (n cap : Nat) (w : World) (b : Nat) (P : Int → Prop) (e : Ending) (w' : World) : Prop :=
  ∃ x : Int, e = .returned (.int .i64 x) ∧ P x ∧ St w0 a n cap w' b ∧ w.grownBy w' (some b)
theorem grown_trans {a b c : World} {row : Option Nat} (h : a.grownBy b row) (k : b.grownBy c row) : a.grownBy c row :=
  ⟨k.os.trans h.os, k.tape.trans h.tape, k.output.trans h.output, Nat.le_trans h.size k.size, fun i hi hne => (k.block i (Nat.lt_of_lt_of_le hi h.size) hne).trans (h.block i hi hne)⟩

set_option maxRecDepth 100000 in
theorem byte_any (w0 : World) (a : Option Addr) (n cap : Nat) (z : List Int) (hr : IsRow .u8 w0 a n cap z) (w : World) (b : Nat) (hs : St w0 a n cap w b) :
    Calls Try.prog 72 #[.pointer (some ⟨b, 0, none⟩)] w (NumPost w0 a n cap w b fun x => 0 ≤ x ∧ x < 256) := by
  obtain ⟨hb, ho, i, h, hi0, hi1, hc⟩ := hs
  obtain ⟨j, rfl⟩ := Int.eq_ofNat_of_zero_le hi0
  have c0 : w.cell? ⟨b, 0, none⟩ = some (.slice a n cap) := by rw [cell_of_row w b 0 _ _ _ hc]; rfl
  have c1 : w.cell? ⟨b, 1, none⟩ = some (.int .i64 (j : Int)) := by rw [cell_of_row w b 1 _ _ _ hc]; rfl
  have c2 : w.cell? ⟨b, 2, none⟩ = some (.int .i64 h) := by rw [cell_of_row w b 2 _ _ _ hc]; rfl
  have f1 : w.frozen? ⟨b, 1, none⟩ = false := frozen_of_row w b 1 _ _ hc
  have f2 : w.frozen? ⟨b, 2, none⟩ = false := frozen_of_row w b 2 _ _ hc
  go_enter Try.func72, Try.ntmps72
  go_wp2
  generalize wrap64 (wrap64 (h * 6364136223846793005) + 1442695040888963407) = h2
  have hc1 := heap_setCell_same w b 2 _ _ (.int .i64 h2) hc
  have hg1 : w.grownBy (w.setCell ⟨b, 2, none⟩ (.int .i64 h2)) (some b) := ⟨rfl, rfl, rfl, by simp [World.setCell], fun k _ hk => Below.heap_setCell _ _ _ _ (by rintro rfl; exact hk rfl)⟩
  generalize w.setCell ⟨b, 2, none⟩ (.int .i64 h2) = w1 at *
  clear c0 c1 c2 f1 f2
  have c0 : w1.cell? ⟨b, 0, none⟩ = some (.slice a n cap) := by rw [cell_of_row w1 b 0 _ _ _ hc1]; rfl
  have c1 : w1.cell? ⟨b, 1, none⟩ = some (.int .i64 (j : Int)) := by rw [cell_of_row w1 b 1 _ _ _ hc1]; rfl
  have c2 : w1.cell? ⟨b, 2, none⟩ = some (.int .i64 h2) := by rw [cell_of_row w1 b 2 _ _ _ hc1]; rfl
  have f1 : w1.frozen? ⟨b, 1, none⟩ = false := frozen_of_row w1 b 1 _ _ hc1
  have hand := i64_and255
  go_quiet (fail)
  have hx0 : 0 ≤ bits BinOp.xor IntKind.i64 (h2 / 8589934592) (h2 / 35184372088832) % 256 := by omega
  have hx1 : bits BinOp.xor IntKind.i64 (h2 / 8589934592) (h2 / 35184372088832) % 256 < 256 := by omega
  generalize bits BinOp.xor IntKind.i64 (h2 / 8589934592) (h2 / 35184372088832) = y at hx0 hx1 ⊢
  generalize y % 256 = x0 at hx0 hx1 ⊢
  go_wp2
  by_cases hlt : j < n
  · obtain ⟨xb, xo, v, rfl, hv, hv0, hv1, hxb⟩ := row_at hr hlt
    have hv' : w1.cell? ⟨xb, xo + j, none⟩ = some (.int .u8 v) := by
      rw [World.cell?_of_block (hg1.block xb (by have := hb.size; omega) (by simp; omega)), hb.cell hxb]
      exact hv
    have hltI : (j : Int) < (n : Int) := by omega
    have hj0 : (0 : Int) ≤ (j : Int) := by omega
    have hmx := row_len hr
    go_quiet (fail)
    go_wp2
    go_quiet (fail)
    go_wp2
    go_ret
    exact ⟨_, rfl, ⟨by omega, by omega⟩, st_moved hb ho hg1 hc1 (by omega) (by omega) _⟩
  · have hltI : decide ((j : Int) < (n : Int)) = false := by simp; omega
    go_quiet (fail)
    go_wp2
    go_ret
    exact ⟨_, rfl, ⟨by omega, by omega⟩, ⟨st_grown hb ho (grown_drewN (grown_drewN hg1 _) _), ho, (j : Int), h2, by omega, by omega, hc1⟩, grown_drewN (grown_drewN hg1 _) _⟩

theorem below_any (w0 : World) (a : Option Addr) (n cap : Nat) (z : List Int) (hr : IsRow .u8 w0 a n cap z) (w : World) (b : Nat) (hs : St w0 a n cap w b) (m : Int) :
    Calls Try.prog 56 #[.pointer (some ⟨b, 0, none⟩), .int .i64 m] w (NumPost w0 a n cap w b fun x => 0 ≤ x ∧ (0 < m → x < m) ∧ (m ≤ 0 → x ≤ 0)) := by
  have C := Lib.hid (byte_any w0 a n cap z hr)
  clear hr
  by_cases h0 : m ≤ 0
  · go_enter Try.func56, Try.ntmps56
    go_wp2
    go_ret
    exact ⟨_, rfl, ⟨by omega, by omega, by omega⟩, hs, World.grownBy.refl w _⟩
  · by_cases h1 : m ≤ 256
    · go_enter Try.func56, Try.ntmps56
      go_wp2_with fail
      refine (C.out _ _ hs).mono ?_
      rintro e w1 ⟨x, rfl, ⟨hx0, hx1⟩, hs1, hg1⟩
      go_wp2
      go_ret
      exact ⟨_, rfl, ⟨Int.emod_nonneg _ (by omega), fun _ => Int.emod_lt_of_pos _ (by omega), by omega⟩, hs1, hg1⟩
    · go_enter Try.func56, Try.ntmps56
      go_wp2_with fail
      refine (C.out _ _ hs).mono ?_
      rintro e w1 ⟨x, rfl, ⟨hx0, hx1⟩, hs1, hg1⟩
      go_wp2_with fail
      refine (C.out _ _ hs1).mono ?_
      rintro e w2 ⟨y, rfl, ⟨hy0, hy1⟩, hs2, hg2⟩
      go_wp2_with fail
      refine (C.out _ _ hs2).mono ?_
      rintro e w3 ⟨v, rfl, ⟨hv0, hv1⟩, hs3, hg3⟩
      go_wp2_with fail
      refine (C.out _ _ hs3).mono ?_
      rintro e w4 ⟨u, rfl, ⟨hu0, hu1⟩, hs4, hg4⟩
      go_wp2
      go_ret
      exact ⟨_, rfl, ⟨Int.emod_nonneg _ (by omega), fun _ => Int.emod_lt_of_pos _ (by omega), by omega⟩, hs4, grown_trans hg1 (grown_trans hg2 (grown_trans hg3 hg4))⟩
end Go.Proofs.Ytbgogcobkiaejac

/- The contract of spec.l01Once. Condition: the bytes can be read. -/
namespace Go.Proofs.Ytbgogcobkiaejac
set_option linter.unusedVariables false
set_option linter.unusedSimpArgs false
open Go.RowKit

/-- What a function that draws one truth comes to. -/
def BoolPost (w0 : World) (a : Option Addr) (n cap : Nat) (w : World) (b : Nat) (e : Ending) (w' : World) : Prop :=
  ∃ x : Bool, e = .returned (.bool x) ∧ St w0 a n cap w' b ∧ w.grownBy w' (some b)
theorem once_any (w0 : World) (a : Option Addr) (n cap : Nat) (z : List Int) (hr : IsRow .u8 w0 a n cap z) (w : World) (b : Nat) (hs : St w0 a n cap w b) (m : Int) :
    Calls Try.prog 57 #[.pointer (some ⟨b, 0, none⟩), .int .i64 m] w (BoolPost w0 a n cap w b) := by
  have C := Lib.hid (below_any w0 a n cap z hr)
  clear hr
  go_enter Try.func57, Try.ntmps57
  go_wp2_with fail
  refine (C.out _ _ hs _).mono ?_
  rintro e w1 ⟨x, rfl, _, hs1, hg1⟩
  go_wp2
  go_ret
  exact ⟨_, rfl, hs1, hg1⟩
end Go.Proofs.Ytbgogcobkiaejac

/- The cursor's making. Condition: at most 1048576 bytes. -/
namespace Go.Proofs.Ytbgogcobkiaejac
set_option linter.unusedVariables false
open Go.RowKit

theorem big_yes (a : Option Addr) (n cap : Nat) (w : World) (h : 1048576 < n) (hm : n ≤ 9223372036854775807) :
    Calls Try.prog 10 #[.slice a n cap] w fun e w' => e = .returned (.bool true) ∧ w = w' := by
  go_enter Try.func10, Try.ntmps10
  go_wp2
  go_ret
  exact ⟨congrArg (fun x => Ending.returned (.bool x)) (decide_eq_true (by omega)), rfl⟩
theorem big_no (a : Option Addr) (n cap : Nat) (w : World) (h : n ≤ 1048576) :
    Calls Try.prog 10 #[.slice a n cap] w fun e w' => e = .returned (.bool false) ∧ w = w' := by
  go_enter Try.func10, Try.ntmps10
  go_wp2
  go_ret
  exact ⟨congrArg (fun x => Ending.returned (.bool x)) (decide_eq_false (by omega)), rfl⟩

def NewPost (w0 : World) (a : Option Addr) (n cap : Nat) (e : Ending) (w' : World) : Prop :=
  ∃ b : Nat, e = .returned (.pointer (some ⟨b, 0, none⟩)) ∧ St w0 a n cap w' b

set_option maxRecDepth 100000 in
theorem new_any (w0 : World) (a : Option Addr) (n cap : Nat) (z : List Int) (hr : IsRow .u8 w0 a n cap z) (hn : n ≤ 1048576) :
    Calls Try.prog 37 #[.slice a n cap] w0 (NewPost w0 a n cap) := by
  have R := Lib.hid (fun j (hj : j < n) => row_at hr hj)
  have hand := i64_and30
  clear hr
  go_enter Try.func37, Try.ntmps37
  go_wp2
  go_loop [3, 4] (fun h i => ∃ (k : Nat) (x : Int), k ≤ n ∧ k ≤ 4000 ∧ 0 ≤ x ∧ x < 1073741824 ∧ i = .int .i64 k ∧ h = .int .i64 x) (fun _ i => n - (intOf i).toNat)
  case atStart => exact ⟨0, 33061 + n, by omega, by omega, by omega, by omega, rfl, rfl⟩
  case round =>
    obtain ⟨k, x, hk, hk4, hx0, hx1, rfl, rfl⟩ := hrel
    by_cases hlt : k < n ∧ k < 4000
    · obtain ⟨hlt1, hlt2⟩ := hlt
      obtain ⟨xb, xo, v, rfl, hv, hv0, hv1, _⟩ := R.out k hlt1
      go_wp2
      go_round
      case rel => exact ⟨k + 1, _, by omega, by omega, Int.emod_nonneg _ (by omega), Int.emod_lt_of_pos _ (by omega), by go_num, rfl⟩
      case measure => simp [intOf]; omega
    · by_cases hl : k < n
      · have hl4 : ¬ k < 4000 := by omega
        clear hlt
        go_wp2
        go_ret
        exact ⟨w0.heap.size, rfl, (Below.refl _ _).alloc (Nat.le_refl _) _, Nat.le_refl _, 0, x, by omega, by omega, heap_alloc_new w0 _⟩
      · clear hlt
        go_wp2
        go_ret
        exact ⟨w0.heap.size, rfl, (Below.refl _ _).alloc (Nat.le_refl _) _, Nat.le_refl _, 0, x, by omega, by omega, heap_alloc_new w0 _⟩

theorem St.alloc {w0 w : World} {a : Option Addr} {n cap b : Nat} (h : St w0 a n cap w b) (o : Obj) : St w0 a n cap (w.alloc o) b := by
  obtain ⟨i, x, h0, h1, hc⟩ := h.cur
  exact ⟨h.below.alloc h.below.size o, h.own, i, x, h0, h1, (Below.heap_alloc w o b h.cur.lt).trans hc⟩
end Go.Proofs.Ytbgogcobkiaejac

/- What the cursor keeps while other blocks are written. No condition. -/
namespace Go.Proofs.Ytbgogcobkiaejac
set_option linter.unusedVariables false
open Go.RowKit

section
variable {w0 w W : World} {a : Option Addr} {n cap b g : Nat} {u u' : Value}
theorem St.below' (h : St w0 a n cap w b) (hb : Below w.heap.size w W) : St w0 a n cap W b := by
  obtain ⟨i, x, h0, h1, hc⟩ := h.cur
  exact ⟨h.below.trans (hb.mono h.below.size), h.own, i, x, h0, h1, (hb.block b h.cur.lt).trans hc⟩
theorem St.set (h : St w0 a n cap w b) (hg : w0.heap.size ≤ g) (hne : b ≠ g) (o : Nat) : St w0 a n cap (w.setCell ⟨g, o, none⟩ u) b := by
  obtain ⟨i, x, h0, h1, hc⟩ := h.cur
  exact ⟨h.below.setCell hg _, h.own, i, x, h0, h1, (Below.heap_setCell _ _ _ _ hne).trans hc⟩
theorem isRow_alloc {k : IntKind} {z : List Int} (h : IsRow k w a n cap z) (o : Obj) : IsRow k (w.alloc o) a n cap z := by
  rcases h with h | ⟨x, e, h1, h2, h3, h4, h5⟩
  · exact .inl h
  · exact .inr ⟨x, e, h1, h2, h3, fun i hi => by rw [World.cell?_alloc_lt _ _ _ (World.block_lt_of_cell? w _ (h4 i hi))]; exact h4 i hi, h5⟩
theorem grown_late {row : Option Nat} (h : w.grownBy W row) (hg : w.heap.size ≤ g) (o : Nat) : w.grownBy (W.setCell ⟨g, o, none⟩ u) row :=
  ⟨h.os, h.tape, h.output, by simpa [World.setCell] using h.size, fun k hk hne => (Below.heap_setCell _ _ _ _ (by show k ≠ g; omega)).trans (h.block k hk hne)⟩
end

theorem undrewG {W W' : World} {row : Option Nat} (h : W.drew.grownBy W' row) : W.grownBy W' row := ⟨h.os, h.tape, h.output, h.size, h.block⟩
theorem St.grownR {w0 w w' : World} {a : Option Addr} {n cap b : Nat} {row : Option Nat} (h : St w0 a n cap w b) (hg : w.grownBy w' row) (hne : row ≠ some b) (hr : ∀ k, row = some k → w0.heap.size ≤ k) : St w0 a n cap w' b := by
  obtain ⟨i, x, h0, h1, hc⟩ := h.cur
  exact ⟨h.below.grown hg h.below.size hr, h.own, i, x, h0, h1, (hg.block b h.cur.lt (Ne.symm hne)).trans hc⟩
end Go.Proofs.Ytbgogcobkiaejac

/- The cursor, and what grew, past a write behind all that stood at a birth. No condition. -/
namespace Go.Proofs.Ytbgogcobkiaejac
set_option linter.unusedVariables false
set_option linter.unusedSimpArgs false
open Go.RowKit

section
variable {w0 : World} {a : Option Addr} {n cap : Nat} {w : World} {b : Nat} {W W' : World}
/-- A write past all that stood at the birth. -/
theorem st_other (hs : St w0 a n cap W b) (hle : w0.heap.size ≤ w.heap.size) (hcu : b < w.heap.size) (hb : Below w.heap.size W W') : St w0 a n cap W' b := by
  obtain ⟨i, x, h0, h1, hc⟩ := hs.cur
  exact ⟨hs.below.trans (hb.mono hle), hs.own, i, x, h0, h1, (hb.block b hcu).trans hc⟩
theorem gr_other (hg : w.grownBy W (some b)) (hb : Below w.heap.size W W') : w.grownBy W' (some b) :=
  ⟨hb.os.trans hg.os, hb.tape.trans hg.tape, hb.output.trans hg.output, Nat.le_trans hg.size hb.size, fun k hk hne => (hb.block k hk).trans (hg.block k hk hne)⟩
end
end Go.Proofs.Ytbgogcobkiaejac

/- Rising numbers below a bound, as a row that is drawn holds them. No condition. -/
namespace Go.Proofs.Ytbgogcobkiaejac
set_option linter.unusedVariables false
set_option linter.unusedSimpArgs false
open Go.RowKit

/-- Rising numbers below m. -/
def Asc (m : Int) (zs : List Int) : Prop := (∀ z ∈ zs, 0 ≤ z ∧ z < m) ∧ zs.Pairwise (· < ·)
theorem asc_nil (m : Int) : Asc m [] := ⟨by simp, List.Pairwise.nil⟩
theorem asc_more {m : Int} {zs : List Int} (h : Asc m zs) : Asc (m + 1) zs := ⟨fun z hz => by have := h.1 z hz; omega, h.2⟩
theorem asc_snoc {m : Int} {zs : List Int} (h : Asc m zs) (hm : 0 ≤ m) : Asc (m + 1) (zs ++ [m]) := by
  refine ⟨fun z hz => ?_, List.pairwise_append.2 ⟨h.2, List.pairwise_singleton _ _, fun a ha b hb => ?_⟩⟩
  · rcases List.mem_append.1 hz with q | q
    · have := h.1 z q; omega
    · rw [List.mem_singleton.1 q]; omega
  · rw [List.mem_singleton.1 hb]; exact (h.1 a ha).2
theorem asc_len {m : Nat} {zs : List Int} (h : Asc (m : Int) zs) : zs.length ≤ m := by
  induction m generalizing zs with
  | zero =>
    cases zs with
    | nil => exact Nat.le_refl _
    | cons z zs => have := h.1 z (by simp); omega
  | succ m ih =>
    rcases List.eq_nil_or_concat zs with rfl | ⟨pre, z, rfl⟩
    · simp
    · rw [List.concat_eq_append] at h ⊢
      have hz := h.1 z (by simp)
      have p := List.pairwise_append.1 h.2
      have := ih (zs := pre) ⟨fun y hy => by have := h.1 y (by simp [hy]); have := p.2.2 y hy z (by simp); omega, p.1⟩
      simp
      omega
theorem asc_get {m : Int} {zs : List Int} (h : Asc m zs) {j : Nat} (hj : j < zs.length) : 0 ≤ zs.getD j 0 ∧ zs.getD j 0 < m := by
  rw [List.getD_eq_getElem?_getD, List.getElem?_eq_getElem hj]
  exact h.1 _ (List.getElem_mem hj)
theorem asc_rising {m : Int} {zs : List Int} (h : Asc m zs) {most : Int} (hm : m ≤ most + 1) : rising zs most = true := by
  unfold rising
  rw [rise_iff]
  intro k hk
  have hg := asc_get h hk
  unfold riseAt
  have e : inB (zs.getD k 0) 0 most = true := by
    generalize zs.getD k 0 = x at hg ⊢
    simp [inB]; omega
  rw [e, Bool.true_and]
  by_cases c : k = 0
  · simp [c]
  · have lt : zs.getD (k - 1) 0 < zs.getD k 0 := by
      have q : k - 1 < zs.length := by omega
      rw [List.getD_eq_getElem?_getD, List.getElem?_eq_getElem q, List.getD_eq_getElem?_getD, List.getElem?_eq_getElem hk]
      exact List.pairwise_iff_getElem.1 h.2 (k - 1) k q hk (by omega)
    rw [decide_eq_true lt, Bool.or_true]
end Go.Proofs.Ytbgogcobkiaejac
