/- Rows of cells whose blocks are all older than a mark; one element more; a row in a struct that grows by append. Condition: what came was made behind the others. -/
import Derived.Test.YtanlfkkmnnjpeaaPk1
import Derived.Test.YtanlfkkmnnjpeaaPk3
namespace Go.Proofs.Ytanlfkkmnnjpeaa
set_option linter.unusedVariables false
set_option linter.unusedSimpArgs false
open Go.RowKit

/-- Rows of cells all of whose blocks are older than B. -/
def Held (e : TypeId) (K : Nat) (w : World) (base B : Nat) (v : Value) (n : Nat) (ss : List Slot) : Prop :=
  ∃ vs, OwnVV e K w base v n vs ss ∧ (∀ k, v.ownBlock = some k → k < B) ∧ ∀ t (ht : t < vs.length) k, vs[t].ownBlock = some k → k < B
section
variable {e : TypeId} {K : Nat} {w w' : World} {base b B n : Nat} {v : Value} {vs : List Value} {ss : List Slot}
theorem held_of (h : OwnV e K w base v n ss) : Held e K w base w.heap.size v n ss := by
  obtain ⟨vs, h⟩ := h
  exact ⟨vs, h, fun k hk => (h.lt k hk).2, fun t ht k hk => (h.eachLt t ht k hk).2⟩
theorem Held.own (h : Held e K w base B v n ss) : OwnV e K w base v n ss := let ⟨vs, x, _⟩ := h; ⟨vs, x⟩
theorem Held.kept {row : Option Nat} (h : Held e K w base B v n ss) (hg : w.grownBy w' row) (hr : ∀ k, row = some k → k < base ∨ B ≤ k) : Held e K w' base B v n ss := by
  obtain ⟨vs, h, h1, h2⟩ := h
  refine ⟨vs, h.kept hg (sep_of fun k e1 e2 => ?_) (fun t ht => sep_of fun k e1 e2 => ?_), h1, h2⟩
  · have a := h1 k e1
    have b := (h.lt k e1).1
    have c := hr k e2
    omega
  · have a := h2 t ht k e1
    have b := (h.eachLt t ht k e1).1
    have c := hr k e2
    omega
theorem Held.below (h : Held e K w base B v n ss) (hb : Below w.heap.size w w') : Held e K w' base B v n ss := h.kept (grown_of_below hb none) (fun k hk => by cases hk)
/-- One element more: what its cells hold has been made since B. -/
theorem OwnVV.snoc {v' : Value} {us : List Value} {xs : List Slot} (h : OwnVV e K w base v n vs ss) (h1 : ∀ k, v.ownBlock = some k → k < B) (h2 : ∀ t (ht : t < vs.length) k, vs[t].ownBlock = some k → k < B) (hB : base ≤ B) (hl : us.length = xs.length)
    (hu : ∀ j (hj : j < us.length) (hj' : j < xs.length), SlotOk w B us[j] xs[j]) (ha : ∀ i j (hi : i < us.length) (hj : j < us.length), i ≠ j → us[i].ownBlock = none ∨ us[i].ownBlock ≠ us[j].ownBlock)
    (o : w'.ownsRow base e K v' (n + 1) (vs ++ us)) (hg : w.grownBy w' v.ownBlock) (hat : v'.ownBlock = v.ownBlock ∨ v'.ownBlock = some w.heap.size) : OwnVV e K w' base v' (n + 1) (vs ++ us) (ss ++ xs) := by
  have ul : ∀ j (hj : j < us.length) k, us[j].ownBlock = some k → B ≤ k ∧ k < w.heap.size := fun j hj => (hu j hj (by rw [← hl]; exact hj)).lt
  have uoff : ∀ j (hj : j < us.length), us[j].ownBlock = none ∨ us[j].ownBlock ≠ v.ownBlock := fun j hj => sep_of fun k e1 e2 => by have := (ul j hj k e1).1; have := h1 k e2; omega
  have hsz : ∀ t (ht : t < vs.length) k, vs[t].ownBlock = some k → k < w.heap.size := fun t ht k hk => (h.eachLt t ht k hk).2
  have at1 : ∀ i (hi : i < (vs ++ us).length), (∃ h : i < vs.length, (vs ++ us)[i] = vs[i]) ∨ ∃ j, ∃ h : j < us.length, i = vs.length + j ∧ (vs ++ us)[i] = us[j] := fun i hi => by
    by_cases c : i < vs.length
    · exact .inl ⟨c, List.getElem_append_left c⟩
    · rw [List.length_append] at hi
      exact .inr ⟨i - vs.length, by omega, by omega, List.getElem_append_right (by omega)⟩
  refine ⟨o, by rw [List.length_append, List.length_append, h.len, hl], fun i hi hi' => ?_, fun i hi => ?_, fun i j hi hj hij => ?_⟩
  · rcases at1 i hi with ⟨c, e1⟩ | ⟨j, hj, rfl, e1⟩
    · rw [e1, List.getElem_append_left (by rw [← h.len]; exact c)]
      exact (h.each i c (by rw [← h.len]; exact c)).kept hg (h.off i c)
    · have e2 : (ss ++ xs)[vs.length + j] = xs[j]'(by rw [← hl]; exact hj) := by
        rw [List.getElem_append_right (by rw [h.len]; omega)]
        congr 1
        rw [h.len]
        omega
      rw [e1, e2]
      exact ((hu j hj (by rw [← hl]; exact hj)).mono hB).kept hg (uoff j hj)
  · rcases at1 i hi with ⟨c, e1⟩ | ⟨j, hj, rfl, e1⟩ <;> rw [e1] <;> rcases hat with q | q <;> rw [q]
    · exact h.off i c
    · exact sep_of fun k e1 e2 => by have := hsz i c k e1; have := Option.some.inj e2; omega
    · exact uoff j hj
    · exact sep_of fun k e1 e2 => by have := (ul j hj k e1).2; have := Option.some.inj e2; omega
  · rcases at1 i hi with ⟨c, e1⟩ | ⟨i1, hi1, rfl, e1⟩ <;> rcases at1 j hj with ⟨d, e2⟩ | ⟨j1, hj1, rfl, e2⟩ <;> rw [e1, e2]
    · exact h.apart i j c d hij
    · exact sep_of fun k e1 e2 => by have := h2 i c k e1; have := (ul j1 hj1 k e2).1; omega
    · exact sep_of fun k e1 e2 => by have := h2 j d k e2; have := (ul i1 hi1 k e1).1; omega
    · exact ha i1 j1 hi1 hj1 (by omega)
/-- A row in a cell has grown, perhaps in a new place: the cell is written. -/
theorem OwnVV.swap {w1 w2 : World} {g c t : Nat} {u : Value} {zs : List Int} (h : OwnVV e K w base (.slice (some ⟨g, 0, none⟩) n c) n vs ss) (ht : t < vs.length) (hb : Below w.heap.size w w1) (hg : w1.grownBy w2 vs[t].ownBlock)
    (hu : OwnI w2 base u zs) (hat : u.ownBlock = vs[t].ownBlock ∨ u.ownBlock = some w1.heap.size) :
    OwnVV e K (w2.setCell ⟨g, t, none⟩ u) base (.slice (some ⟨g, 0, none⟩) n c) n (vs.set t u) (ss.set t (.row zs)) ∧ w2.grownBy (w2.setCell ⟨g, t, none⟩ u) (some g) ∧ w2.cell? ⟨g, t, none⟩ = some vs[t] ∧ w2.frozen? ⟨g, t, none⟩ = false := by
  have h1 := h.below hb
  have hgl := (h.lt g rfl).2
  have hbs := hb.size
  have r2 := World.ownsRow.kept h1.row hg (sep_flip (h1.off t ht))
  obtain ⟨s1, g1⟩ := World.ownsRow.stored r2 t u
  have new : ∀ k, k < w.heap.size → u.ownBlock = some w1.heap.size → u.ownBlock ≠ some k := fun k hk e1 e2 => by
    have := Option.some.inj (e1.symm.trans e2)
    omega
  have uoff : u.ownBlock = none ∨ u.ownBlock ≠ some g := by
    rcases hat with q | q
    · rw [q]; exact h.off t ht
    · exact .inr (new g hgl q)
  have ua : ∀ i (hi : i < vs.length), i ≠ t → u.ownBlock = none ∨ u.ownBlock ≠ vs[i].ownBlock := fun i hi hne => by
    rcases hat with q | q
    · rw [q]; exact h.apart t i ht hi (fun e => hne e.symm)
    · exact sep_of fun k e1 e2 => new k ((h.eachLt i hi k e2).2) q e1
  refine ⟨⟨s1, by simp [h.len], fun i hi hi' => ?_, fun i hi => ?_, fun i j hi hj hij => ?_⟩, g1, ?_, World.ownsRow.frozenAt r2 t⟩
  · simp only [List.length_set] at hi hi'
    by_cases q : t = i
    · subst q
      simp only [List.getElem_set_self]
      exact OwnI.kept hu g1 uoff
    · simp only [List.getElem_set_ne q]
      exact ((h1.each i hi hi').kept hg (h1.apart i t hi ht (Ne.symm q))).kept g1 (h.off i hi)
  · simp only [List.length_set] at hi
    by_cases q : t = i
    · subst q
      simp only [List.getElem_set_self]
      exact uoff
    · simp only [List.getElem_set_ne q]
      exact h.off i hi
  · simp only [List.length_set] at hi hj
    by_cases q : t = i
    · subst q
      simp only [List.getElem_set_self, List.getElem_set_ne hij]
      exact ua j hj (fun e => hij e.symm)
    · simp only [List.getElem_set_ne q]
      by_cases q2 : t = j
      · subst q2
        simp only [List.getElem_set_self]
        exact sep_flip (ua i hi (fun e => q e.symm))
      · simp only [List.getElem_set_ne q2]
        exact h.apart i j hi hj hij
  · have hl := r2.1
    rw [World.ownsRow.cellAt r2 t (by omega), List.getElem?_eq_getElem ht]
end
end Go.Proofs.Ytanlfkkmnnjpeaa
