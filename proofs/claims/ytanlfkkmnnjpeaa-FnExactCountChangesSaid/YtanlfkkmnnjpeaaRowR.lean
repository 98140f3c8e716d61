/- Rows of rows of numbers of the call's own (each row in a block of its own, no two of them in one). No condition. -/
import Derived.Test.YtanlfkkmnnjpeaaRowB
namespace Go.Proofs.Ytanlfkkmnnjpeaa
set_option linter.unusedVariables false
set_option linter.unusedSimpArgs false
open Go.RowKit

theorem info_ints : (Try.prog.info? 33).map (fun i => (i.zero, i.size, i.bytes)) = some (some (.slice none 0 0), 1, 24) := by kernel_rfl
/-- A row of rows of the call's own; vs: the rows' values. -/
structure OwnRR (w : World) (base : Nat) (v : Value) (vs : List Value) (zss : List (List Int)) : Prop where
  row : w.ownsRow base 33 1 v zss.length vs
  len : vs.length = zss.length
  each : ∀ k (h : k < vs.length) (h' : k < zss.length), OwnI w base vs[k] zss[k]
  off : ∀ k (h : k < vs.length), vs[k].ownBlock = none ∨ vs[k].ownBlock ≠ v.ownBlock
  apart : ∀ i j (hi : i < vs.length) (hj : j < vs.length), i ≠ j → vs[i].ownBlock = none ∨ vs[i].ownBlock ≠ vs[j].ownBlock
def OwnR (w : World) (base : Nat) (v : Value) (zss : List (List Int)) : Prop := ∃ vs, OwnRR w base v vs zss
section
variable {w w' : World} {base b : Nat} {v : Value} {vs : List Value} {zss : List (List Int)}
theorem OwnRR.below (h : OwnRR w base v vs zss) (hb : Below w.heap.size w w') : OwnRR w' base v vs zss :=
  ⟨World.ownsRow.kept h.row (grown_of_below hb none) (by cases v.ownBlock <;> simp), h.len, fun k hk hk' => (h.each k hk hk').below hb, h.off, h.apart⟩
theorem OwnR.below (h : OwnR w base v zss) (hb : Below w.heap.size w w') : OwnR w' base v zss := let ⟨vs, x⟩ := h; ⟨vs, x.below hb⟩
theorem OwnR.alloc (h : OwnR w base v zss) (o : Obj) : OwnR (w.alloc o) base v zss := h.below ((Below.refl _ _).alloc (Nat.le_refl _) _)
theorem OwnRR.slice (h : OwnRR w base v vs zss) : ∃ A c, v = .slice A zss.length c := by
  rcases h.row.2 with ⟨rfl, hn⟩ | ⟨g, cap, _, rfl, _⟩
  · exact ⟨none, 0, by rw [hn]⟩
  · exact ⟨_, _, rfl⟩
theorem OwnR.slice (h : OwnR w base v zss) : ∃ A c, v = .slice A zss.length c := let ⟨_, x⟩ := h; x.slice
theorem OwnRR.lt (h : OwnRR w base v vs zss) : ∀ k, v.ownBlock = some k → base ≤ k ∧ k < w.heap.size := World.ownsRow.lt h.row
theorem OwnR.lt (h : OwnR w base v zss) : ∀ k, v.ownBlock = some k → base ≤ k ∧ k < w.heap.size := let ⟨_, x⟩ := h; x.lt
/-- Row k: its cell, its value, its numbers. -/
theorem OwnR.spot (h : OwnR w base v zss) {k : Nat} (hk : k < zss.length) :
    ∃ g c A c', v = .slice (some ⟨g, 0, none⟩) zss.length c ∧ w.cell? ⟨g, k, none⟩ = some (.slice A zss[k].length c') ∧ w.frozen? ⟨g, k, none⟩ = false ∧ OwnI w base (.slice A zss[k].length c') zss[k] := by
  obtain ⟨vs, x⟩ := h
  have hv : k < vs.length := by rw [x.len]; exact hk
  have O := x.each k hv hk
  obtain ⟨A, c', e⟩ := O.slice
  rcases x.row.2 with ⟨_, hn⟩ | ⟨g, cap, cur, rfl, hb, hg, _⟩
  · omega
  · refine ⟨g, cap, A, c', rfl, ?_, World.ownsRow.frozenAt x.row k, e ▸ O⟩
    rw [World.ownsRow.cellAt x.row k (by omega)]
    simp only [Nat.mul_one] at *
    rw [List.getElem?_eq_getElem hv, e]
/-- A row that has been made since is laid in at place k. -/
theorem OwnRR.set {w0 : World} {g c k : Nat} {u : Value} {zs : List Int} (h : OwnRR w0 base (.slice (some ⟨g, 0, none⟩) zss.length c) vs zss) (hb : Below w0.heap.size w0 w) (hu : OwnI w w0.heap.size u zs) (hbs : base ≤ w0.heap.size) (hk : k < zss.length) :
    OwnRR (w.setCell ⟨g, k, none⟩ u) base (.slice (some ⟨g, 0, none⟩) zss.length c) (vs.set k u) (zss.set k zs) ∧ w.grownBy (w.setCell ⟨g, k, none⟩ u) (some g) := by
  have h1 := h.below hb
  obtain ⟨s1, g1⟩ := World.ownsRow.stored h1.row k u
  have hg : g < w0.heap.size := (h.lt g rfl).2
  have hgw : some g = (Value.slice (some ⟨g, 0, none⟩) zss.length c).ownBlock := rfl
  have lt0 : ∀ i (hi : i < vs.length) b, vs[i].ownBlock = some b → b < w0.heap.size := fun i hi b e => ((h.each i hi (by rw [← h.len]; exact hi)).lt b e).2
  refine ⟨⟨by simpa using s1, by simp [h.len], fun i hi hi' => ?_, fun i hi => ?_, fun i j hi hj hij => ?_⟩, g1⟩
  · simp only [List.length_set] at hi hi'
    by_cases e : k = i
    · subst e
      simp only [List.getElem_set_self]
      exact (hu.mono hbs).kept g1 (sep_of fun b e1 e2 => by have := (hu.lt b e1).1; have := Option.some.inj e2; omega)
    · simp only [List.getElem_set_ne e]
      exact (h1.each i hi hi').kept g1 (h1.off i hi)
  · simp only [List.length_set] at hi
    by_cases e : k = i
    · subst e
      simp only [List.getElem_set_self]
      exact sep_of fun b e1 e2 => by have := (hu.lt b e1).1; have := Option.some.inj (hgw.trans e2); omega
    · simp only [List.getElem_set_ne e]
      exact h1.off i hi
  · simp only [List.length_set] at hi hj
    by_cases e : k = i
    · subst e
      simp only [List.getElem_set_self, List.getElem_set_ne hij]
      exact sep_of fun b e1 e2 => by have := (hu.lt b e1).1; have := lt0 j hj b e2; omega
    · simp only [List.getElem_set_ne e]
      by_cases e2 : k = j
      · subst e2
        simp only [List.getElem_set_self]
        exact sep_of fun b e1 e3 => by have := (hu.lt b e3).1; have := lt0 i hi b e1; omega
      · simp only [List.getElem_set_ne e2]
        exact h1.apart i j hi hj hij
theorem OwnR.set {w0 : World} {g c k : Nat} {u : Value} {zs : List Int} (h : OwnR w0 base (.slice (some ⟨g, 0, none⟩) zss.length c) zss) (hb : Below w0.heap.size w0 w) (hu : OwnI w w0.heap.size u zs) (hbs : base ≤ w0.heap.size) (hk : k < zss.length) :
    OwnR (w.setCell ⟨g, k, none⟩ u) base (.slice (some ⟨g, 0, none⟩) zss.length c) (zss.set k zs) ∧ w.grownBy (w.setCell ⟨g, k, none⟩ u) (some g) :=
  let ⟨vs, x⟩ := h; ⟨⟨vs.set k u, (x.set hb hu hbs hk).1⟩, (x.set hb hu hbs hk).2⟩
/-- n rows made, all nil. -/
theorem ownR_made {n : Nat} {g : Nat} (h : w.ownsRow base 33 1 (.slice (some ⟨g, 0, none⟩) n n) n (List.replicate n (.slice none 0 0))) : OwnR w base (.slice (some ⟨g, 0, none⟩) n n) (List.replicate n []) := by
  refine ⟨List.replicate n (.slice none 0 0), by simpa using h, by simp, fun k hk hk' => ?_, fun k hk => ?_, fun i j hi hj _ => ?_⟩
  · simp only [List.getElem_replicate]
    exact ⟨rfl, .inl ⟨rfl, rfl⟩⟩
  · simp only [List.getElem_replicate]
    exact .inl rfl
  · simp only [List.getElem_replicate]
    exact .inl rfl
end
def RowsPost (w : World) (zss : List (List Int)) (e : Ending) (w' : World) : Prop := ∃ v, e = .returned v ∧ OwnR w' w.heap.size v zss ∧ Below w.heap.size w w'
end Go.Proofs.Ytanlfkkmnnjpeaa
