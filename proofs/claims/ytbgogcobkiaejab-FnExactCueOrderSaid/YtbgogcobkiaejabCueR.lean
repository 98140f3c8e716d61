/- Cue: a row that came in (made by gen_own.py). No condition. -/
import Derived.Test.YtbgogcobkiaejabCueM
import Derived.Test.YtbgogcobkiaejabArgO
import Derived.Test.YtbgogcobkiaejabSzI
import Derived.Test.YtbgogcobkiaejabGrow
import Derived.Deep.RegionHeld3
namespace Go.Proofs.Ytbgogcobkiaejab
set_option linter.unusedVariables false
set_option linter.unusedSimpArgs false
set_option maxRecDepth 100000
open Go.RowKit Go.ChangeShapes Go.WideShapes Go.ChangeAt Go.Deep Go.Joins

/-- Element l lies at x and behind. -/
def LiesCue (w : World) (x : Addr) (l : RCue) : Prop := w.cell? (x.add 0) = some (.int .i64 l.f0) ∧ (∃ A n c z, w.cell? (x.add 1) = some (.slice A n c) ∧ IsRow .i64 w A n c z ∧ l.f1 = z.take n) ∧ (∃ A n c z, w.cell? (x.add 2) = some (.slice A n c) ∧ IsRow .i64 w A n c z ∧ l.f2 = z.take n)
def ArgCue (w : World) (a : Option Addr) (ls : List RCue) : Prop := (a = none ∧ ls = []) ∨ ∃ x, a = some x ∧ ∀ k (h : k < ls.length), LiesCue w (x.add (k * 3)) ls[k]
theorem LiesCue.below {w w' : World} {x : Addr} {l : RCue} (h : LiesCue w x l) (hb : Below w.heap.size w w') : LiesCue w' x l := by
  obtain ⟨x0, ⟨A1, n1, c1, z1, x1, r1, e1⟩, ⟨A2, n2, c2, z2, x2, r2, e2⟩⟩ := h
  exact ⟨cell_below x0 hb, ⟨A1, n1, c1, z1, cell_below x1 hb, irow_below r1 hb, e1⟩, ⟨A2, n2, c2, z2, cell_below x2 hb, irow_below r2 hb, e2⟩⟩
theorem ArgCue.below {w w' : World} {a : Option Addr} {ls : List RCue} (h : ArgCue w a ls) (hb : Below w.heap.size w w') : ArgCue w' a ls := by
  rcases h with h | ⟨x, e, h⟩
  · exact .inl h
  · exact .inr ⟨x, e, fun k hk => (h k hk).below hb⟩
theorem ArgCue.alloc {w : World} {a : Option Addr} {ls : List RCue} (h : ArgCue w a ls) (o : Obj) : ArgCue (w.alloc o) a ls := h.below ((Below.refl _ _).alloc (Nat.le_refl _) _)
/-- The cells of an element as a load of it reads them. -/
theorem LiesCue.cells {w : World} {x : Addr} {l : RCue} (h : LiesCue w x l) : ∃ A1 c1 z1 A2 c2 z2, (w.cell? x = some (.int .i64 l.f0) ∧ w.cell? { block := x.block, off := x.off + 1 } = some (.slice A1 l.f1.length c1) ∧ w.cell? { block := x.block, off := x.off + 2 } = some (.slice A2 l.f2.length c2)) ∧ (IsRow .i64 w A1 l.f1.length c1 z1 ∧ l.f1 = z1.take l.f1.length) ∧ (IsRow .i64 w A2 l.f2.length c2 z2 ∧ l.f2 = z2.take l.f2.length) := by
  obtain ⟨x0, ⟨A1, n1, c1, z1, x1, r1, e1⟩, ⟨A2, n2, c2, z2, x2, r2, e2⟩⟩ := h
  have hl1 : n1 = l.f1.length := by rw [e1, irow_len r1]
  subst hl1
  have hl2 : n2 = l.f2.length := by rw [e2, irow_len r2]
  subst hl2
  rw [add_zero] at x0
  rw [add_pos x 1 (by omega)] at x1
  rw [add_pos x 2 (by omega)] at x2
  exact ⟨A1, c1, z1, A2, c2, z2, ⟨x0, x1, x2⟩, ⟨r1, e1⟩, ⟨r2, e2⟩⟩
section
variable {H : Type} {enc : TypeId × Value → H} {W : World}
theorem openCueS {d : DataW H} {p : List MemPlace} {a : Option Addr} {n cap : Nat} (h : DataW.Trod enc Try.prog W 0 (fun _ => true) true 35 (.slice a n cap) d p) :
    ∃ ls : List RCue, n = ls.length ∧ ArgCue W a ls ∧ ls.length ≤ maxLen := by
  obtain ⟨fuel, h⟩ := h
  have hC : (Try.prog).cellsOf 56 = 3 := by kernel_rfl
  rcases open_slice Try.underlying35 h with ⟨hcs, _⟩ | ⟨x, len, c, m, q, D, Pl, hcs, _, hl, hm, hmm, _, hi⟩
  · simp [Value.cells] at hcs
    obtain ⟨rfl, rfl, rfl⟩ := hcs
    exact ⟨[], rfl, .inl ⟨rfl, rfl⟩, by simp⟩
  · simp [Value.cells] at hcs
    obtain ⟨rfl, rfl, rfl⟩ := hcs
    have hlm : n ≤ m := by rw [hmm]; split <;> omega
    rw [hC] at hi
    have cell : ∀ i, i < n → ∃ l : RCue, LiesCue W (x.add (i * 3)) l := by
      intro i hi'
      obtain ⟨cs', hc, ht⟩ := hi i (by omega)
      obtain ⟨_, hcl, hat⟩ := World.cells?_some hc
      obtain ⟨xs, n', _, _, _, hxl, hf⟩ := DataW.trod_struct Try.underlying56 ht
      have h_int : (Try.prog).cellsOf 3 = 1 := by kernel_rfl
      have h_ints : (Try.prog).cellsOf 26 = 1 := by kernel_rfl
      match cs', hcl with
      | [c0, c1, c2], _ =>
        have g0 : DataW.trod enc Try.prog W 0 (fun _ => true) true n' 3 (List.take ((Try.prog).cellsOf 3) [c0, c1, c2]) = xs[0]? := hf 0 _ rfl
        have g1 : DataW.trod enc Try.prog W 0 (fun _ => true) true n' 26 (List.take ((Try.prog).cellsOf 26) [c1, c2]) = xs[1]? := hf 1 _ rfl
        have g2 : DataW.trod enc Try.prog W 0 (fun _ => true) true n' 26 (List.take ((Try.prog).cellsOf 26) [c2]) = xs[2]? := hf 2 _ rfl
        rw [List.getElem?_eq_getElem (by rw [hxl]; decide)] at g0 g1 g2
        rw [h_int] at g0
        rw [h_ints] at g1
        rw [h_ints] at g2
        obtain ⟨n0, e0, _⟩ := DataW.trod_int Try.underlying3 g0
        have e0 : c0 = .int .i64 n0 := by simpa using e0
        obtain ⟨a1, m1, p1, z1, e1, r1⟩ := irow_in g1
        obtain ⟨a2, m2, p2, z2, e2, r2⟩ := irow_in g2
        exact ⟨⟨n0, z1.take m1, z2.take m2⟩, by rw [hat 0 (by omega), e0]; rfl, ⟨_, _, _, z1, by rw [hat 1 (by omega), e1]; rfl, r1, rfl⟩, ⟨_, _, _, z2, by rw [hat 2 (by omega), e2]; rfl, r2, rfl⟩⟩
    obtain ⟨ls, hls, hx⟩ := list_of (fun i (l : RCue) => LiesCue W (x.add (i * 3)) l) n cell
    subst hls
    exact ⟨ls, rfl, .inr ⟨x, rfl, fun k hk => hx k hk⟩, by omega⟩
end
end Go.Proofs.Ytbgogcobkiaejab
