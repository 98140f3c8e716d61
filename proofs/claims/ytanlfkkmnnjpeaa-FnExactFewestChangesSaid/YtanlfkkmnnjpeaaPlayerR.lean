/- Player: a row that came in (made by gen_own.py). No condition. -/
import Derived.Test.YtanlfkkmnnjpeaaPk1
import Derived.Test.YtanlfkkmnnjpeaaArgO
import Derived.Test.YtanlfkkmnnjpeaaSzI
import Derived.Test.YtanlfkkmnnjpeaaPk7
import Derived.Deep.RegionHeld3
namespace Go.Proofs.Ytanlfkkmnnjpeaa
set_option linter.unusedVariables false
set_option linter.unusedSimpArgs false
set_option maxRecDepth 100000
open Go.RowKit Go.ChangeShapes Go.WideShapes Go.ChangeAt Go.Deep Go.Joins

/-- Element l lies at x and behind. -/
def LiesPlayer (w : World) (x : Addr) (l : RPlayer) : Prop := (∃ A n c z, w.cell? (x.add 0) = some (.slice A n c) ∧ IsRow .i64 w A n c z ∧ l.f0 = z.take n) ∧ w.cell? (x.add 1) = some (.int .i64 l.f1)
def ArgPlayer (w : World) (a : Option Addr) (ls : List RPlayer) : Prop := (a = none ∧ ls = []) ∨ ∃ x, a = some x ∧ ∀ k (h : k < ls.length), LiesPlayer w (x.add (k * 2)) ls[k]
theorem LiesPlayer.below {w w' : World} {x : Addr} {l : RPlayer} (h : LiesPlayer w x l) (hb : Below w.heap.size w w') : LiesPlayer w' x l := by
  obtain ⟨⟨A0, n0, c0, z0, x0, r0, e0⟩, x1⟩ := h
  exact ⟨⟨A0, n0, c0, z0, cell_below x0 hb, irow_below r0 hb, e0⟩, cell_below x1 hb⟩
theorem ArgPlayer.below {w w' : World} {a : Option Addr} {ls : List RPlayer} (h : ArgPlayer w a ls) (hb : Below w.heap.size w w') : ArgPlayer w' a ls := by
  rcases h with h | ⟨x, e, h⟩
  · exact .inl h
  · exact .inr ⟨x, e, fun k hk => (h k hk).below hb⟩
theorem ArgPlayer.alloc {w : World} {a : Option Addr} {ls : List RPlayer} (h : ArgPlayer w a ls) (o : Obj) : ArgPlayer (w.alloc o) a ls := h.below ((Below.refl _ _).alloc (Nat.le_refl _) _)
/-- The cells of an element as a load of it reads them. -/
theorem LiesPlayer.cells {w : World} {x : Addr} {l : RPlayer} (h : LiesPlayer w x l) : ∃ A0 c0 z0, (w.cell? x = some (.slice A0 l.f0.length c0) ∧ w.cell? { block := x.block, off := x.off + 1 } = some (.int .i64 l.f1)) ∧ (IsRow .i64 w A0 l.f0.length c0 z0 ∧ l.f0 = z0.take l.f0.length) := by
  obtain ⟨⟨A0, n0, c0, z0, x0, r0, e0⟩, x1⟩ := h
  have hl0 : n0 = l.f0.length := by rw [e0, irow_len r0]
  subst hl0
  rw [add_zero] at x0
  rw [add_pos x 1 (by omega)] at x1
  exact ⟨A0, c0, z0, ⟨x0, x1⟩, ⟨r0, e0⟩⟩
section
variable {H : Type} {enc : TypeId × Value → H} {W : World}
theorem openPlayerS {d : DataW H} {p : List MemPlace} {a : Option Addr} {n cap : Nat} (h : DataW.Trod enc Try.prog W 0 (fun _ => true) true 40 (.slice a n cap) d p) :
    ∃ ls : List RPlayer, n = ls.length ∧ ArgPlayer W a ls ∧ ls.length ≤ maxLen := by
  obtain ⟨fuel, h⟩ := h
  have hC : (Try.prog).cellsOf 75 = 2 := by kernel_rfl
  rcases open_slice Try.underlying40 h with ⟨hcs, _⟩ | ⟨x, len, c, m, q, D, Pl, hcs, _, hl, hm, hmm, _, hi⟩
  · simp [Value.cells] at hcs
    obtain ⟨rfl, rfl, rfl⟩ := hcs
    exact ⟨[], rfl, .inl ⟨rfl, rfl⟩, by simp⟩
  · simp [Value.cells] at hcs
    obtain ⟨rfl, rfl, rfl⟩ := hcs
    have hlm : n ≤ m := by rw [hmm]; split <;> omega
    rw [hC] at hi
    have cell : ∀ i, i < n → ∃ l : RPlayer, LiesPlayer W (x.add (i * 2)) l := by
      intro i hi'
      obtain ⟨cs', hc, ht⟩ := hi i (by omega)
      obtain ⟨_, hcl, hat⟩ := World.cells?_some hc
      obtain ⟨xs, n', _, _, _, hxl, hf⟩ := DataW.trod_struct Try.underlying75 ht
      have h_int : (Try.prog).cellsOf 3 = 1 := by kernel_rfl
      have h_ints : (Try.prog).cellsOf 33 = 1 := by kernel_rfl
      match cs', hcl with
      | [c0, c1], _ =>
        have g0 : DataW.trod enc Try.prog W 0 (fun _ => true) true n' 33 (List.take ((Try.prog).cellsOf 33) [c0, c1]) = xs[0]? := hf 0 _ rfl
        have g1 : DataW.trod enc Try.prog W 0 (fun _ => true) true n' 3 (List.take ((Try.prog).cellsOf 3) [c1]) = xs[1]? := hf 1 _ rfl
        rw [List.getElem?_eq_getElem (by rw [hxl]; decide)] at g0 g1
        rw [h_ints] at g0
        rw [h_int] at g1
        obtain ⟨a0, m0, p0, z0, e0, r0⟩ := irow_in g0
        obtain ⟨n1, e1, _⟩ := DataW.trod_int Try.underlying3 g1
        have e1 : c1 = .int .i64 n1 := by simpa using e1
        exact ⟨⟨z0.take m0, n1⟩, ⟨_, _, _, z0, by rw [hat 0 (by omega), e0]; rfl, r0, rfl⟩, by rw [hat 1 (by omega), e1]; rfl⟩
    obtain ⟨ls, hls, hx⟩ := list_of (fun i (l : RPlayer) => LiesPlayer W (x.add (i * 2)) l) n cell
    subst hls
    exact ⟨ls, rfl, .inr ⟨x, rfl, fun k hk => hx k hk⟩, by omega⟩
end
end Go.Proofs.Ytanlfkkmnnjpeaa
