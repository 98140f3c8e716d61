/- A row of players that is drawn beside the cursor, and a player in its box. Condition: the bytes can be read. -/
import Derived.Test.YtanlfkkmnnjpeaaPlayerA
import Derived.Test.YtanlfkkmnnjpeaaOnce
import Derived.Test.YtanlfkkmnnjpeaaStO
import Derived.Test.YtanlfkkmnnjpeaaPk3
import Derived.Test.YtanlfkkmnnjpeaaAscM
import Derived.Deep.RegionHeld3
import Derived.BigQuiet
namespace Go.Proofs.Ytanlfkkmnnjpeaa
set_option linter.unusedVariables false
set_option linter.unusedSimpArgs false
open Go.RowKit

def GoodPlayer (l : RPlayer) : Prop := (0 ≤ l.f1 ∧ l.f1 ≤ 2) ∧ Asc 6 l.f0
theorem good_one {ls : List RPlayer} {l : RPlayer} (h : ∀ l ∈ ls, GoodPlayer l) (hl : GoodPlayer l) : ∀ x ∈ ls ++ [l], GoodPlayer x := fun x hx => by
  rcases List.mem_append.1 hx with q | q
  · exact h x q
  · rw [List.mem_singleton.1 q]; exact hl
/-- What the drawing keeps: the row drawn so far, the cursor. -/
structure PlsK (w0 : World) (a : Option Addr) (n cap : Nat) (w : World) (b : Nat) (v : Value) (ls : List RPlayer) (W : World) : Prop where
  out : OwnPlayer W w.heap.size v ls
  st : St w0 a n cap W b
  gr : w.grownBy W (some b)
  le : w0.heap.size ≤ w.heap.size
  cu : b < w.heap.size
/-- The same while a player is made, behind B. -/
structure PlrK (w0 : World) (a : Option Addr) (n cap : Nat) (w : World) (b : Nat) (v : Value) (ls : List RPlayer) (B : Nat) (W : World) : Prop where
  out : Held 71 2 W w.heap.size B v ls.length (flatPlayer ls)
  st : St w0 a n cap W b
  gr : w.grownBy W (some b)
  le : w0.heap.size ≤ w.heap.size
  cu : b < w.heap.size
  bs : w.heap.size ≤ B
  sz : B ≤ W.heap.size
section
variable {w0 : World} {a : Option Addr} {n cap : Nat} {w : World} {b B g : Nat} {v v' : Value} {ls ls' : List RPlayer} {l l' : RPlayer} {W W' W2 : World} {row : Option Nat}
theorem PlsK.draw (K : PlsK w0 a n cap w b v ls W) (hs : St w0 a n cap W' b) (hg : W.grownBy W' (some b)) : PlsK w0 a n cap w b v ls W' :=
  ⟨K.out.older hg (fun k hk => by have := Option.some.inj hk; have := K.cu; omega), hs, World.grownBy.trans K.gr hg, K.le, K.cu⟩
theorem PlsK.alloc (K : PlsK w0 a n cap w b v ls W) (o : Obj) : PlsK w0 a n cap w b v ls (W.alloc o) :=
  ⟨K.out.alloc o, K.st.alloc o, gr_other K.gr ((Below.refl _ _).alloc K.gr.size _), K.le, K.cu⟩
theorem PlsK.born (K : PlsK w0 a n cap w b v ls W) (z : Int) : PlrK w0 a n cap w b v ls W.heap.size (W.alloc (.cells #[.slice none 0 0, .int .i64 z] 71)) := by
  have hb : Below w.heap.size W (W.alloc (.cells #[.slice none 0 0, .int .i64 z] 71)) := (Below.refl _ _).alloc K.gr.size _
  exact ⟨(held_of K.out).below ((Below.refl _ _).alloc (Nat.le_refl _) _), st_other K.st K.le K.cu hb, gr_other K.gr hb, K.le, K.cu, K.gr.size, by simp⟩
theorem PlrK.draw (K : PlrK w0 a n cap w b v ls B W) (hs : St w0 a n cap W' b) (hg : W.grownBy W' (some b)) : PlrK w0 a n cap w b v ls B W' :=
  ⟨K.out.kept hg (fun k hk => by have := Option.some.inj hk; have := K.cu; omega), hs, World.grownBy.trans K.gr hg, K.le, K.cu, K.bs, Nat.le_trans K.sz hg.size⟩
/-- A write past B. -/
theorem PlrK.step (K : PlrK w0 a n cap w b v ls B W) (hg : W.grownBy W' row) (hr : ∀ k, row = some k → B ≤ k) : PlrK w0 a n cap w b v ls B W' := by
  have hbs := K.bs
  have hb : Below w.heap.size W W' := (Below.refl _ _).grown hg K.gr.size (fun k hk => by have := hr k hk; omega)
  exact ⟨K.out.kept hg (fun k hk => .inr (hr k hk)), st_other K.st K.le K.cu hb, gr_other K.gr hb, K.le, K.cu, K.bs, Nat.le_trans K.sz hg.size⟩
theorem PlrK.alloc (K : PlrK w0 a n cap w b v ls B W) (o : Obj) : PlrK w0 a n cap w b v ls B (W.alloc o) :=
  K.step (row := none) (grown_of_below ((Below.refl W.heap.size W).alloc (Nat.le_refl _) o) none) (fun k hk => by cases hk)
/-- The player is appended. -/
theorem PlrK.done (K : PlrK w0 a n cap w b v ls B W) (ho : OwnPlayer W' w.heap.size v' ls') (hg : W.grownBy W' v.ownBlock) : PlsK w0 a n cap w b v' ls' W' := by
  obtain ⟨vs, h, _, _⟩ := K.out
  have hb : Below w.heap.size W W' := (Below.refl _ _).grown hg K.gr.size (fun k hk => (h.lt k hk).1)
  exact ⟨ho, st_other K.st K.le K.cu hb, gr_other K.gr hb, K.le, K.cu⟩
/-- The row of the player in the box has grown. -/
theorem swapPl {W1 : World} {l : RPlayer} {u : Value} {zs : List Int} {A1 : Option Addr} {c1 : Nat} (h : OwnPlayer W B (.slice (some ⟨g, 0, none⟩) 1 1) [l]) (hx : W.cell? ⟨g, 0, none⟩ = some (.slice A1 l.f0.length c1)) (hb : Below W.heap.size W W1)
    (hg : W1.grownBy W2 (.slice A1 l.f0.length c1 : Value).ownBlock) (hu : OwnI W2 B u zs) (hat : u.ownBlock = (.slice A1 l.f0.length c1 : Value).ownBlock ∨ u.ownBlock = some W1.heap.size) :
    OwnPlayer (W2.setCell ⟨g, 0, none⟩ u) B (.slice (some ⟨g, 0, none⟩) 1 1) [{ l with f0 := zs }] ∧ W2.grownBy (W2.setCell ⟨g, 0, none⟩ u) (some g) ∧ W2.cell? ⟨g, 0, none⟩ = some (.slice A1 l.f0.length c1) ∧ W2.frozen? ⟨g, 0, none⟩ = false := by
  obtain ⟨vs, h⟩ := h
  have hv : 0 < vs.length := by rw [h.len, flatPlayer_len]; simp
  obtain ⟨_, _, e1, _, x1, _⟩ := h.cell hv
  simp only [Value.slice.injEq, Option.some.injEq, Addr.mk.injEq, and_true, true_and] at e1
  obtain ⟨rfl, -⟩ := e1
  have e2 := Option.some.inj (x1.symm.trans hx)
  obtain ⟨s1, s2, s3, s4⟩ := h.swap hv hb (by rw [e2]; exact hg) hu (by rw [e2]; exact hat)
  exact ⟨⟨_, s1⟩, s2, by rw [s3, e2], s4⟩
/-- The player in the box: its cells, its row. -/
theorem boxedPl (h : OwnPlayer W B (.slice (some ⟨g, 0, none⟩) 1 1) [l]) : ∃ A1 c1, (W.cell? ⟨g, 0, none⟩ = some (.slice A1 l.f0.length c1) ∧ W.cell? ⟨g, 1, none⟩ = some (.int .i64 l.f1)) ∧ OwnI W B (.slice A1 l.f0.length c1) l.f0 ∧ B ≤ g ∧ g < W.heap.size := by
  obtain ⟨vs, h⟩ := h
  have hl : vs.length = 2 := by rw [h.len, flatPlayer_len]; simp
  obtain ⟨_, _, e0, l0, x0, _⟩ := h.cell (t := 0) (by omega)
  obtain ⟨_, _, e1, _, x1, _⟩ := h.cell (t := 1) (by omega)
  simp only [Value.slice.injEq, Option.some.injEq, Addr.mk.injEq, and_true, true_and] at e0 e1
  obtain ⟨rfl, -⟩ := e0
  obtain ⟨rfl, -⟩ := e1
  have s0 := h.each 0 (by omega) (by rw [flatPlayer_len]; simp)
  have s1 := h.each 1 (by omega) (by rw [flatPlayer_len]; simp)
  have q0 : OwnI W B vs[0] l.f0 := s0
  have q1 : vs[1] = .int .i64 l.f1 := s1
  obtain ⟨A1, c1, y1⟩ := q0.slice
  rw [y1] at x0 q0
  rw [q1] at x1
  exact ⟨A1, c1, ⟨x0, x1⟩, q0, l0⟩
end
def PlsPost (w0 : World) (a : Option Addr) (n cap : Nat) (w : World) (b : Nat) (e : Ending) (w' : World) : Prop :=
  ∃ (v : Value) (ls : List RPlayer), e = .returned v ∧ (1 ≤ ls.length ∧ ls.length ≤ 5) ∧ (∀ l ∈ ls, GoodPlayer l) ∧ PlsK w0 a n cap w b v ls w'
end Go.Proofs.Ytanlfkkmnnjpeaa
