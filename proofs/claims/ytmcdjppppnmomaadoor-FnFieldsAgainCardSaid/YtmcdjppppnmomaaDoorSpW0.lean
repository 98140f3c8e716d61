/- What the contracts of both SplitFields functions share. -/
import Derived.Test.YtmcdjppppnmomaaDoorSpM
namespace Go.Proofs.YtmcdjppppnmomaaDoor
open Go.RowKit

/-- What a function that splits a line comes to: a row of its own holds the fields. -/
def SplitPost (w : World) (r : List (List UInt8) × Bool) (e : Ending) (w' : World) : Prop :=
  ∃ v : Value, e = .returned (.tuple #[v, .bool r.2]) ∧ OwnS w' w.heap.size v r.1 ∧ Below w.heap.size w w'

theorem ownS_nil (w : World) (base : Nat) (h : base ≤ w.heap.size) : OwnS (w.alloc (.cells #[] 9)) base (.slice (some ⟨w.heap.size, 0, none⟩) 0 0) [] :=
  World.ownsRow_lit w #[] 0 h (by decide) rfl

theorem slice_own {w : World} {base : Nat} {v : Value} {fs : List (List UInt8)} (h : OwnS w base v fs) : ∃ A cap, v = .slice A fs.length cap := by
  rcases h.2 with ⟨rfl, hn⟩ | ⟨g, cap, cur, rfl, _⟩
  · exact ⟨none, 0, by rw [hn]⟩
  · exact ⟨_, cap, rfl⟩
/-- A text of a row of texts, at its cell. -/
theorem ownS_at {w : World} {base : Nat} {v : Value} {fs : List (List UInt8)} (h : OwnS w base v fs) {k : Nat} (hk : k < fs.length) :
    ∃ g cap, v = .slice (some ⟨g, 0, none⟩) fs.length cap ∧ base ≤ g ∧ w.cell? ⟨g, k, none⟩ = some (strV fs[k]) ∧ w.frozen? ⟨g, k, none⟩ = false := by
  rcases h.2 with ⟨rfl, hn⟩ | ⟨g, cap, cur, rfl, hbg, _⟩
  · omega
  · refine ⟨g, cap, rfl, hbg, ?_, World.ownsRow.frozenAt h k⟩
    rw [World.ownsRow.cellAt h k (by omega)]
    simp [hk]
theorem ownS_drewN {w : World} {base : Nat} {v : Value} {fs : List (List UInt8)} (h : OwnS w base v fs) (n : Nat) : OwnS (w.drewN n) base v fs := h
theorem grown_of_below {w w' : World} (h : Below w.heap.size w w') (row : Option Nat) : w.grownBy w' row := ⟨h.os, h.tape, h.output, h.size, fun k hk _ => h.block k hk⟩
theorem splitR_len (s : List UInt8) : (splitR s).1.length ≤ 24 := by
  unfold splitR
  split
  · rename_i h; exact h.2.2
  · simp
theorem OwnS.kept {w w' : World} {base : Nat} {v : Value} {fs : List (List UInt8)} {row : Option Nat} (h : OwnS w base v fs) (hg : w.grownBy w' row) (hne : v.ownBlock = none ∨ v.ownBlock ≠ row) : OwnS w' base v fs :=
  World.ownsRow.kept h hg hne
theorem OwnS.below {w w' : World} {base : Nat} {v : Value} {fs : List (List UInt8)} (h : OwnS w base v fs) (hb : Below w.heap.size w w') : OwnS w' base v fs :=
  h.kept (grown_of_below hb none) (by cases v.ownBlock <;> simp)
theorem OwnS.ne {w : World} {base base' : Nat} {v v' : Value} {fs fs' : List (List UInt8)} (h : OwnS w base v fs) {w' : World} (h' : OwnS w' base' v' fs') (hb : w.heap.size ≤ base') : v.ownBlock = none ∨ v.ownBlock ≠ v'.ownBlock := by
  cases hv : v.ownBlock with
  | none => exact .inl rfl
  | some q =>
    refine .inr fun e => ?_
    have h1 := (h.lt q hv).2
    have h2 := (h'.lt q e.symm).1
    omega
end Go.Proofs.YtmcdjppppnmomaaDoor
