/- A net of joints in memory: each joint's block, the rows of its limbs and of the joints beside it, all apart; and what an append to one row, or a mark, leaves. No condition. -/
import Derived.Test.YtblbmppbbhibeaaReachM
import Derived.Test.YtblbmppbbhibeaaOkW
import Derived.Test.YtblbmppbbhibeaaBox
import Derived.Maps.AppendAt
namespace Go.Proofs.Ytblbmppbbhibeaa
set_option linter.unusedVariables false
set_option linter.unusedSimpArgs false
open Go.RowKit

def ptrV (b : Nat) : Value := .pointer (some ⟨b, 0, none⟩)
/-- A slice value that owns pointers to the blocks bs. -/
def OwnP (w : World) (base : Nat) (v : Value) (bs : List Nat) : Prop := w.ownsRow base 76 1 v bs.length (bs.map ptrV)
theorem info_ptr : (Try.prog.info? 76).map (fun i => (i.zero, i.size, i.bytes)) = some (some (.pointer none), 1, 8) := by kernel_rfl
section
variable {w w' : World} {base b : Nat} {v : Value} {bs : List Nat}
theorem OwnP.kept {row : Option Nat} (h : OwnP w base v bs) (hg : w.grownBy w' row) (hne : v.ownBlock = none ∨ v.ownBlock ≠ row) : OwnP w' base v bs := World.ownsRow.kept h hg hne
theorem OwnP.alloc (h : OwnP w base v bs) (o : Obj) : OwnP (w.alloc o) base v bs := World.ownsRow.alloc h o
theorem OwnP.lt (h : OwnP w base v bs) : ∀ k, v.ownBlock = some k → base ≤ k ∧ k < w.heap.size := World.ownsRow.lt h
theorem OwnP.below (h : OwnP w base v bs) (hb : Below w.heap.size w w') : OwnP w' base v bs := h.kept (grown_of_below hb none) (by cases v.ownBlock <;> simp)
theorem OwnP.slice (h : OwnP w base v bs) : ∃ A c, v = .slice A bs.length c := by
  rcases h.2 with ⟨rfl, hn⟩ | ⟨g, cap, _, rfl, _⟩
  · exact ⟨none, 0, by rw [hn]⟩
  · exact ⟨_, _, rfl⟩
theorem OwnP.spot (h : OwnP w base v bs) {k : Nat} (hk : k < bs.length) :
    ∃ g c, v = .slice (some ⟨g, 0, none⟩) bs.length c ∧ base ≤ g ∧ g < w.heap.size ∧ w.cell? ⟨g, k, none⟩ = some (.pointer (some ⟨bs[k], 0, none⟩)) := by
  rcases h.2 with ⟨_, hn⟩ | ⟨g, cap, cur, hv, hb, hg, _⟩
  · omega
  · subst hv
    refine ⟨g, cap, rfl, hb, (Array.getElem?_eq_some_iff.1 hg).1, ?_⟩
    rw [World.ownsRow.cellAt h k (by omega)]
    simp [hk, ptrV]
end
/-- The block of a joint itself (0), of the row of its limbs (1), of the row of the joints beside it (2). -/
def ob (pb : Nat → Nat) (vl vb : Nat → Value) (i c : Nat) : Option Nat := if c = 0 then some (pb i) else if c = 1 then (vl i).ownBlock else if c = 2 then (vb i).ownBlock else none
def Apart (m : Nat) (f : Nat → Nat → Option Nat) : Prop := ∀ i j c d, i < m → j < m → c < 3 → d < 3 → (i ≠ j ∨ c ≠ d) → ∀ k, f i c = some k → f j d ≠ some k
theorem apart_upd {m H i c : Nat} {f f' : Nat → Nat → Option Nat} (h : Apart m f) (hlt : ∀ j d k, j < m → d < 3 → f j d = some k → k < H) (hsame : ∀ j d, (j ≠ i ∨ d ≠ c) → f' j d = f j d)
    (hnew : f' i c = f i c ∨ ∀ k, f' i c = some k → H ≤ k) : Apart m f' := by
  intro a b x y ha hb hx hy hne k hk hk'
  by_cases e1 : a = i ∧ x = c
  · obtain ⟨rfl, rfl⟩ := e1
    have e2 : b ≠ a ∨ y ≠ x := by omega
    rw [hsame b y e2] at hk'
    rcases hnew with hn | hn
    · rw [hn] at hk
      exact h a b x y ha hb hx hy hne k hk hk'
    · have := hn k hk
      have := hlt b y k hb hy hk'
      omega
  · have e1' : a ≠ i ∨ x ≠ c := by omega
    rw [hsame a x e1'] at hk
    by_cases e2 : b = i ∧ y = c
    · obtain ⟨rfl, rfl⟩ := e2
      rcases hnew with hn | hn
      · rw [hn] at hk'
        exact h a b x y ha hb hx hy hne k hk hk'
      · have := hn k hk'
        have := hlt a x k ha hx hk
        omega
    · rw [hsame b y (by omega)] at hk'
      exact h a b x y ha hb hx hy hne k hk hk'

structure NetOk (w : World) (base m : Nat) (pb : Nat → Nat) (vl vb : Nat → Value) (I : Nat → List Int) (N : Nat → List Nat) (R : Nat → Bool) : Prop where
  blk : ∀ i, i < m → base ≤ pb i ∧ w.heap[pb i]? = some (.cells #[vl i, vb i, .bool (R i)] 89 (0, 0))
  ints : ∀ i, i < m → OwnI w base (vl i) (I i)
  ptrs : ∀ i, i < m → OwnP w base (vb i) ((N i).map pb)
  apart : Apart m (ob pb vl vb)

section
variable {w w' w1 : World} {base m i : Nat} {pb : Nat → Nat} {vl vb : Nat → Value} {I : Nat → List Int} {N : Nat → List Nat} {R : Nat → Bool}
theorem NetOk.lt (h : NetOk w base m pb vl vb I N R) : ∀ j d k, j < m → d < 3 → ob pb vl vb j d = some k → base ≤ k ∧ k < w.heap.size := by
  intro j d k hj hd hk
  unfold ob at hk
  by_cases e0 : d = 0
  · rw [if_pos e0] at hk
    injection hk with hk
    subst hk
    obtain ⟨h1, h2⟩ := h.blk j hj
    exact ⟨h1, (Array.getElem?_eq_some_iff.1 h2).1⟩
  · rw [if_neg e0] at hk
    by_cases e1 : d = 1
    · rw [if_pos e1] at hk
      exact (h.ints j hj).lt k hk
    · rw [if_neg e1, if_pos (by omega)] at hk
      exact (h.ptrs j hj).lt k hk
theorem NetOk.cell0 (h : NetOk w base m pb vl vb I N R) (hi : i < m) : w.cell? ⟨pb i, 0, none⟩ = some (vl i) := by rw [cell_of_row w (pb i) 0 _ _ _ (h.blk i hi).2]; rfl
theorem NetOk.cell1 (h : NetOk w base m pb vl vb I N R) (hi : i < m) : w.cell? ⟨pb i, 1, none⟩ = some (vb i) := by rw [cell_of_row w (pb i) 1 _ _ _ (h.blk i hi).2]; rfl
theorem NetOk.cell2 (h : NetOk w base m pb vl vb I N R) (hi : i < m) : w.cell? ⟨pb i, 2, none⟩ = some (.bool (R i)) := by rw [cell_of_row w (pb i) 2 _ _ _ (h.blk i hi).2]; rfl
theorem NetOk.free (h : NetOk w base m pb vl vb I N R) (hi : i < m) (o : Nat) : w.frozen? ⟨pb i, o, none⟩ = false := frozen_of_row w (pb i) o _ _ (h.blk i hi).2
/-- What leaves all elder blocks as they were leaves the net. -/
theorem NetOk.below (h : NetOk w base m pb vl vb I N R) (hb : Below w.heap.size w w') : NetOk w' base m pb vl vb I N R :=
  ⟨fun i hi => ⟨(h.blk i hi).1, (hb.block _ (Array.getElem?_eq_some_iff.1 (h.blk i hi).2).1).trans (h.blk i hi).2⟩, fun i hi => (h.ints i hi).below hb, fun i hi => (h.ptrs i hi).below hb, h.apart⟩
theorem NetOk.sep (h : NetOk w base m pb vl vb I N R) {i j c d : Nat} (hi : i < m) (hj : j < m) (hc : c < 3) (hd : d < 3) (hne : i ≠ j ∨ c ≠ d) : ob pb vl vb i c = none ∨ ob pb vl vb i c ≠ ob pb vl vb j d :=
  sep_of (h.apart i j c d hi hj hc hd hne)

/-- A mark. -/
theorem NetOk.mark (h : NetOk w base m pb vl vb I N R) (hi : i < m) (r : Bool) : NetOk (w.setCell ⟨pb i, 2, none⟩ (.bool r)) base m pb vl vb I N (upd R i r) := by
  have hg := grown_cell w ⟨pb i, 2, none⟩ (.bool r)
  refine ⟨fun j hj => ⟨(h.blk j hj).1, ?_⟩, fun j hj => (h.ints j hj).kept hg (h.sep (i := j) (j := i) (c := 1) (d := 0) hj hi (by omega) (by omega) (.inr (by omega))),
    fun j hj => (h.ptrs j hj).kept hg (h.sep (i := j) (j := i) (c := 2) (d := 0) hj hi (by omega) (by omega) (.inr (by omega))), h.apart⟩
  by_cases e : j = i
  · subst e
    rw [upd_same]
    exact heap_setCell_same w (pb j) 2 _ _ _ (h.blk j hj).2
  · rw [upd_other R e, Below.heap_setCell _ _ _ _ (by
      intro x
      exact h.apart j i 0 0 hj hi (by omega) (by omega) (.inl e) (pb j) rfl (congrArg some x.symm)), (h.blk j hj).2]
/-- An append to the row of limbs. -/
theorem NetOk.limb (h : NetOk w base m pb vl vb I N R) (hi : i < m) {v1 : Value} {zs : List Int} (o1 : OwnI w1 base v1 zs) (g1 : w.grownBy w1 (vl i).ownBlock)
    (hat : v1.ownBlock = (vl i).ownBlock ∨ ∀ k, v1.ownBlock = some k → w.heap.size ≤ k) : NetOk (w1.setCell ⟨pb i, 0, none⟩ v1) base m pb (upd vl i v1) vb (upd I i zs) N R := by
  have hg := grown_cell w1 ⟨pb i, 0, none⟩ v1
  have hap : Apart m (ob pb (upd vl i v1) vb) := by
    refine apart_upd (i := i) (c := 1) h.apart (fun j d k hj hd hk => (h.lt j d k hj hd hk).2) (fun j d hjd => ?_) ?_
    · unfold ob
      by_cases e0 : d = 0
      · rw [if_pos e0, if_pos e0]
      · rw [if_neg e0, if_neg e0]
        by_cases e1 : d = 1
        · rw [if_pos e1, if_pos e1, upd_other vl (by omega)]
        · rw [if_neg e1, if_neg e1]
    · unfold ob
      simp only [Nat.one_ne_zero, if_false, if_true, upd_same]
      exact hat
  have hb : ∀ j, j < m → w1.heap[pb j]? = w.heap[pb j]? := fun j hj => g1.block _ (h.lt j 0 _ hj (by omega) rfl).2 (by
    intro e
    exact h.apart j i 0 1 hj hi (by omega) (by omega) (.inr (by omega)) (pb j) rfl e.symm)
  refine ⟨fun j hj => ⟨(h.blk j hj).1, ?_⟩, fun j hj => ?_, fun j hj => ?_, hap⟩
  · by_cases e : j = i
    · subst e
      rw [upd_same]
      exact heap_setCell_same w1 (pb j) 0 _ _ _ ((hb j hj).trans (h.blk j hj).2)
    · rw [upd_other vl e, Below.heap_setCell _ _ _ _ (by
        intro x
        exact h.apart j i 0 0 hj hi (by omega) (by omega) (.inl e) (pb j) rfl (congrArg some x.symm)), hb j hj, (h.blk j hj).2]
  · have hs := sep_of (hap j i 1 0 hj hi (by omega) (by omega) (.inr (by omega)))
    by_cases e : j = i
    · subst e
      rw [upd_same, upd_same]
      have hs' : v1.ownBlock = none ∨ v1.ownBlock ≠ some (pb j) := by simpa [ob, upd_same] using hs
      exact o1.kept hg hs'
    · rw [upd_other I e, upd_other vl e]
      have hs' : (vl j).ownBlock = none ∨ (vl j).ownBlock ≠ some (pb i) := by simpa [ob, upd_other vl e] using hs
      exact ((h.ints j hj).kept g1 (h.sep (i := j) (j := i) (c := 1) (d := 1) hj hi (by omega) (by omega) (.inl e))).kept hg hs'
  · exact ((h.ptrs j hj).kept g1 (h.sep (i := j) (j := i) (c := 2) (d := 1) hj hi (by omega) (by omega) (.inr (by omega)))).kept hg (h.sep (i := j) (j := i) (c := 2) (d := 0) hj hi (by omega) (by omega) (.inr (by omega)))
/-- An append to the row of the joints beside one. -/
theorem NetOk.beside (h : NetOk w base m pb vl vb I N R) (hi : i < m) {v1 : Value} {xs : List Nat} (o1 : OwnP w1 base v1 (xs.map pb)) (g1 : w.grownBy w1 (vb i).ownBlock)
    (hat : v1.ownBlock = (vb i).ownBlock ∨ ∀ k, v1.ownBlock = some k → w.heap.size ≤ k) : NetOk (w1.setCell ⟨pb i, 1, none⟩ v1) base m pb vl (upd vb i v1) I (upd N i xs) R := by
  have hg := grown_cell w1 ⟨pb i, 1, none⟩ v1
  have hap : Apart m (ob pb vl (upd vb i v1)) := by
    refine apart_upd (i := i) (c := 2) h.apart (fun j d k hj hd hk => (h.lt j d k hj hd hk).2) (fun j d hjd => ?_) ?_
    · unfold ob
      by_cases e0 : d = 0
      · rw [if_pos e0, if_pos e0]
      · rw [if_neg e0, if_neg e0]
        by_cases e1 : d = 1
        · rw [if_pos e1, if_pos e1]
        · rw [if_neg e1, if_neg e1]
          by_cases e2 : d = 2
          · rw [if_pos e2, if_pos e2, upd_other vb (by omega)]
          · rw [if_neg e2, if_neg e2]
    · show (upd vb i v1 i).ownBlock = (vb i).ownBlock ∨ ∀ k, (upd vb i v1 i).ownBlock = some k → w.heap.size ≤ k
      rw [upd_same]
      exact hat
  have hb : ∀ j, j < m → w1.heap[pb j]? = w.heap[pb j]? := fun j hj => g1.block _ (h.lt j 0 _ hj (by omega) rfl).2 (by
    intro e
    exact h.apart j i 0 2 hj hi (by omega) (by omega) (.inr (by omega)) (pb j) rfl e.symm)
  refine ⟨fun j hj => ⟨(h.blk j hj).1, ?_⟩, fun j hj => ?_, fun j hj => ?_, hap⟩
  · by_cases e : j = i
    · subst e
      rw [upd_same]
      exact heap_setCell_same w1 (pb j) 1 _ _ _ ((hb j hj).trans (h.blk j hj).2)
    · rw [upd_other vb e, Below.heap_setCell _ _ _ _ (by
        intro x
        exact h.apart j i 0 0 hj hi (by omega) (by omega) (.inl e) (pb j) rfl (congrArg some x.symm)), hb j hj, (h.blk j hj).2]
  · exact ((h.ints j hj).kept g1 (h.sep (i := j) (j := i) (c := 1) (d := 2) hj hi (by omega) (by omega) (.inr (by omega)))).kept hg (h.sep (i := j) (j := i) (c := 1) (d := 0) hj hi (by omega) (by omega) (.inr (by omega)))
  · have hs := sep_of (hap j i 2 0 hj hi (by omega) (by omega) (.inr (by omega)))
    by_cases e : j = i
    · subst e
      rw [upd_same, upd_same]
      have hs' : v1.ownBlock = none ∨ v1.ownBlock ≠ some (pb j) := by simpa [ob, upd_same] using hs
      exact o1.kept hg hs'
    · rw [upd_other N e, upd_other vb e]
      have hs' : (vb j).ownBlock = none ∨ (vb j).ownBlock ≠ some (pb i) := by simpa [ob, upd_other vb e] using hs
      exact ((h.ptrs j hj).kept g1 (h.sep (i := j) (j := i) (c := 2) (d := 2) hj hi (by omega) (by omega) (.inl e))).kept hg hs'
end
end Go.Proofs.Ytblbmppbbhibeaa
