/- The contract of impl.attach. Condition: the joints lie as a net. -/
import Derived.Test.YtblbmppbbhibeaaNet
import Derived.Deep.AppendLies
namespace Go.Proofs.Ytblbmppbbhibeaa
set_option linter.unusedVariables false
set_option linter.unusedSimpArgs false
open Go.RowKit

/-- Block b is no part of the net. -/
def Stranger (m : Nat) (pb : Nat → Nat) (vl vb : Nat → Value) (b : Nat) : Prop := ∀ j d, j < m → d < 3 → ob pb vl vb j d ≠ some b
/-- Elder blocks that are no part of the net stay as they are, and become no part of it. -/
def Spared (w w' : World) (m : Nat) (pb : Nat → Nat) (vl vb vl' vb' : Nat → Value) : Prop := ∀ b, b < w.heap.size → Stranger m pb vl vb b → w'.heap[b]? = w.heap[b]? ∧ Stranger m pb vl' vb' b
theorem stranger_upd {m i b g H n c : Nat} {pb : Nat → Nat} {vl vb : Nat → Value} (h : Stranger m pb vl vb b) (hi : i < m) (hb : b < H) (hat : (vl i).ownBlock = some g ∨ g = H) : Stranger m pb (upd vl i (.slice (some ⟨g, 0, none⟩) n c)) vb b := by
  intro j d hj hd
  by_cases e : j = i ∧ d = 1
  · obtain ⟨rfl, rfl⟩ := e
    have := h j 1 hj (by omega)
    simp only [ob, Nat.one_ne_zero, if_false, if_true, upd_same, Value.ownBlock] at this ⊢
    intro x
    injection x with x
    rcases hat with hat | hat
    · exact this (by rw [← x]; exact hat)
    · omega
  · have e1 := h j d hj hd
    unfold ob at e1 ⊢
    by_cases e0 : d = 1
    · subst e0
      simp only [Nat.one_ne_zero, if_false, if_true] at e1 ⊢
      rw [upd_other vl (fun x => e ⟨x, rfl⟩)]
      exact e1
    · rw [if_neg e0] at e1 ⊢
      exact e1
theorem stranger_upd' {m i b g H n c : Nat} {pb : Nat → Nat} {vl vb : Nat → Value} (h : Stranger m pb vl vb b) (hi : i < m) (hb : b < H) (hat : (vb i).ownBlock = some g ∨ g = H) : Stranger m pb vl (upd vb i (.slice (some ⟨g, 0, none⟩) n c)) b := by
  intro j d hj hd
  by_cases e : j = i ∧ d = 2
  · obtain ⟨rfl, rfl⟩ := e
    have := h j 2 hj (by omega)
    have a : ob pb vl vb j 2 = (vb j).ownBlock := rfl
    have b : ob pb vl (upd vb j (.slice (some ⟨g, 0, none⟩) n c)) j 2 = (upd vb j (.slice (some ⟨g, 0, none⟩) n c) j).ownBlock := rfl
    rw [a] at this
    rw [b, upd_same]
    simp only [Value.ownBlock]
    intro x
    injection x with x
    rcases hat with hat | hat
    · exact this (by rw [← x]; exact hat)
    · omega
  · have e1 := h j d hj hd
    unfold ob at e1 ⊢
    by_cases e0 : d = 2
    · subst e0
      simp only [if_true, show ¬ (2 : Nat) = 0 by omega, show ¬ (2 : Nat) = 1 by omega, if_false] at e1 ⊢
      rw [upd_other vb (fun x => e ⟨x, rfl⟩)]
      exact e1
    · rw [if_neg e0] at e1 ⊢
      exact e1
def AttPost (w : World) (base m : Nat) (pb : Nat → Nat) (vl0 vb0 : Nat → Value) (I : Nat → List Int) (N : Nat → List Nat) (R : Nat → Bool) (e : Ending) (w' : World) : Prop :=
  ∃ vl vb, e = .returned (.tuple #[]) ∧ NetOk w' base m pb vl vb I N R ∧ Below base w w' ∧ Spared w w' m pb vl0 vb0 vl vb

theorem ownP_snoc {w : World} {base : Nat} {v : Value} {bs : List Nat} {x : Nat} (h : w.ownsRow base 76 1 v (bs.length + 1) (bs.map ptrV ++ [.pointer (some ⟨x, 0, none⟩)])) : OwnP w base v (bs ++ [x]) := by
  unfold OwnP
  rw [List.length_append, List.map_append]
  exact h
theorem own_or {v : Value} {g H : Nat} {n c K : Nat} (h : v.ownBlock = some g ∨ g = H) (hK : K ≤ H) : (Value.slice (some ⟨g, 0, none⟩) n c).ownBlock = v.ownBlock ∨ ∀ k, (Value.slice (some ⟨g, 0, none⟩) n c).ownBlock = some k → K ≤ k := by
  rcases h with h | h
  · exact .inl h.symm
  · refine .inr fun k hk => ?_
    have : g = k := by simpa [Value.ownBlock] using hk
    omega

section
variable {w w1 : World} {base m i : Nat} {pb : Nat → Nat} {vl vb : Nat → Value} {I : Nat → List Int} {N : Nat → List Nat} {R : Nat → Bool}
/-- A joint's own cells behind an append to one of its rows. -/
theorem NetOk.behind (h : NetOk w base m pb vl vb I N R) (hi : i < m) {o : Obj} {c : Nat} (hc : c = 1 ∨ c = 2) (hg : (w.alloc o).grownBy w1 (ob pb vl vb i c)) :
    w1.cell? ⟨pb i, 0, none⟩ = some (vl i) ∧ w1.cell? ⟨pb i, 1, none⟩ = some (vb i) ∧ w1.frozen? ⟨pb i, 0, none⟩ = false ∧ w1.frozen? ⟨pb i, 1, none⟩ = false ∧ w.grownBy w1 (ob pb vl vb i c) := by
  have g := World.grownBy.trans (World.grownBy_alloc w o _) hg
  have hne : some (pb i) ≠ ob pb vl vb i c := fun e => h.apart i i 0 c hi hi (by omega) (by omega) (.inr (by omega)) (pb i) rfl e.symm
  have hlt := (h.lt i 0 _ hi (by omega) rfl).2
  exact ⟨g.cell (h.cell0 hi) hne, g.cell (h.cell1 hi) hne, (World.frozen?_of_block (g.block _ hlt hne)).trans (h.free hi 0), (World.frozen?_of_block (g.block _ hlt hne)).trans (h.free hi 1), g⟩
end

theorem cell_new {w : World} {H : Nat} (hH : w.heap.size = H) (x : Value) (t : TypeId) : ∀ j u, [x][j]? = some u → (w.alloc (.cells #[x] t)).cell? ((⟨H, 0, none⟩ : Addr).add j) = some u := by
  subst hH
  exact cell_one_new w x t

set_option maxRecDepth 100000 in
set_option maxHeartbeats 800000 in
theorem attach_any (w : World) (base m : Nat) (pb : Nat → Nat) (vl vb : Nat → Value) (I : Nat → List Int) (N : Nat → List Nat) (R : Nat → Bool) (h : NetOk w base m pb vl vb I N R) (hB : base ≤ w.heap.size)
    (i x : Nat) (t : Int) (hi : i < m) (hI : (I i).length ≤ 100000) (hN : (N i).length ≤ 100000) :
    Calls Try.prog 68 #[.pointer (some ⟨pb i, 0, none⟩), .int .i64 t, .pointer (some ⟨pb x, 0, none⟩)] w (AttPost w base m pb vl vb (upd I i (I i ++ [t])) (upd N i (N i ++ [x])) R) := by
  obtain ⟨i0, hi0, hz0, hz1, hz2⟩ := info_parts info_int
  obtain ⟨i1, hi1, hy0, hy1, hy2⟩ := info_parts info_ptr
  have c0 := h.cell0 hi
  have f0 := h.free hi 0
  have own0 := h.ints i hi
  have hlt := (h.lt i 0 _ hi (by omega) rfl)
  have hpos : 0 < 1 := by omega
  have hmax : (I i).length + 1 ≤ maxLen := by simp only [maxLen]; omega
  have hbd : ((I i).length + 1) * 8 ≤ 140737488355328 := by omega
  have hmax' : ((N i).map pb).length + 1 ≤ maxLen := by rw [List.length_map]; simp only [maxLen]; omega
  have hbd' : (((N i).map pb).length + 1) * 8 ≤ 140737488355328 := by rw [List.length_map]; omega
  have HN := Lib.hid h
  have hI' := Lib.hid hI
  clear hI hN
  go_enter Try.func68, Try.ntmps68
  clear h
  go_wp2_with (first | (at_builtin; refine wpList_append_lies _ rfl (.tmp 10) (.tmp 12) 27 rfl base 3 i0 (.int .i64 0) 1 8 Try.underlying27 hi0 hz0 hz1 hz2 rfl hpos (vl i) _ _ rfl (own0.alloc _) ⟨w.heap.size, 0, none⟩ 1 1 [.int .i64 t] rfl rfl (cell_one_new _ _ _) ?_ hpos hmax hbd ?_ (w.heap.size + 1) ?_ ?_; (simp [Value.oneCell']); (simp; omega); (simp); intro gg cap w1 hown1 hgrow hat hlt'; obtain ⟨d0, d1, e0, e1, hg1⟩ := HN.out.behind hi (c := 1) (.inl rfl) hgrow; have H2 := Lib.hid (HN.out.limb hi (ownI_snoc hown1) hg1 (own_or hat (by omega))); have own1 := (H2.out.ptrs i hi).alloc (.cells #[.pointer (some ⟨pb x, 0, none⟩)] 76); have hz := hg1.size; clear hown1 hgrow) | (at_builtin; refine wpList_append_lies _ rfl (.tmp 20) (.tmp 22) 77 rfl base 76 i1 (.pointer none) 1 8 Try.underlying77 hi1 hy0 hy1 hy2 rfl hpos (vb i) _ _ rfl own1 ⟨w1.heap.size, 0, none⟩ 1 1 [.pointer (some ⟨pb x, 0, none⟩)] rfl rfl (cell_new (by simp) _ _) ?_ hpos hmax' hbd' ?_ (w1.heap.size + 1) ?_ ?_; (simp [Value.oneCell']); (simp; omega); (simp); intro gg2 cap2 w2 hown2 hgrow2 hat2 hlt2; obtain ⟨d0', d1', e0', e1', hg2⟩ := H2.out.behind hi (c := 2) (.inr rfl) hgrow2; have H3 := Lib.hid (H2.out.beside hi (xs := N i ++ [x]) (by rw [List.map_append]; exact ownP_snoc hown2) hg2 (own_or hat2 (by simp))); clear hown2 hgrow2))
  have h3 := H3.out
  simp only [List.length_map] at h3
  go_end0
  have r1 : ∀ k, ob pb vl vb i 1 = some k → base ≤ k := fun k hk => (HN.out.lt i 1 k hi (by omega) hk).1
  have r2 : ∀ k, ob pb (upd vl i (Value.slice (some ⟨gg, 0, none⟩) ((I i).length + 1) cap)) vb i 2 = some k → base ≤ k := fun k hk => (H2.out.lt i 2 k hi (by omega) hk).1
  refine ⟨_, _, rfl, h3, ?_, fun b hb hsp => ?_⟩
  · exact ((((Below.refl base w).grown hg1 hB r1).setCell hlt.1 _).grown hg2 (by simp; omega) r2).setCell hlt.1 _
  · have n0 := hsp i 0 hi (by omega)
    have n1 := hsp i 1 hi (by omega)
    have n2 := hsp i 2 hi (by omega)
    have hne : b ≠ pb i := fun e => n0 (congrArg some e.symm)
    refine ⟨?_, stranger_upd' (stranger_upd hsp hi (by omega) hat) hi (by have := hg1.size; omega) hat2⟩
    rw [Below.heap_setCell _ _ _ _ hne, hg2.block b (by simp; omega) (fun e => n2 e.symm), Below.heap_setCell _ _ _ _ hne, hg1.block b hb (fun e => n1 e.symm)]
end Go.Proofs.Ytblbmppbbhibeaa
