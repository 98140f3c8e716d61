/- The contracts of spec.l08List and spec.DrawCrosses: what they draw are valid crossings, nine at most. Condition: the bytes can be read. -/
import Derived.Test.YthijfipjfdmoeaaPk2
import Derived.Test.YthijfipjfdmoeaaPk3
import Derived.Test.YthijfipjfdmoeaaOnce
import Derived.Test.YthijfipjfdmoeaaStK
import Derived.Deep.RegionHeld3
import Derived.BigQuiet
namespace Go.Proofs.Ythijfipjfdmoeaa
set_option linter.unusedVariables false
set_option linter.unusedSimpArgs false
open Go.RowKit

/-- What the drawing keeps: the row drawn so far, the cursor. -/
structure CrsK (w0 : World) (a : Option Addr) (n cap : Nat) (w : World) (b : Nat) (v : Value) (ls : List RCross) (W : World) : Prop where
  out : OwnCross W w.heap.size v ls
  st : St w0 a n cap W b
  gr : w.grownBy W (some b)
  le : w0.heap.size ≤ w.heap.size
  cu : b < w.heap.size
section
variable {w0 : World} {a : Option Addr} {n cap : Nat} {w : World} {b : Nat} {v v' : Value} {ls ls' : List RCross} {W W' : World} {row : Option Nat}
theorem CrsK.draw (K : CrsK w0 a n cap w b v ls W) (hs : St w0 a n cap W' b) (hg : W.grownBy W' (some b)) : CrsK w0 a n cap w b v ls W' :=
  ⟨K.out.kept hg (sep_of fun k hk e => by
    have h1 := (K.out.lt k hk).1
    have h2 := Option.some.inj e
    have h3 := K.cu
    omega), hs, World.grownBy.trans K.gr hg, K.le, K.cu⟩
/-- A write past all that stood at the birth. -/
theorem CrsK.other (K : CrsK w0 a n cap w b v ls W) (hb : Below w.heap.size W W') (ho : OwnCross W' w.heap.size v' ls') : CrsK w0 a n cap w b v' ls' W' := by
  have hlt := K.cu
  have g : W.grownBy W' none → True := fun _ => trivial
  obtain ⟨i, x, h0, h1, hc⟩ := K.st.cur
  exact ⟨ho, ⟨K.st.below.trans (hb.mono K.le), K.st.own, i, x, h0, h1, (hb.block b hlt).trans hc⟩,
    ⟨hb.os.trans K.gr.os, hb.tape.trans K.gr.tape, hb.output.trans K.gr.output, Nat.le_trans K.gr.size hb.size, fun k hk hne => (hb.block k hk).trans (K.gr.block k hk hne)⟩, K.le, K.cu⟩
theorem CrsK.alloc (K : CrsK w0 a n cap w b v ls W) (o : Obj) : CrsK w0 a n cap w b v ls (W.alloc o) :=
  K.other ((Below.refl _ _).alloc K.gr.size _) (K.out.alloc _)
theorem CrsK.more (K : CrsK w0 a n cap w b v ls W) {o : Obj} (ho : OwnCross W' w.heap.size v' ls') (hg : (W.alloc o).grownBy W' v.ownBlock) : CrsK w0 a n cap w b v' ls' W' :=
  K.other (mineCross ((Below.refl _ _).alloc K.gr.size _) (by have := K.gr.size; simp; omega) (K.out.alloc _) hg) ho
end
theorem fits_more {N : Nat} {ls : List RCross} {l : RCross} (h : ∀ x ∈ ls, Fits N x) (hl : Fits N l) : ∀ x ∈ ls ++ [l], Fits N x := fun x hx => by
  rcases List.mem_append.1 hx with c | c
  · exact h x c
  · rw [List.mem_singleton.1 c]; exact hl
theorem last_two {w : World} {base g n c : Nat} {pre : List RCross} {p : RCross} (h : OwnCross w base (.slice (some ⟨g, 0, none⟩) n c) (pre ++ [p])) :
    w.cell? ⟨g, pre.length * 2, none⟩ = some (.int .i64 p.f0) ∧ w.cell? ⟨g, pre.length * 2 + 1, none⟩ = some (.bool p.f1) := by
  obtain ⟨_, _, e, _, _, z, _⟩ := h.spot (k := pre.length) (by simp)
  simp only [Value.slice.injEq, Option.some.injEq, Addr.mk.injEq] at e
  obtain ⟨⟨rfl, -⟩, -⟩ := e
  simp only [List.getElem_concat_length] at z
  exact ⟨z 0 _ rfl, z 1 _ rfl⟩
def CrsPost (w0 : World) (a : Option Addr) (n cap : Nat) (w : World) (b : Nat) (e : Ending) (w' : World) : Prop :=
  ∃ (N : Nat) (v : Value) (ls : List RCross), e = .returned (.tuple #[.int .i64 (N : Int), v]) ∧ (2 ≤ N ∧ N ≤ 5) ∧ OwnCross w' w.heap.size v ls ∧ ls.length ≤ 9 ∧ (∀ l ∈ ls, Fits N l) ∧ St w0 a n cap w' b ∧ w.grownBy w' (some b)

set_option maxRecDepth 100000 in
set_option maxHeartbeats 3200000 in
theorem list_any (w0 : World) (a : Option Addr) (n cap : Nat) (z : List Int) (hr : IsRow .u8 w0 a n cap z) (w : World) (b : Nat) (hs : St w0 a n cap w b) :
    Calls Try.prog 30 #[.pointer (some ⟨b, 0, none⟩)] w (CrsPost w0 a n cap w b) := by
  have BE := Lib.hid (fun m W h => below_any w0 a n cap z hr W b h m)
  have ON := Lib.hid (fun m W h => once_any w0 a n cap z hr W b h m)
  have hsz := hs.below.size
  have hlt := hs.cur.lt
  have S0 := Lib.hid hs
  clear hr hs
  go_enter Try.func30, Try.ntmps30
  go_wp2_with fail
  refine (BE.out 4 _ S0.out).mono ?_
  rintro e w1 ⟨q, rfl, ⟨hq0, hq1, -⟩, st1, g1⟩
  have hq4 := hq1 (by omega)
  obtain ⟨q, rfl⟩ := Int.eq_ofNat_of_zero_le hq0
  have e1 : IntKind.i64.wrap (2 + (q : Int)) = 2 + (q : Int) := IntWalk.i64_in _ (by omega)
  have hgs := g1.size
  have K0 := Lib.hid (show CrsK w0 a n cap w b (.slice (some ⟨w1.heap.size, 0, none⟩) 0 0) [] (w1.alloc (.cells #[] 56)) from
    ⟨emptyCross w1 w.heap.size w1.heap.size #[] rfl (by omega) rfl, st1.alloc _, World.grownBy.trans g1 (grown_of_below ((Below.refl w1.heap.size w1).alloc (Nat.le_refl _) _) _), hsz, hlt⟩)
  clear st1 g1 hq1 S0
  go_wp2_with fail
  refine (BE.out 10 _ K0.out.st).mono ?_
  rintro e w2 ⟨m, rfl, ⟨hm0, hm1, -⟩, st2, g2⟩
  have hm9 := hm1 (by omega)
  obtain ⟨m, rfl⟩ := Int.eq_ofNat_of_zero_le hm0
  have K1 := Lib.hid (K0.out.draw st2 g2)
  clear st2 g2 hm1 K0
  obtain ⟨N, hN⟩ : ∃ N : Nat, 2 + (q : Int) = (N : Int) := ⟨2 + q, by omega⟩
  have hN2 : 2 ≤ N ∧ N ≤ 5 := by omega
  rw [hN] at e1 ⊢
  clear hN hq0 hq4 e1
  go_wp2_with fail
  go_loopw [5, 6] (fun ov iv wr => ∃ (ls : List RCross) (j : Nat) (v : Value), v = ov ∧ ls.length + j ≤ 9 ∧ iv = .int .i64 (j : Int) ∧ Hid (∀ l ∈ ls, Fits N l) ∧ Hid (CrsK w0 a n cap w b v ls wr)) (fun _ iv _ => (intOf iv).toNat)
  case atStart => exact ⟨[], m, _, rfl, by simp; omega, rfl, Lib.hid (by simp), K1⟩
  case round =>
    clear K1 hm0 hm9
    obtain ⟨ls, j, v, rfl, hj, rfl, HF, HK⟩ := hrel
    by_cases hj0 : j = 0
    · subst hj0
      obtain ⟨V, c, rfl⟩ := HK.out.out.slice
      go_wp2
      go_ret2
      exact ⟨N, _, ls, rfl, hN2, HK.out.out, by omega, HF.out, HK.out.st, HK.out.gr⟩
    have hj1 : (0 : Int) < (j : Int) := by omega
    have e2 : IntKind.i64.wrap ((N : Int) - 1) = (N : Int) - 1 := IntWalk.i64_in _ (by omega)
    have e3 : IntKind.i64.wrap ((j : Int) - 1) = (j : Int) - 1 := IntWalk.i64_in _ (by omega)
    obtain ⟨V, c, rfl⟩ := HK.out.out.slice
    go_wp2_with fail
    refine (BE.out _ _ HK.out.st).mono ?_
    rintro e w3 ⟨x, rfl, ⟨hx0, hx1, -⟩, st3, g3⟩
    have hx2 := hx1 (by omega)
    have HK3 := Lib.hid (HK.out.draw st3 g3)
    clear st3 g3 hx1 HK
    go_wp2_with fail
    refine (ON.out _ _ HK3.out.st).mono ?_
    rintro e w4 ⟨y, rfl, st4, g4⟩
    have HK4 := Lib.hid (HK3.out.draw st4 g4)
    clear st4 g4 HK3
    have FX := Lib.hid (show Fits N ⟨x, y⟩ from ⟨hx0, by show x + 2 ≤ (N : Int); omega⟩)
    have HK5 := Lib.hid (HK4.out.alloc (.cells #[.int .i64 x, .bool y] 56))
    have hs4 := HK4.out.gr.size
    have LT := Lib.hid (fun k hk => (HK4.out.out.lt k hk).2)
    have hjn : ((j : Int) - 1) = ((j - 1 : Nat) : Int) := by omega
    rw [hjn] at e3
    by_cases h0 : ls.length = 0
    · have hls : ls = [] := List.eq_nil_of_length_eq_zero h0
      subst hls
      clear h0
      go_wp2_with (at_builtin; refine wpList_rowsCross rfl (.tmp 48) (.tmp 50) rfl w.heap.size w.heap.size (.slice V 0 c) (.slice (some ⟨w4.heap.size + 1, 0, none⟩) 1 1) [] [⟨x, y⟩] rfl rfl (HK5.out.out.alloc _) (by have := oneCross (w4.alloc (.cells #[.int .i64 x, .bool y] 56)) w.heap.size ⟨x, y⟩ (by simp; omega); simpa using this) ?_ ?_ ?_; (simp); (simp; omega); intro v6 w6 o6 g6 hat6)
      have HK6 := Lib.hid (HK5.out.more o6 g6)
      exact ⟨⟨[] ++ [⟨x, y⟩], j - 1, _, rfl, by simp; omega, rfl, Lib.hid (fits_more HF.out FX.out), HK6⟩, by simp [intOf]; omega⟩
    have hl0 : (0 : Int) < (ls.length : Int) := by omega
    have hb4 : b ≠ w4.heap.size := by omega
    go_wp2_with fail
    refine (ON.out _ _ HK5.out.st).mono ?_
    rintro e w5 ⟨t, rfl, st5, g5⟩
    have HK6 := Lib.hid (HK5.out.draw st5 g5)
    have hbk : w5.heap[w4.heap.size]? = some (.cells #[.int .i64 x, .bool y] 56) := (g5.block _ (by simp) (by simpa using hb4.symm)).trans (heap_alloc_new w4 _)
    have x0 : w5.cell? ⟨w4.heap.size, 0, none⟩ = some (.int .i64 x) := by rw [cell_of_row w5 _ 0 _ _ _ hbk]; rfl
    have x1 : w5.cell? ⟨w4.heap.size, 1, none⟩ = some (.bool y) := by rw [cell_of_row w5 _ 1 _ _ _ hbk]; rfl
    have f0 : w5.frozen? ⟨w4.heap.size, 0, none⟩ = false := frozen_of_row w5 _ 0 _ _ hbk
    have f1 : w5.frozen? ⟨w4.heap.size, 1, none⟩ = false := frozen_of_row w5 _ 1 _ _ hbk
    have hs5 := HK6.out.gr.size
    have hs54 : w4.heap.size < w5.heap.size := by have := g5.size; simp at this; omega
    clear st5 g5 hbk HK4 HK5
    cases t with
    | false =>
      clear f0 f1
      go_wp2_with (at_builtin; refine wpList_rowsCross rfl (.tmp 48) (.tmp 50) rfl w.heap.size w.heap.size (.slice V ls.length c) (.slice (some ⟨w5.heap.size, 0, none⟩) 1 1) ls [⟨x, y⟩] rfl rfl (HK6.out.out.alloc _) (oneCross w5 w.heap.size ⟨x, y⟩ hs5) ?_ ?_ ?_; (simp; omega); (simp; omega); intro v6 w6 o6 g6 hat6)
      have HK7 := Lib.hid (HK6.out.more o6 g6)
      exact ⟨⟨ls ++ [⟨x, y⟩], j - 1, _, rfl, by simp; omega, rfl, Lib.hid (fits_more HF.out FX.out), HK7⟩, by simp [intOf]; omega⟩
    | true =>
      rcases List.eq_nil_or_concat ls with rfl | ⟨pre, p, hpp⟩
      · exact absurd rfl h0
      obtain rfl : ls = pre ++ [p] := by simpa using hpp
      clear hpp h0
      have FP := Lib.hid (show Fits N ⟨p.f0, !p.f1⟩ from HF.out p (by simp))
      obtain ⟨g, _, ev, hg1, _, _, _⟩ := HK6.out.out.spot (k := 0) (by simp)
      simp only [Value.slice.injEq] at ev
      obtain ⟨rfl, -, rfl⟩ := ev
      obtain ⟨p0, p1⟩ := last_two HK6.out.out
      have hN : (pre ++ [p]).length = pre.length + 1 := by simp
      have HL := Lib.hid hN
      generalize hM : (pre ++ [p]).length = M at HK6 hN hj hl0 LT ⊢
      have HM := Lib.hid hM
      clear hM
      subst hN
      have e4 : IntKind.i64.wrap (((pre.length + 1 : Nat) : Int) - 1) = (pre.length : Int) := by rw [IntWalk.i64_in _ (by omega)]; omega
      have hm1 : (pre.length : Int) < ((pre.length + 1 : Nat) : Int) := by omega
      have hm3 : (0 : Int) ≤ (pre.length : Int) := by omega
      obtain ⟨a0, d0⟩ := p
      dsimp only at p0 p1
      go_wp2
      go_region
      have gX := grown_then (grown_cell w5 ⟨w4.heap.size, 0, none⟩ (.int .i64 a0)) (grown_cell (w5.setCell ⟨w4.heap.size, 0, none⟩ (.int .i64 a0)) ⟨w4.heap.size, 1, none⟩ (.bool !d0))
      have k0 := World.cell?_setCell_same w5 ⟨w4.heap.size, 0, none⟩ (.int .i64 a0) x0
      obtain ⟨y0, y1⟩ := cells_set2 (u := .int .i64 a0) (v := .bool !d0) ⟨_, x0⟩ ⟨_, x1⟩
      have HK7 := Lib.hid (HK6.out.other (((Below.refl w.heap.size w5).setCell (show w.heap.size ≤ w4.heap.size from hs4) (.int .i64 a0)).setCell (show w.heap.size ≤ w4.heap.size from hs4) (.bool !d0)).drew ((HK6.out.out.kept gX (sep_of fun k hk e => by have h1 := LT.out k hk; have h2 : w4.heap.size = k := Option.some.inj e; omega)).dr))
      have Y0 := Lib.hid (show World.cell? ((w5.setCell ⟨w4.heap.size, 0, none⟩ (.int .i64 a0)).setCell ⟨w4.heap.size, 1, none⟩ (.bool !d0)).drew ⟨w4.heap.size, 0, none⟩ = some (.int .i64 a0) from y0)
      have Y1 := Lib.hid (show World.cell? ((w5.setCell ⟨w4.heap.size, 0, none⟩ (.int .i64 a0)).setCell ⟨w4.heap.size, 1, none⟩ (.bool !d0)).drew ⟨w4.heap.size, 1, none⟩ = some (.bool !d0) from y1)
      clear y0 y1 x0 x1 f0 f1 k0 gX
      generalize World.drew _ = w6 at HK7 Y0 Y1 ⊢
      have x0 := Y0.out
      have x1 := Y1.out
      have hs6 := HK7.out.gr.size
      clear p0 p1 HK6
      go_wp2_with (at_builtin; refine wpList_rowsCross rfl (.tmp 48) (.tmp 50) rfl w.heap.size w.heap.size (.slice (some ⟨g, 0, none⟩) (pre.length + 1) c) (.slice (some ⟨w6.heap.size, 0, none⟩) 1 1) (pre ++ [⟨a0, d0⟩]) [⟨a0, !d0⟩] rfl rfl (HK7.out.out.alloc _) (oneCross w6 w.heap.size ⟨a0, !d0⟩ hs6) ?_ ?_ ?_; (simp; omega); (simp; omega); intro v8 w8 o8 g8 hat8)
      have HK8 := Lib.hid (HK7.out.more o8 g8)
      exact ⟨⟨pre ++ [⟨a0, d0⟩] ++ [⟨a0, !d0⟩], j - 1, _, rfl, by simp; omega, rfl, Lib.hid (fits_more HF.out FP.out), HK8⟩, by simp [intOf]; omega⟩

set_option maxRecDepth 100000 in
set_option maxHeartbeats 800000 in
theorem drawCrosses_any (a : Option Addr) (n cap : Nat) (z : List Int) (w : World) (hr : IsRow .u8 w a n cap z) (hn : n ≤ 1048576) :
    Calls Try.prog 20 #[.slice a n cap] w fun e w' => ∃ (N : Nat) (v : Value) (ls : List RCross), e = .returned (.tuple #[.int .i64 (N : Int), v]) ∧ (2 ≤ N ∧ N ≤ 5) ∧ OwnCross w' w.heap.size v ls ∧ ls.length ≤ 9 ∧ crossOk (N : Int) ls = true ∧ Below w.heap.size w w' := by
  have C1 := Lib.hid (new_any w a n cap z hr hn)
  have C2 := Lib.hid (fun w' b h => list_any w a n cap z hr w' b h)
  clear hr
  go_enter Try.func20, Try.ntmps20
  go_wp2_with fail
  refine C1.out.mono ?_
  rintro e w1 ⟨b, rfl, s1⟩
  have S1 := Lib.hid s1
  clear s1
  go_wp2_with fail
  refine (C2.out _ _ S1.out).mono ?_
  rintro e w2 ⟨N, v, ls, rfl, hN, o2, hl, hf, s2, g2⟩
  obtain ⟨V, c, rfl⟩ := o2.slice
  have F := Lib.hid (And.intro (o2.mono S1.out.below.size) s2.below)
  have HC := Lib.hid (ok_of (ls := ls) (show 1 ≤ N ∧ N ≤ 7 by omega) (by omega) hf)
  clear o2 s2 g2 hf
  go_wp2
  go_ret2
  exact ⟨N, _, ls, rfl, hN, F.out.1, hl, HC.out, F.out.2⟩
end Go.Proofs.Ythijfipjfdmoeaa
