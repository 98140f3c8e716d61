/- Texts of this seat laid together, each with its own first sentence below: LofI BxtI NwxM KepM NwyM. -/
import Derived.Test.YtanlfkkmnnjpeaaPk9
import Derived.Test.YtanlfkkmnnjpeaaPk4
import Derived.Test.YtanlfkkmnnjpeaaPk6
import Derived.Test.YtanlfkkmnnjpeaaPk1
import Derived.Shelf.Abstract
import Derived.Laws.EntriesVeiled
import Derived.Deep.RegionHeld3
import Derived.RangeFuncFrom
/- The contract of the program's generic leastOf at ways, over whatever function gives the size. Condition: the row is not empty; the function writes into new blocks alone. -/
namespace Go.Proofs.Ytanlfkkmnnjpeaa
set_option linter.unusedVariables false
set_option linter.unusedSimpArgs false
open Go.RowKit

/-- The cells of a new box of one way, behind what came since. -/
theorem newW {W w2 : World} {x y z : Value} {t : TypeId} (hb : Below (W.alloc (.cells #[x, y, z] t)).heap.size (W.alloc (.cells #[x, y, z] t)) w2) :
    w2.cell? ⟨W.heap.size, 0, none⟩ = some x ∧ w2.cell? ⟨W.heap.size, 1, none⟩ = some y ∧ w2.cell? ⟨W.heap.size, 2, none⟩ = some z ∧ w2.frozen? ⟨W.heap.size, 0, none⟩ = false ∧ w2.frozen? ⟨W.heap.size, 1, none⟩ = false ∧ w2.frozen? ⟨W.heap.size, 2, none⟩ = false := by
  have hf : ∀ j, w2.frozen? ⟨W.heap.size, j, none⟩ = false := fun j => (hb.frozen (by simp)).trans (by simp [go_sem])
  exact ⟨cell_below (by simp [go_sem]) hb, cell_below (by simp [go_sem]) hb, cell_below (by simp [go_sem]) hb, hf 0, hf 1, hf 2⟩

/-- A box of three values that may be written. -/
structure Bx3 (W : World) (b : Nat) (x y z : Value) : Prop where
  c0 : W.cell? ⟨b, 0, none⟩ = some x
  c1 : W.cell? ⟨b, 1, none⟩ = some y
  c2 : W.cell? ⟨b, 2, none⟩ = some z
  f0 : W.frozen? ⟨b, 0, none⟩ = false
  f1 : W.frozen? ⟨b, 1, none⟩ = false
  f2 : W.frozen? ⟨b, 2, none⟩ = false
section
variable {W W' : World} {b : Nat} {x y z : Value}
theorem Bx3.new (W : World) (x y z : Value) (t : TypeId) : Bx3 (W.alloc (.cells #[x, y, z] t)) W.heap.size x y z := by
  obtain ⟨c0, c1, c2, f0, f1, f2⟩ := newW (Below.refl (W.alloc (.cells #[x, y, z] t)).heap.size _)
  exact ⟨c0, c1, c2, f0, f1, f2⟩
theorem Bx3.lt (h : Bx3 W b x y z) : b < W.heap.size := World.block_lt_of_cell? W _ h.c0
theorem Bx3.below (h : Bx3 W b x y z) (hb : Below W.heap.size W W') : Bx3 W' b x y z :=
  ⟨cell_below h.c0 hb, cell_below h.c1 hb, cell_below h.c2 hb, (hb.frozen h.lt).trans h.f0, (hb.frozen h.lt).trans h.f1, (hb.frozen h.lt).trans h.f2⟩
theorem Bx3.kept {g : Nat} (h : Bx3 W b x y z) (hg : W.grownBy W' (some g)) (hne : b ≠ g) : Bx3 W' b x y z := by
  have n : some b ≠ some g := fun e => hne (Option.some.inj e)
  have hf : W'.heap[b]? = W.heap[b]? := (grownIn_of hg).block b h.lt (fun e => hne (Option.some.inj e).symm)
  have fz : ∀ j, W'.frozen? ⟨b, j, none⟩ = W.frozen? ⟨b, j, none⟩ := fun j => by unfold World.frozen?; simp only [hf]
  exact ⟨hg.cell h.c0 n, hg.cell h.c1 n, hg.cell h.c2 n, (fz 0).trans h.f0, (fz 1).trans h.f1, (fz 2).trans h.f2⟩
theorem put3_grown (W : World) (b : Nat) (x y z : Value) : W.grownBy (((W.setCell ⟨b, 0, none⟩ x).setCell ⟨b, 1, none⟩ y).setCell ⟨b, 2, none⟩ z) (some b) :=
  ((grown_cell W ⟨b, 0, none⟩ x).trans (grown_cell _ ⟨b, 1, none⟩ y)).trans (grown_cell _ ⟨b, 2, none⟩ z)
theorem Bx3.put {x' y' z' : Value} (h : Bx3 W b x y z) : Bx3 (((W.setCell ⟨b, 0, none⟩ x').setCell ⟨b, 1, none⟩ y').setCell ⟨b, 2, none⟩ z') b x' y' z' := by
  obtain ⟨c0, c1, c2, f0, f1, f2⟩ := h
  refine ⟨?_, ?_, ?_, ?_, ?_, ?_⟩ <;> simp [go_sem, *]
end

set_option maxRecDepth 100000 in
set_option maxHeartbeats 1600000 in
theorem leastOf_any (K : Nat) (cap : Value) (s : RWay → Int) (eg : ∀ args w, (callFunc K args).run Try.prog w = .ok (.enter K args) w) (v : Value) (xs : List RWay) (P : Nat → Prop) (w : World) (h : View w P v xs) (hl : xs.length ≤ 100000) (hn : 1 ≤ xs.length)
    (HC : ∀ l ∈ xs, ∀ W, Below w.heap.size w W → Calls Try.prog K #[l.agg, cap] W fun e W' => e = .returned (.int .i64 (s l)) ∧ Below W.heap.size W W') :
    Calls Try.prog 64 #[v, .func (.func K) #[] #[cap]] w fun e w' => e = .returned (.tuple #[(bestW s xs).agg, .int .i64 (s (bestW s xs))]) ∧ Below w.heap.size w w' := by
  obtain ⟨g, c, rfl, hg, x0, x1, x2⟩ := h.spot (k := 0) (by omega)
  have H := Lib.hid h
  have HD := Lib.hid HC
  have hz : xs[0] = xs.getD 0 RWay.zero := by rw [List.getD_eq_getElem?_getD, List.getElem?_eq_getElem (by omega)]; rfl
  have H0 := Lib.hid (HC xs[0] (List.getElem_mem _))
  rw [hz] at x0 x1 x2 H0
  have hroom := hg.1
  clear h HC hz
  have n1 : (0 : Int) < (xs.length : Int) := by omega
  have n2 : 0 < xs.length := by omega
  go_enter Try.func64, Try.ntmps64
  go_wp2_with fail
  have KEEP := Lib.hid (show ∀ W, Below w.heap.size w W → W.cell? ⟨g, 0, none⟩ = some (xs.getD 0 RWay.zero).u1 ∧ W.cell? ⟨g, 1, none⟩ = some (xs.getD 0 RWay.zero).u2 ∧ W.cell? ⟨g, 2, none⟩ = some (.int .i64 (xs.getD 0 RWay.zero).ah) from fun W hb => ⟨cell_below x0 hb, cell_below x1 hb, cell_below x2 hb⟩)
  obtain ⟨l0, hl0⟩ : ∃ l, xs.getD 0 RWay.zero = l := ⟨_, rfl⟩
  rw [hl0] at KEEP H0
  have hw0 := H.out.ok _ (show xs.getD 0 RWay.zero ∈ xs by rw [List.getD_eq_getElem?_getD, List.getElem?_eq_getElem (by omega)]; exact List.getElem_mem _)
  rw [hl0] at hw0
  obtain ⟨u1, u2, p0, q0, z0⟩ := l0
  obtain ⟨A1, c1, rfl⟩ := OwnI.slice (show OwnI w 0 u1 p0 from hw0.o1)
  obtain ⟨A2, c2, rfl⟩ := OwnI.slice (show OwnI w 0 u2 q0 from hw0.o2)
  obtain ⟨W1, hW1⟩ : ∃ W1, w.alloc (.cells #[.slice none 0 0, .slice none 0 0, .int .i64 0] 60) = W1 := ⟨_, rfl⟩
  have B1 := Lib.hid (show Below w.heap.size w W1.drew by rw [← hW1]; exact ((Below.refl _ _).alloc (Nat.le_refl _) _).drew)
  have hs1 : W1.heap.size = w.heap.size + 1 := by rw [← hW1]; simp
  rw [hW1]
  have X1 := Lib.hid (KEEP.out _ B1.out)
  have X40 := Lib.hid (show Bx3 W1.drew w.heap.size (.slice none 0 0) (.slice none 0 0) (.int .i64 0) by rw [← hW1]; exact (Bx3.new w _ _ _ 60).below (Below.refl _ _).drew)
  have HL0 := Lib.hid hl0
  clear x0 x1 x2 hl0 hw0
  dsimp only at KEEP X1
  -- REGION
  rename_i K7 hK7
  have REST : ∀ (g6 : Nat) (W : World), w.heap.size < g6 → Below w.heap.size w W → Bx3 W w.heap.size (.slice none 0 0) (.slice none 0 0) (.int .i64 0) → Bx3 W g6 (.slice A1 p0.length c1) (.slice A2 q0.length c2) (.int .i64 z0) → K7 { tmps := #[.slice (some ⟨g, 0, none⟩) xs.length c, .func (.func K) #[] #[cap], undef, undef, .pointer (some ⟨w.heap.size, 0, none⟩), .int .i64 0, .pointer (some ⟨g6, 0, none⟩), .int .i64 (s ⟨.slice A1 p0.length c1, .slice A2 q0.length c2, p0, q0, z0⟩), undef, undef, undef, .slice (some ⟨g, 0, none⟩) xs.length c, .pointer (some ⟨g, 0, none⟩), .agg #[.slice A1 p0.length c1, .slice A2 q0.length c2, .int .i64 z0], .func (.func K) #[] #[cap], .slice (some ⟨g, 0, none⟩) xs.length c, .pointer (some ⟨g, 0, none⟩), .agg #[.slice A1 p0.length c1, .slice A2 q0.length c2, .int .i64 z0], .int .i64 (s ⟨.slice A1 p0.length c1, .slice A2 q0.length c2, p0, q0, z0⟩), undef, undef, undef, undef, undef, undef, undef, undef, undef, undef, undef, undef, undef, undef, undef, undef, undef, undef], defers := [] } W := by
    intro g6 W h6 hBW hb4 hb6
    refine hK7 _ _ ?_
    have hr1 : 1 ≤ c := by omega
    have hr2 : 0 < c := by omega
    have hr3 : (1 : Int) ≤ (xs.length : Int) := by omega
    have hr4 : (xs.length : Int) ≤ (c : Int) := by omega
    obtain ⟨m, hm⟩ : ∃ m, xs.length - 1 = m := ⟨_, rfl⟩
    have HM := Lib.hid hm
    have R := Lib.hid (show bestW s xs = bestAt s xs m by rw [← hm]; rfl)
    have BA0 := Lib.hid (show bestAt s xs 0 = ⟨.slice A1 p0.length c1, .slice A2 q0.length c2, p0, q0, z0⟩ from HL0.out)
    have BW := Lib.hid hBW
    have B4 := Lib.hid hb4
    have B6 := Lib.hid (show Bx3 W g6 (bestAt s xs 0).u1 (bestAt s xs 0).u2 (.int .i64 (bestAt s xs 0).ah) by rw [BA0.out]; exact hb6)
    have S0 : s ⟨.slice A1 p0.length c1, .slice A2 q0.length c2, p0, q0, z0⟩ = s (bestAt s xs 0) := by rw [BA0.out]
    rw [S0]
    clear hK7 hW1 hs1 X1 X40 B1 H0 KEEP hb4 hb6 hBW S0
    by_cases hc1 : c = 1
    · have hm0 : m = 0 := by omega
      subst hc1
      subst hm0
      go_wp2_with fail
      try rw [hm]
      clear hm
      go_loopw [7, 22] (fun sv iv wr => W = wr ∧ sv = .int .i64 (s (bestAt s xs 0)) ∧ iv = .int .i64 0) (fun _ _ _ => 0)
      case atStart => exact ⟨rfl, rfl, rfl⟩
      case round =>
        obtain ⟨rfl, rfl, rfl⟩ := hrel
        have hwb := H.out.ok _ (bestAt_mem s (xs := xs) (k := 0) (by have := HM.out; omega))
        rw [← R.out] at B6 hwb ⊢
        generalize hbl : bestW s xs = l at B6 hwb ⊢
        have HBL := Lib.hid hbl
        clear hbl
        obtain ⟨u1, u2, p1, q1, z1⟩ := l
        obtain ⟨A3, c3, rfl⟩ := OwnI.slice (show OwnI w 0 u1 p1 from hwb.o1)
        obtain ⟨A4, c4, rfl⟩ := OwnI.slice (show OwnI w 0 u2 q1 from hwb.o2)
        have b0 := B6.out.c0
        have b1 := B6.out.c1
        have b2 := B6.out.c2
        dsimp only at b0 b1 b2
        have d0 := B4.out.c0
        have d1 := B4.out.c1
        have d2 := B4.out.c2
        have e0 := B4.out.f0
        have e1 := B4.out.f1
        have e2 := B4.out.f2
        have P4 := Lib.hid (B4.out.put (x' := .slice A3 p1.length c3) (y' := .slice A4 q1.length c4) (z' := .int .i64 z1))
        have PB := Lib.hid (BW.out.grown (put3_grown W w.heap.size (.slice A3 p1.length c3) (.slice A4 q1.length c4) (.int .i64 z1)) BW.out.size (fun k e => by have := Option.some.inj e; omega))
        clear hwb B4 B6 BW
        go_wp2
        clear b0 b1 b2 d0 d1 d2 e0 e1 e2
        generalize (((W.setCell ⟨w.heap.size, 0, none⟩ (.slice A3 p1.length c3)).setCell ⟨w.heap.size, 1, none⟩ (.slice A4 q1.length c4)).setCell ⟨w.heap.size, 2, none⟩ (.int .i64 z1)) = W9 at P4 PB ⊢
        have r0 := P4.out.c0
        have r1 := P4.out.c1
        have r2 := P4.out.c2
        refine bodyPost_ret (v := .tuple #[.agg #[.slice A3 p1.length c3, .slice A4 q1.length c4, .int .i64 z1], .int .i64 (s ⟨.slice A3 p1.length c3, .slice A4 q1.length c4, p1, q1, z1⟩)]) (by simp [results, Try.results64, go_sem, r0, r1, r2]) rfl ⟨by rw [HBL.out]; rfl, PB.out⟩
    · have hc2 : (1 : Int) < (c : Int) := by omega
      go_wp2_with fail
      try rw [hm]
      clear hm
      go_loopw [7, 22] (fun sv iv wr => ∃ k : Nat, k ≤ m ∧ sv = .int .i64 (s (bestAt s xs k)) ∧ iv = .int .i64 (k : Int) ∧ Hid (Below w.heap.size w wr) ∧ Hid (Bx3 wr w.heap.size (.slice none 0 0) (.slice none 0 0) (.int .i64 0)) ∧ Hid (Bx3 wr g6 (bestAt s xs k).u1 (bestAt s xs k).u2 (.int .i64 (bestAt s xs k).ah))) (fun _ iv _ => m - (intOf iv).toNat)
      case atStart => exact ⟨0, by omega, rfl, rfl, BW, B4, B6⟩
      case round =>
        clear BW B4 B6
        obtain ⟨k, hk, rfl, rfl, BW, B4, B6⟩ := hrel
        by_cases hlt : k < m
        rotate_left
        · obtain rfl : k = m := by omega
          have hkk : ¬ (k : Int) < (k : Int) := by omega
          have hwb := H.out.ok _ (bestAt_mem s (xs := xs) (k := k) (by have := HM.out; omega))
          rw [← R.out] at B6 hwb ⊢
          generalize hbl : bestW s xs = l at B6 hwb ⊢
          have HBL := Lib.hid hbl
          clear hbl
          obtain ⟨u1, u2, p1, q1, z1⟩ := l
          obtain ⟨A3, c3, rfl⟩ := OwnI.slice (show OwnI w 0 u1 p1 from hwb.o1)
          obtain ⟨A4, c4, rfl⟩ := OwnI.slice (show OwnI w 0 u2 q1 from hwb.o2)
          have b0 := B6.out.c0
          have b1 := B6.out.c1
          have b2 := B6.out.c2
          dsimp only at b0 b1 b2
          have d0 := B4.out.c0
          have d1 := B4.out.c1
          have d2 := B4.out.c2
          have e0 := B4.out.f0
          have e1 := B4.out.f1
          have e2 := B4.out.f2
          have P4 := Lib.hid (B4.out.put (x' := .slice A3 p1.length c3) (y' := .slice A4 q1.length c4) (z' := .int .i64 z1))
          have PB := Lib.hid (BW.out.grown (put3_grown wr w.heap.size (.slice A3 p1.length c3) (.slice A4 q1.length c4) (.int .i64 z1)) BW.out.size (fun k e => by have := Option.some.inj e; omega))
          clear hwb B4 B6 BW
          go_wp2
          clear b0 b1 b2 d0 d1 d2 e0 e1 e2
          generalize (((wr.setCell ⟨w.heap.size, 0, none⟩ (.slice A3 p1.length c3)).setCell ⟨w.heap.size, 1, none⟩ (.slice A4 q1.length c4)).setCell ⟨w.heap.size, 2, none⟩ (.int .i64 z1)) = W9 at P4 PB ⊢
          have r0 := P4.out.c0
          have r1 := P4.out.c1
          have r2 := P4.out.c2
          refine bodyPost_ret (v := .tuple #[.agg #[.slice A3 p1.length c3, .slice A4 q1.length c4, .int .i64 z1], .int .i64 (s ⟨.slice A3 p1.length c3, .slice A4 q1.length c4, p1, q1, z1⟩)]) (by simp [results, Try.results64, go_sem, r0, r1, r2]) rfl ⟨by rw [HBL.out]; rfl, PB.out⟩
        have hk0 : (0 : Int) ≤ (k : Int) := by omega
        have hk1 : (k : Int) < (m : Int) := by omega
        have hlt2 : k + 1 < xs.length := by have := HM.out; omega
        have HW := H.out.below BW.out
        obtain ⟨_, _, f1, _, y0, y1, y2⟩ := HW.spot hlt2
        simp only [Value.slice.injEq, Option.some.injEq, Addr.mk.injEq] at f1
        obtain ⟨⟨rfl, _⟩, -, -⟩ := f1
        rw [show (k + 1) * 3 = 3 + k * 3 by omega] at y0 y1 y2
        have he : xs[k + 1] = xs.getD (k + 1) RWay.zero := by rw [List.getD_eq_getElem?_getD, List.getElem?_eq_getElem hlt2]; rfl
        have hwe := HW.ok xs[k + 1] (List.getElem_mem _)
        have NX := Lib.hid (bestAt_next s xs k)
        have CE := Lib.hid (HD.out xs[k + 1] (List.getElem_mem _))
        rw [he] at y0 y1 y2 hwe CE
        clear HW he
        have hwb := H.out.ok _ (bestAt_mem s (xs := xs) (k := k) (by omega))
        generalize xs.getD (k + 1) RWay.zero = e at y0 y1 y2 hwe NX CE
        generalize hB1 : bestAt s xs (k + 1) = l' at NX
        have HB1 := Lib.hid hB1
        clear hB1
        generalize bestAt s xs k = l at NX B6 hwb ⊢
        obtain ⟨u1, u2, p1, q1, z1⟩ := e
        obtain ⟨A3, c3, rfl⟩ := OwnI.slice (show OwnI wr 0 u1 p1 from hwe.o1)
        obtain ⟨A4, c4, rfl⟩ := OwnI.slice (show OwnI wr 0 u2 q1 from hwe.o2)
        have BA := Lib.hid (BW.out.alloc BW.out.size (.cells #[.slice A3 p1.length c3, .slice A4 q1.length c4, .int .i64 z1] 60))
        have CX := Lib.hid (CE.out _ BA.out)
        have hbs := BW.out.size
        dsimp only at y0 y1 y2
        have X4 := Lib.hid (B4.out.below ((Below.refl _ _).alloc (Nat.le_refl _) (.cells #[.slice A3 p1.length c3, .slice A4 q1.length c4, .int .i64 z1] 60)))
        have X6 := Lib.hid (B6.out.below ((Below.refl _ _).alloc (Nat.le_refl _) (.cells #[.slice A3 p1.length c3, .slice A4 q1.length c4, .int .i64 z1] 60)))
        have HE := Lib.hid (show ∀ t, s ⟨.slice A3 p1.length c3, .slice A4 q1.length c4, p1, q1, z1⟩ = t → s ⟨.slice A3 p1.length c3, .slice A4 q1.length c4, p1, q1, z1⟩ = t from fun t h => h)
        generalize hx : s ⟨.slice A3 p1.length c3, .slice A4 q1.length c4, p1, q1, z1⟩ = x at CX NX
        have HX := Lib.hid hx
        clear hx HE CE BW B4 B6 hwe
        generalize hy : s l = y at NX ⊢
        have HY := Lib.hid hy
        clear hy
        go_wp2_with fail
        refine CX.out.mono ?_
        rintro e w3 ⟨rfl, b3⟩
        have BW3 := Lib.hid (BA.out.trans (b3.mono BA.out.size))
        have Z4 := Lib.hid (X4.out.below b3)
        have Z6 := Lib.hid (X6.out.below b3)
        obtain ⟨n0, n1_, n2_, -, -, -⟩ := newW b3
        clear CX X4 X6 b3 y0 y1 y2
        by_cases hxy : x < y
        · have N2 := Lib.hid (show l' = ⟨.slice A3 p1.length c3, .slice A4 q1.length c4, p1, q1, z1⟩ by rw [NX.out, if_pos hxy])
          obtain ⟨l1, l2, l3, l4, l5⟩ := l
          have m0 := Z6.out.c0
          have m1 := Z6.out.c1
          have m2 := Z6.out.c2
          have m3 := Z6.out.f0
          have m4 := Z6.out.f1
          have m5 := Z6.out.f2
          dsimp only at m0 m1 m2
          obtain ⟨D1, d1, rfl⟩ := OwnI.slice (show OwnI w 0 l1 l3 from hwb.o1)
          obtain ⟨D2, d2, rfl⟩ := OwnI.slice (show OwnI w 0 l2 l4 from hwb.o2)
          have G := put3_grown w3 g6 (.slice A3 p1.length c3) (.slice A4 q1.length c4) (.int .i64 z1)
          have W4 := Lib.hid (Z4.out.kept G (by omega))
          have W6 := Lib.hid (Z6.out.put (x' := .slice A3 p1.length c3) (y' := .slice A4 q1.length c4) (z' := .int .i64 z1))
          have WB := Lib.hid (BW3.out.grown G BW3.out.size (fun k e => by have := Option.some.inj e; omega))
          clear G Z4 Z6 BW3 NX hwb
          go_wp2
          exact ⟨⟨k + 1, by omega, by rw [HB1.out, N2.out, HX.out], by go_num, WB, W4, by rw [HB1.out, N2.out]; exact W6⟩, by simp [intOf]; omega⟩
        · have N2 := Lib.hid (show l' = l by rw [NX.out, if_neg hxy])
          clear NX hwb
          go_wp2
          exact ⟨⟨k + 1, by omega, by rw [HB1.out, N2.out, HY.out], by go_num, BW3, Z4, by rw [HB1.out, N2.out]; exact Z6⟩, by simp [intOf]; omega⟩
  have FIN : ∀ (g6 : Nat) (W : World), w.heap.size < g6 → Below w.heap.size w W → Bx3 W w.heap.size (.slice none 0 0) (.slice none 0 0) (.int .i64 0) → Bx3 W g6 (.slice none 0 0) (.slice none 0 0) (.int .i64 0) → K7 { tmps := #[.slice (some ⟨g, 0, none⟩) xs.length c, .func (.func K) #[] #[cap], undef, undef, .pointer (some ⟨w.heap.size, 0, none⟩), .int .i64 0, .pointer (some ⟨g6, 0, none⟩), .int .i64 (s ⟨.slice A1 p0.length c1, .slice A2 q0.length c2, p0, q0, z0⟩), undef, undef, undef, .slice (some ⟨g, 0, none⟩) xs.length c, .pointer (some ⟨g, 0, none⟩), .agg #[.slice A1 p0.length c1, .slice A2 q0.length c2, .int .i64 z0], .func (.func K) #[] #[cap], .slice (some ⟨g, 0, none⟩) xs.length c, .pointer (some ⟨g, 0, none⟩), .agg #[.slice A1 p0.length c1, .slice A2 q0.length c2, .int .i64 z0], .int .i64 (s ⟨.slice A1 p0.length c1, .slice A2 q0.length c2, p0, q0, z0⟩), undef, undef, undef, undef, undef, undef, undef, undef, undef, undef, undef, undef, undef, undef, undef, undef, undef, undef], defers := [] } (((W.setCell ⟨g6, 0, none⟩ (.slice A1 p0.length c1)).setCell ⟨g6, 1, none⟩ (.slice A2 q0.length c2)).setCell ⟨g6, 2, none⟩ (.int .i64 z0)) := by
    intro g6 W h6 hBW hb4 hb6
    have G := put3_grown W g6 (.slice A1 p0.length c1) (.slice A2 q0.length c2) (.int .i64 z0)
    exact REST g6 _ h6 (hBW.grown G hBW.size (fun k e => by have := Option.some.inj e; omega)) (hb4.kept G (by omega)) hb6.put
  have FN := Lib.hid FIN
  clear FIN REST hK7 HD H
  have HS1 := Lib.hid hs1
  clear hs1 hW1
  refine wp_region_held_drew (S := (fun W => W.cell? ⟨g, 0, none⟩ = some (.slice A1 p0.length c1) ∧ W.cell? ⟨g, 1, none⟩ = some (.slice A2 q0.length c2) ∧ W.cell? ⟨g, 2, none⟩ = some (.int .i64 z0))) (by kernel_rfl) (by have := X1.out; simpa using this) (fun hHeld => ?_)
  refine wpAnyH_take (i := 0) (v := .slice (some ⟨g, 0, none⟩) xs.length c) rfl (by kernel_rfl) (by kernel_rfl) (by kernel_rfl) (fun _ _ _ h => h) (Or.inl ⟨by rfl, by intro W hSw; (try dsimp only at hSw); go_simp⟩) hHeld ?_
  try simp only [Act.put, List.getElem_toArray, List.getElem_cons_succ, List.getElem_cons_zero, List.setIfInBounds_toArray, List.set_cons_zero, List.set_cons_succ]
  refine wpAnyH_take (i := 1) (v := .pointer (some ⟨g, 0, none⟩)) rfl (by kernel_rfl) (by kernel_rfl) (by kernel_rfl) (fun _ _ _ h => h) (Or.inl ⟨by rfl, by intro W hSw; (try dsimp only at hSw); go_simp⟩) hHeld ?_
  try simp only [Act.put, List.getElem_toArray, List.getElem_cons_succ, List.getElem_cons_zero, List.setIfInBounds_toArray, List.set_cons_zero, List.set_cons_succ]
  refine wpAnyH_take (i := 2) (v := .agg #[.slice A1 p0.length c1, .slice A2 q0.length c2, .int .i64 z0]) rfl (by kernel_rfl) (by kernel_rfl) (by kernel_rfl) (fun _ _ _ h => h) (Or.inl ⟨by rfl, by intro W hSw; (try dsimp only at hSw); go_simp⟩) hHeld ?_
  try simp only [Act.put, List.getElem_toArray, List.getElem_cons_succ, List.getElem_cons_zero, List.setIfInBounds_toArray, List.set_cons_zero, List.set_cons_succ]
  refine wpAnyH_take (i := 3) (v := .func (.func K) #[] #[cap]) rfl (by kernel_rfl) (by kernel_rfl) (by kernel_rfl) (fun _ _ _ h => h) (Or.inl ⟨by rfl, by intro W hSw; (try dsimp only at hSw); go_simp⟩) hHeld ?_
  try simp only [Act.put, List.getElem_toArray, List.getElem_cons_succ, List.getElem_cons_zero, List.setIfInBounds_toArray, List.set_cons_zero, List.set_cons_succ]
  refine wpAnyH_take (i := 4) (v := .slice (some ⟨g, 0, none⟩) xs.length c) rfl (by kernel_rfl) (by kernel_rfl) (by kernel_rfl) (fun _ _ _ h => h) (Or.inl ⟨by rfl, by intro W hSw; (try dsimp only at hSw); go_simp⟩) hHeld ?_
  try simp only [Act.put, List.getElem_toArray, List.getElem_cons_succ, List.getElem_cons_zero, List.setIfInBounds_toArray, List.set_cons_zero, List.set_cons_succ]
  refine wpAnyH_take (i := 5) (v := .pointer (some ⟨g, 0, none⟩)) rfl (by kernel_rfl) (by kernel_rfl) (by kernel_rfl) (fun _ _ _ h => h) (Or.inl ⟨by rfl, by intro W hSw; (try dsimp only at hSw); go_simp⟩) hHeld ?_
  try simp only [Act.put, List.getElem_toArray, List.getElem_cons_succ, List.getElem_cons_zero, List.setIfInBounds_toArray, List.set_cons_zero, List.set_cons_succ]
  refine wpAnyH_take (i := 6) (v := .agg #[.slice A1 p0.length c1, .slice A2 q0.length c2, .int .i64 z0]) rfl (by kernel_rfl) (by kernel_rfl) (by kernel_rfl) (fun _ _ _ h => h) (Or.inl ⟨by rfl, by intro W hSw; (try dsimp only at hSw); go_simp⟩) hHeld ?_
  try simp only [Act.put, List.getElem_toArray, List.getElem_cons_succ, List.getElem_cons_zero, List.setIfInBounds_toArray, List.set_cons_zero, List.set_cons_succ]
  refine wpAnyH_ready (rs := [7, 8]) (by kernel_rfl) (by simp) ?_
  refine AllReadyH.cons rfl (fun K hK => ?_) (AllReadyH.cons rfl (fun K hK => ?_) AllReadyH.nil)
  · go_simp
    refine (H0.out _ B1.out).mono ?_
    rintro e w2 ⟨rfl, b2⟩
    have B2 := Lib.hid (B1.out.trans (b2.mono B1.out.size))
    have X4 := Lib.hid ((X40.out).below b2)
    clear b2
    go_wp2_with fail
    refine hK.out _ _ (KEEP.out _ B2.out) (fun hHeld => ?_)
    clear hK K
    try simp only [Act.put, List.getElem_toArray, List.getElem_cons_succ, List.getElem_cons_zero, List.setIfInBounds_toArray, List.set_cons_zero, List.set_cons_succ]
    refine wpAnyH_ready (rs := [8]) (by kernel_rfl) (by simp) ?_
    refine AllReadyH.cons rfl (fun K hK => ?_) AllReadyH.nil
    go_simp
    go_wp2_with fail
    refine hK.out _ _ (KEEP.out _ (B2.out.alloc B2.out.size _)) (fun hHeld => ?_)
    clear hK K
    try simp only [Act.put, List.getElem_toArray, List.getElem_cons_succ, List.getElem_cons_zero, List.setIfInBounds_toArray, List.set_cons_zero, List.set_cons_succ]
    have h6 := B2.out.size
    have X6 := Lib.hid (Bx3.new w2 (.slice none 0 0) (.slice none 0 0) (.int .i64 0) 60)
    have B3 := Lib.hid (B2.out.alloc B2.out.size (.cells #[.slice none 0 0, .slice none 0 0, .int .i64 0] 60))
    have X4b := Lib.hid (X4.out.below ((Below.refl _ _).alloc (Nat.le_refl _) (.cells #[.slice none 0 0, .slice none 0 0, .int .i64 0] 60)))
    have h4 := X4.out.lt
    generalize hW3 : w2.alloc (.cells #[.slice none 0 0, .slice none 0 0, .int .i64 0] 60) = W3 at X6 B3 X4b hHeld ⊢
    generalize w2.heap.size = g6 at h6 h4 X6 ⊢
    refine wpAnyH_ready (rs := [9]) (by kernel_rfl) (by simp) ?_
    refine AllReadyH.cons rfl (fun K hK => ?_) AllReadyH.nil
    have q0_ := X6.out.c0
    have q1_ := X6.out.c1
    have q2_ := X6.out.c2
    have q3_ := X6.out.f0
    have q4_ := X6.out.f1
    have q5_ := X6.out.f2
    go_simp
    go_wp2_with fail
    refine hK.out _ _ (KEEP.out _ (B3.out.grown (put3_grown W3 g6 _ _ _) B3.out.size (fun k e => by have e2 : g6 = k := Option.some.inj e; have := HS1.out; omega))) (fun hHeld => ?_)
    clear hK K
    try simp only [Act.put, List.getElem_toArray, List.getElem_cons_succ, List.getElem_cons_zero, List.setIfInBounds_toArray, List.set_cons_zero, List.set_cons_succ]
    refine wpAnyH_ready (rs := [10]) (by kernel_rfl) (by simp) ?_
    refine AllReadyH.cons rfl (fun K hK => ?_) AllReadyH.nil
    go_simp
    go_wp2_with fail
    refine hK.out _ _ (KEEP.out _ (B3.out.grown (put3_grown W3 g6 _ _ _) B3.out.size (fun k e => by have e2 : g6 = k := Option.some.inj e; have := HS1.out; omega))) (fun hHeld => ?_)
    clear hK K
    try simp only [Act.put, List.getElem_toArray, List.getElem_cons_succ, List.getElem_cons_zero, List.setIfInBounds_toArray, List.set_cons_zero, List.set_cons_succ]
    refine wpAnyH_done (by kernel_rfl) ?_ _
    exact FN.out g6 W3 (by have := HS1.out; omega) B3.out X4b.out X6.out
  · go_simp
    go_wp2_with fail
    refine hK.out _ _ (KEEP.out _ (B1.out.alloc B1.out.size _)) (fun hHeld => ?_)
    clear hK K
    try simp only [Act.put, List.getElem_toArray, List.getElem_cons_succ, List.getElem_cons_zero, List.setIfInBounds_toArray, List.set_cons_zero, List.set_cons_succ]
    refine wpAnyH_ready (rs := [7]) (by kernel_rfl) (by simp) ?_
    refine AllReadyH.cons rfl (fun K hK => ?_) AllReadyH.nil
    go_simp
    refine (H0.out _ (B1.out.alloc B1.out.size _)).mono ?_
    rintro e w2 ⟨rfl, b2⟩
    have B2 := Lib.hid ((B1.out.alloc B1.out.size _).trans (b2.mono (B1.out.alloc B1.out.size _).size))
    have X4b := Lib.hid ((X40.out.below ((Below.refl _ _).alloc (Nat.le_refl _) (.cells #[.slice none 0 0, .slice none 0 0, .int .i64 0] 60))).below b2)
    have X6 := Lib.hid (show Bx3 w2 W1.heap.size (.slice none 0 0) (.slice none 0 0) (.int .i64 0) from (Bx3.new W1.drew (.slice none 0 0) (.slice none 0 0) (.int .i64 0) 60).below b2)
    clear b2
    go_wp2_with fail
    refine hK.out _ _ (KEEP.out _ B2.out) (fun hHeld => ?_)
    clear hK K
    try simp only [Act.put, List.getElem_toArray, List.getElem_cons_succ, List.getElem_cons_zero, List.setIfInBounds_toArray, List.set_cons_zero, List.set_cons_succ]
    refine wpAnyH_ready (rs := [9]) (by kernel_rfl) (by simp) ?_
    refine AllReadyH.cons rfl (fun K hK => ?_) AllReadyH.nil
    have q0_ := X6.out.c0
    have q1_ := X6.out.c1
    have q2_ := X6.out.c2
    have q3_ := X6.out.f0
    have q4_ := X6.out.f1
    have q5_ := X6.out.f2
    go_simp
    go_wp2_with fail
    refine hK.out _ _ (KEEP.out _ (B2.out.grown (put3_grown w2 W1.heap.size _ _ _) B2.out.size (fun k e => by have e2 : W1.heap.size = k := Option.some.inj e; have := HS1.out; omega))) (fun hHeld => ?_)
    clear hK K
    try simp only [Act.put, List.getElem_toArray, List.getElem_cons_succ, List.getElem_cons_zero, List.setIfInBounds_toArray, List.set_cons_zero, List.set_cons_succ]
    refine wpAnyH_ready (rs := [10]) (by kernel_rfl) (by simp) ?_
    refine AllReadyH.cons rfl (fun K hK => ?_) AllReadyH.nil
    go_simp
    go_wp2_with fail
    refine hK.out _ _ (KEEP.out _ (B2.out.grown (put3_grown w2 W1.heap.size _ _ _) B2.out.size (fun k e => by have e2 : W1.heap.size = k := Option.some.inj e; have := HS1.out; omega))) (fun hHeld => ?_)
    clear hK K
    try simp only [Act.put, List.getElem_toArray, List.getElem_cons_succ, List.getElem_cons_zero, List.setIfInBounds_toArray, List.set_cons_zero, List.set_cons_succ]
    refine wpAnyH_done (by kernel_rfl) ?_ _
    exact FN.out W1.heap.size w2 (by have := HS1.out; omega) B2.out X4b.out X6.out
end Go.Proofs.Ytanlfkkmnnjpeaa

/- The contract of the program's bestNext: the first of the best ways that can come next, and the changes. Condition: the ways' slices are the call's own; the row is not empty. -/
namespace Go.Proofs.Ytanlfkkmnnjpeaa
set_option linter.unusedVariables false
set_option linter.unusedSimpArgs false
open Go.RowKit

def sizeW (a l : RWay) : Int := changesB a.ps a.cs l.ps l.cs + l.ah
/-- A way whose rows are short and whose changes are few. -/
structure Low (l : RWay) : Prop where
  ps : l.ps.length ≤ 2000000
  cs : l.cs.length ≤ 2000000
  a0 : -1000000000000000 ≤ l.ah
  a1 : l.ah ≤ 1000000000000000

set_option maxRecDepth 100000 in
set_option maxHeartbeats 1600000 in
theorem nextLit (g : Nat) (a l : RWay) (P P' : Nat → Prop) (w : World) (ha : WayOk w P a) (hl : WayOk w P' l) (h0 : w.cell? ⟨g, 0, none⟩ = some a.u1) (h1 : w.cell? ⟨g, 1, none⟩ = some a.u2) (La : Low a) (Ll : Low l) :
    Calls Try.prog 65 #[l.agg, .pointer (some ⟨g, 0, none⟩)] w fun e w' => e = .returned (.int .i64 (sizeW a l)) ∧ Below w.heap.size w w' := by
  have HA := Lib.hid ha
  have HL := Lib.hid hl
  obtain ⟨u1, u2, p1, q1, z1⟩ := a
  obtain ⟨v1, v2, p2, q2, z2⟩ := l
  obtain ⟨A1, c1, rfl⟩ := OwnI.slice (show OwnI w 0 u1 p1 from ha.o1)
  obtain ⟨A2, c2, rfl⟩ := OwnI.slice (show OwnI w 0 u2 q1 from ha.o2)
  obtain ⟨A3, c3, rfl⟩ := OwnI.slice (show OwnI w 0 v1 p2 from hl.o1)
  obtain ⟨A4, c4, rfl⟩ := OwnI.slice (show OwnI w 0 v2 q2 from hl.o2)
  have CB := Lib.hid (fun W (hb : Below w.heap.size w W) => implChb (.slice A1 p1.length c1) (.slice A2 q1.length c2) (.slice A3 p2.length c3) (.slice A4 q2.length c4) p1 q1 p2 q2 0 0 0 0 W (HA.out.o1.below hb) (HA.out.o2.below hb) (HL.out.o1.below hb) (HL.out.o2.below hb) La.ps La.cs Ll.ps Ll.cs)
  have R := Lib.hid (show sizeW ⟨.slice A1 p1.length c1, .slice A2 q1.length c2, p1, q1, z1⟩ ⟨.slice A3 p2.length c3, .slice A4 q2.length c4, p2, q2, z2⟩ = changesB p1 q1 p2 q2 + z2 from rfl)
  have cm := changes_max (ps := p1) (cast := q1) (nx := p2) (af := q2) La.ps Ll.ps
  have z0 : -1000000000000000 ≤ z2 := Ll.a0
  have z1' : z2 ≤ 1000000000000000 := Ll.a1
  have ew : IntKind.i64.wrap (changesB p1 q1 p2 q2 + z2) = changesB p1 q1 p2 q2 + z2 := IntWalk.i64_in _ (by omega)
  obtain ⟨W1, hW1⟩ : ∃ W1, w.alloc (.cells #[.slice A3 p2.length c3, .slice A4 q2.length c4, .int .i64 z2] 60) = W1 := ⟨_, rfl⟩
  have B1 := Lib.hid (show Below w.heap.size w W1.drew by rw [← hW1]; exact ((Below.refl _ _).alloc (Nat.le_refl _) _).drew)
  have KEEP := Lib.hid (show ∀ W, Below W1.heap.size W1 W → W.cell? ⟨g, 0, none⟩ = some (.slice A1 p1.length c1) ∧ W.cell? ⟨g, 1, none⟩ = some (.slice A2 q1.length c2) ∧ W.cell? ⟨w.heap.size, 0, none⟩ = some (.slice A3 p2.length c3) ∧ W.cell? ⟨w.heap.size, 1, none⟩ = some (.slice A4 q2.length c4) ∧ W.cell? ⟨w.heap.size, 2, none⟩ = some (.int .i64 z2) from fun W hb => by
    rw [← hW1] at hb
    have hb2 : Below w.heap.size w W := ((Below.refl w.heap.size w).alloc (Nat.le_refl _) (.cells #[.slice A3 p2.length c3, .slice A4 q2.length c4, .int .i64 z2] 60)).trans (hb.mono (by simp))
    obtain ⟨n0, n1, n2, -, -, -⟩ := newW hb
    exact ⟨cell_below h0 hb2, cell_below h1 hb2, n0, n1, n2⟩)
  have X1 := Lib.hid (KEEP.out W1.drew (Below.refl _ _).drew)
  have HW := Lib.hid hW1
  clear hW1 ha hl La Ll h0 h1 cm z0 z1' HA HL
  unfold RWay.agg
  dsimp only
  generalize changesB p1 q1 p2 q2 = ch at CB R ew
  go_enter Try.func65, Try.ntmps65
  go_wp2_with fail
  rw [HW.out]
  go_region_held3 (fun W => W.cell? ⟨g, 0, none⟩ = some (.slice A1 p1.length c1) ∧ W.cell? ⟨g, 1, none⟩ = some (.slice A2 q1.length c2) ∧ W.cell? ⟨w.heap.size, 0, none⟩ = some (.slice A3 p2.length c3) ∧ W.cell? ⟨w.heap.size, 1, none⟩ = some (.slice A4 q2.length c4) ∧ W.cell? ⟨w.heap.size, 2, none⟩ = some (.int .i64 z2))
    (first | exact X1.out | exact X2.out)
    (first | (go_at_call 20; refine (CB.out _ B1.out).mono ?_; rintro e w2 ⟨rfl, b2⟩; have B2 := Lib.hid (B1.out.trans (b2.mono B1.out.size)); have X2 := Lib.hid (KEEP.out w2 (undrew b2)); clear b2))
  go_wp2
  go_ret
  exact ⟨by rw [R.out]; rfl, B2.out⟩

set_option maxRecDepth 100000 in
set_option maxHeartbeats 1600000 in
theorem implBxt (a : RWay) (P P' : Nat → Prop) (v : Value) (xs : List RWay) (w : World) (ha : WayOk w P a) (h : View w P' v xs) (hl : xs.length ≤ 100000) (hn : 1 ≤ xs.length) (La : Low a) (Ll : ∀ l ∈ xs, Low l) :
    Calls Try.prog 43 #[a.agg, v] w fun e w' => e = .returned (.tuple #[(bestW (sizeW a) xs).agg, .int .i64 (sizeW a (bestW (sizeW a) xs))]) ∧ Below w.heap.size w w' := by
  have hmf : ∀ (fn : Fn) (first cap : Array Value) (w : World), (Instr.makeFunc fn first cap).run Try.prog w = .ok (.func fn first cap) w := fun _ _ _ _ => rfl
  have H := Lib.hid h
  obtain ⟨u1, u2, p1, q1, z1⟩ := a
  obtain ⟨A1, c1, rfl⟩ := OwnI.slice (show OwnI w 0 u1 p1 from ha.o1)
  obtain ⟨A2, c2, rfl⟩ := OwnI.slice (show OwnI w 0 u2 q1 from ha.o2)
  obtain ⟨A, c, rfl⟩ := h.slice
  obtain ⟨W2, hW⟩ : ∃ W, (w.alloc (.cells #[.slice A1 p1.length c1, .slice A2 q1.length c2, .int .i64 z1] 60)).alloc (.cells #[.slice none 0 0, .slice none 0 0, .int .i64 0] 60) = W := ⟨_, rfl⟩
  have BA := Lib.hid (show Below w.heap.size w W2 by rw [← hW]; exact ((Below.refl w.heap.size w).alloc (Nat.le_refl _) _).alloc (by simp) _)
  have X0 := Lib.hid (show ∀ W, Below W2.heap.size W2 W → W.cell? ⟨w.heap.size, 0, none⟩ = some (.slice A1 p1.length c1) ∧ W.cell? ⟨w.heap.size, 1, none⟩ = some (.slice A2 q1.length c2) from fun W hb => by
    rw [← hW] at hb
    obtain ⟨n0, n1, -, -, -, -⟩ := newW (((Below.refl _ (w.alloc (.cells #[.slice A1 p1.length c1, .slice A2 q1.length c2, .int .i64 z1] 60))).alloc (Nat.le_refl _) (.cells #[.slice none 0 0, .slice none 0 0, .int .i64 0] 60)).trans (hb.mono (by simp)))
    exact ⟨n0, n1⟩)
  have X4 := Lib.hid (show ∀ W, Below W2.heap.size W2 W → Bx3 W (w.heap.size + 1) (.slice none 0 0) (.slice none 0 0) (.int .i64 0) from fun W hb => by
    have q := Bx3.new (w.alloc (.cells #[.slice A1 p1.length c1, .slice A2 q1.length c2, .int .i64 z1] 60)) (.slice none 0 0) (.slice none 0 0) (.int .i64 0) 60
    rw [hW, World.size_alloc] at q
    exact q.below hb)
  have C := Lib.hid (leastOf_any 65 (.pointer (some ⟨w.heap.size, 0, none⟩)) (sizeW ⟨.slice A1 p1.length c1, .slice A2 q1.length c2, p1, q1, z1⟩) (enters_of Try.func65 (by kernel_rfl) rfl) (.slice A xs.length c) xs P' W2 (h.below BA.out) hl hn
    (fun l hm W hb => nextLit w.heap.size ⟨.slice A1 p1.length c1, .slice A2 q1.length c2, p1, q1, z1⟩ l P P' W (ha.below (BA.out.trans (hb.mono BA.out.size))) ((h.below (BA.out.trans (hb.mono BA.out.size))).ok l hm) (X0.out W hb).1 (X0.out W hb).2 La (Ll l hm)))
  have hwb := (h.ok _ (bestAt_mem (sizeW ⟨.slice A1 p1.length c1, .slice A2 q1.length c2, p1, q1, z1⟩) (xs := xs) (k := xs.length - 1) (by omega)))
  have HW := Lib.hid hW
  have hsz : W2.heap.size = w.heap.size + 2 := by rw [← hW]; simp
  have HS := Lib.hid hsz
  clear hW ha h La Ll X0 hsz
  rw [show bestAt (sizeW ⟨.slice A1 p1.length c1, .slice A2 q1.length c2, p1, q1, z1⟩) xs (xs.length - 1) = bestW (sizeW ⟨.slice A1 p1.length c1, .slice A2 q1.length c2, p1, q1, z1⟩) xs from rfl] at hwb
  generalize sizeW ⟨.slice A1 p1.length c1, .slice A2 q1.length c2, p1, q1, z1⟩ = sz at C hwb ⊢
  generalize bestW sz xs = l at C hwb ⊢
  generalize sz l = t at C ⊢
  obtain ⟨v1, v2, p2, q2, z2⟩ := l
  obtain ⟨A3, c3, rfl⟩ := OwnI.slice (show OwnI w 0 v1 p2 from hwb.o1)
  obtain ⟨A4, c4, rfl⟩ := OwnI.slice (show OwnI w 0 v2 q2 from hwb.o2)
  clear hwb H
  unfold RWay.agg at C ⊢
  dsimp only at C ⊢
  generalize p1.length = n1 at *
  generalize q1.length = n2 at *
  generalize xs.length = n3 at *
  go_enter Try.func43, Try.ntmps43
  go_wp2_with fail
  rw [HW.out]
  refine C.out.mono ?_
  rintro e w3 ⟨rfl, b3⟩
  have B3 := Lib.hid (BA.out.trans (b3.mono BA.out.size))
  have Z4 := Lib.hid (X4.out w3 b3)
  have P4 := Lib.hid (Z4.out.put (x' := .slice A3 p2.length c3) (y' := .slice A4 q2.length c4) (z' := .int .i64 z2))
  have PB := Lib.hid (B3.out.grown (put3_grown w3 (w.heap.size + 1) (.slice A3 p2.length c3) (.slice A4 q2.length c4) (.int .i64 z2)) B3.out.size (fun k e => by have := Option.some.inj e; omega))
  have d0 := Z4.out.c0
  have d1 := Z4.out.c1
  have d2 := Z4.out.c2
  have e0 := Z4.out.f0
  have e1 := Z4.out.f1
  have e2 := Z4.out.f2
  clear X4 C b3 Z4
  go_wp2
  clear d0 d1 d2 e0 e1 e2
  generalize (((w3.setCell ⟨w.heap.size + 1, 0, none⟩ (.slice A3 p2.length c3)).setCell ⟨w.heap.size + 1, 1, none⟩ (.slice A4 q2.length c4)).setCell ⟨w.heap.size + 1, 2, none⟩ (.int .i64 z2)) = W9 at P4 PB ⊢
  have r0 := P4.out.c0
  have r1 := P4.out.c1
  have r2 := P4.out.c2
  refine bodyPost_ret (v := .tuple #[.agg #[.slice A3 p2.length c3, .slice A4 q2.length c4, .int .i64 z2], .int .i64 t]) (by simp [results, Try.results43, go_sem, r0, r1, r2]) rfl ⟨rfl, PB.out⟩
end Go.Proofs.Ytanlfkkmnnjpeaa

/- The ways of all moments from the end of the night on: the best next way's changes are the least sums, and the best night is the first of the best ways, moment by moment. No condition. -/
namespace Go.Proofs.Ytanlfkkmnnjpeaa
set_option linter.unusedVariables false
set_option linter.unusedSimpArgs false
open Go.RowKit

/-- These are the ways of moment m. -/
def IsWays (ls : List RPlayer) (nt : List (List Int)) (m : Nat) (xs : List RWay) : Prop :=
  xs.length = (csM ls nt m).length ∧ ∀ i, i < xs.length → (xs.getD i RWay.zero).ps = nt.getD m [] ∧ (xs.getD i RWay.zero).cs = (csM ls nt m).getD i [] ∧ (xs.getD i RWay.zero).ah = (costAt ls nt m).getD i 0
def sz (ps cs : List Int) (l : RWay) : Int := changesB ps cs l.ps l.cs + l.ah
theorem sizeW_sz (a : RWay) : sizeW a = sz a.ps a.cs := rfl
theorem best_facts (s : RWay → Int) {xs : List RWay} (h : 1 ≤ xs.length) : ∃ b, b < xs.length ∧ bestW s xs = xs.getD b RWay.zero ∧ ∀ j, j < xs.length → s (xs.getD b RWay.zero) ≤ s (xs.getD j RWay.zero) ∧ (j < b → s (xs.getD b RWay.zero) < s (xs.getD j RWay.zero)) := by
  refine ⟨bestIx s xs (xs.length - 1), ?_, rfl, fun j hj => ?_⟩
  · have := leastK_le (fun i => s (xs.getD i RWay.zero)) (xs.length - 1)
    unfold bestIx
    omega
  · exact leastK_is (fun i => s (xs.getD i RWay.zero)) (xs.length - 1) j (by omega)
theorem chTo_nil (ps c : List Int) : ∀ i, chTo ps c [] [] i = 0 := by
  intro i
  induction i with
  | zero => rfl
  | succ i ih => rw [chTo, ih]; rfl
section
variable {ls : List RPlayer} {nt : List (List Int)}
theorem ah_next {m : Nat} (hm : m + 1 < nt.length) {i : Nat} (hi : i < (csM ls nt m).length) {xs : List RWay} (hx : IsWays ls nt (m + 1) xs) (hne : 1 ≤ xs.length) (hc : ∀ k, k < xs.length → 0 ≤ (costAt ls nt (m + 1)).getD k 0) :
    sz (nt.getD m []) ((csM ls nt m).getD i []) (bestW (sz (nt.getD m []) ((csM ls nt m).getD i [])) xs) = (costAt ls nt m).getD i 0 := by
  obtain ⟨b, hb, e, H⟩ := best_facts (sz (nt.getD m []) ((csM ls nt m).getD i [])) hne
  rw [e]
  have C := cost_step hm hi
  have S : ∀ k, k < xs.length → sz (nt.getD m []) ((csM ls nt m).getD i []) (xs.getD k RWay.zero) = (costAt ls nt (m + 1)).getD k 0 + changesB (nt.getD m []) ((csM ls nt m).getD i []) (nt.getD (m + 1) []) ((csM ls nt (m + 1)).getD k []) := fun k hk => by
    obtain ⟨a1, a2, a3⟩ := hx.2 k hk
    unfold sz
    rw [a1, a2, a3]
    omega
  have c1 := C.2 b (by rw [← hx.1]; exact hb) (hc b hb)
  obtain ⟨k, hk, _, c2⟩ := C.1 c1.1
  have hk' : k < xs.length := by rw [hx.1]; exact hk
  have c3 := (H k hk').1
  rw [S b hb] at c3 ⊢
  rw [S k hk'] at c3
  omega
theorem ah_last {m : Nat} (hm : m + 1 = nt.length) {i : Nat} (hi : i < (csM ls nt m).length) :
    sz (nt.getD m []) ((csM ls nt m).getD i []) (bestW (sz (nt.getD m []) ((csM ls nt m).getD i [])) [RWay.zero]) = (costAt ls nt m).getD i 0 := by
  rw [cost_last ls hm hi, show bestW (sz (nt.getD m []) ((csM ls nt m).getD i [])) [RWay.zero] = RWay.zero from rfl]
  have h := cast_len (cs_cast (ls := ls) (nt := nt) (m := m) (by omega) hi)
  unfold sz
  show changesB (nt.getD m []) ((csM ls nt m).getD i []) [] [] + 0 = 0
  unfold changesB
  rw [if_pos ⟨h.symm, rfl⟩, chTo_nil]
  rfl
theorem zero_size {m : Nat} (hm : m < nt.length) {xs : List RWay} (hx : IsWays ls nt m xs) {k : Nat} (hk : k < xs.length) : sizeW RWay.zero (xs.getD k RWay.zero) = (costAt ls nt m).getD k 0 := by
  obtain ⟨a1, a2, a3⟩ := hx.2 k hk
  have h := cast_len (cs_cast (ls := ls) (nt := nt) hm (by rw [← hx.1]; exact hk))
  unfold sizeW
  rw [a1, a2, a3]
  show changesB [] [] _ _ + _ = _
  unfold changesB
  rw [if_pos ⟨rfl, h.symm⟩]
  show (0 : Int) + _ = _
  omega
theorem few_first (hok : nightOk ls nt = true) {xs : List RWay} (hx : IsWays ls nt 0 xs) (hne : 1 ≤ xs.length) (hc : ∀ k, k < xs.length → 0 ≤ (costAt ls nt 0).getD k 0) : sizeW RWay.zero (bestW (sizeW RWay.zero) xs) = fewest ls nt := by
  have hn := (night_has hok).1
  obtain ⟨b, hb, e, H⟩ := best_facts (sizeW RWay.zero) hne
  have F := few_is (costAt ls nt 0) (costAt ls nt 0).length
  have hl := costAt_len ls (nt := nt) (m := 0) (by omega)
  rw [e, few_eq hok]
  have f1 := F.2.1 b (by rw [hl, ← hx.1]; exact hb) (hc b hb)
  obtain ⟨k, hk, f2⟩ := F.1 f1.1
  have hk' : k < xs.length := by rw [hx.1, ← hl]; exact hk
  have c3 := (H k hk').1
  rw [zero_size (by omega) hx hb] at c3 ⊢
  rw [zero_size (by omega) hx hk'] at c3
  omega
end
/-- The way that the best night takes at each moment, one moment later. -/
def atS (X : Nat → List RWay) : Nat → RWay
  | 0 => RWay.zero
  | m + 1 => bestW (sizeW (atS X m)) (X m)
theorem range_getD (f : Nat → List Int) {n k : Nat} (h : k < n) : ((List.range n).map f).getD k [] = f k := by
  rw [List.getD_eq_getElem?_getD, List.getElem?_eq_getElem (by simpa using h)]
  simp
section
variable {ls : List RPlayer} {nt : List (List Int)} {X : Nat → List RWay} (hok : nightOk ls nt = true) (hX : ∀ m, m < nt.length → IsWays ls nt m (X m) ∧ 1 ≤ (X m).length)
include hX
theorem costs_pos {m : Nat} (hm : m < nt.length) {k : Nat} (hk : k < (X m).length) : 0 ≤ (costAt ls nt m).getD k 0 :=
  cost_all (fun m hm => by rw [← (hX m hm).1.1]; exact (hX m hm).2) (nt.length - 1 - m) m (by omega) k (by rw [← (hX m hm).1.1]; exact hk)
include hok
theorem night_seq : ∀ m, m ≤ nt.length → nightTo ls nt m = ((List.range m).map (fun k => (atS X (k + 1)).cs), if m = 0 then fewest ls nt else (atS X m).ah) ∧ (1 ≤ m → ∃ i, i < (X (m - 1)).length ∧ atS X m = (X (m - 1)).getD i RWay.zero) := by
  intro m
  induction m with
  | zero => intro _; exact ⟨rfl, fun h => absurd h (by omega)⟩
  | succ m ih =>
    intro hm
    obtain ⟨e, q⟩ := ih (by omega)
    obtain ⟨hx, hne⟩ := hX m (by omega)
    obtain ⟨b, hb, eb, H⟩ := best_facts (sizeW (atS X m)) hne
    -- what a pick compares
    have key : (∀ k, k < (X m).length → stepAt nt m ((nightTo ls nt m).1.getD (m - 1) []) ((csM ls nt m).getD k []) + (costAt ls nt m).getD k 0 = sizeW (atS X m) ((X m).getD k RWay.zero)) ∧ (nightTo ls nt m).2 = sizeW (atS X m) ((X m).getD b RWay.zero) := by
      rw [e]
      rcases Nat.eq_zero_or_pos m with m0 | m1
      · subst m0
        refine ⟨fun k hk => ?_, ?_⟩
        · rw [show atS X 0 = RWay.zero from rfl, zero_size (by omega) hx hk]
          unfold stepAt
          rw [if_neg (by omega)]
          omega
        · rw [← eb]
          exact (few_first hok hx hne (fun k hk => costs_pos hX (by omega) hk)).symm
      · obtain ⟨i, hi, ei⟩ := q m1
        obtain ⟨m', rfl⟩ : ∃ m', m = m' + 1 := ⟨m - 1, by omega⟩
        rw [Nat.add_sub_cancel] at hi ei
        obtain ⟨hx', _⟩ := hX m' (by omega)
        obtain ⟨a1, a2, a3⟩ := hx'.2 i hi
        rw [← ei] at a1 a2 a3
        refine ⟨fun k hk => ?_, ?_⟩
        · obtain ⟨c1, c2, c3⟩ := hx.2 k hk
          show stepAt nt (m' + 1) (((List.range (m' + 1)).map (fun k => (atS X (k + 1)).cs)).getD (m' + 1 - 1) []) _ + _ = _
          rw [Nat.add_sub_cancel, range_getD _ (by omega)]
          unfold stepAt sizeW
          rw [if_pos (by omega), Nat.add_sub_cancel, c1, c2, c3, a1]
        · rw [if_neg (by omega), ← eb, sizeW_sz, a1, a2, a3]
          exact (ah_next (by omega) (by rw [← hx'.1]; exact hi) hx hne (fun k hk => costs_pos hX (by omega) hk)).symm
    obtain ⟨k1, k2⟩ := key
    have hF : firstIx (pickAt ls nt m ((nightTo ls nt m).1.getD (m - 1) []) (nightTo ls nt m).2) (csM ls nt m).length = some b := by
      refine firstIx_is (fun j hj => ?_) ?_ _ (by rw [← hx.1]; exact hb)
      · unfold pickAt
        have := (H j (by omega)).2 hj
        rw [k1 j (by omega), k2, decide_eq_false (p := sizeW (atS X m) ((X m).getD j RWay.zero) = _) (by omega), Bool.and_false]
      · unfold pickAt
        rw [k1 b hb, k2, decide_eq_true (costs_pos hX (by omega) hb), decide_eq_true rfl]
        rfl
    have hN : nightTo ls nt (m + 1) = ((nightTo ls nt m).1 ++ [(csM ls nt m).getD b []], (costAt ls nt m).getD b 0) := by
      rw [nightTo, hF]
    have hA : atS X (m + 1) = (X m).getD b RWay.zero := by rw [atS, eb]
    obtain ⟨c1, c2, c3⟩ := hx.2 b hb
    refine ⟨?_, fun _ => ⟨b, hb, hA⟩⟩
    rw [hN, if_neg (by omega), hA, c3, e, List.range_succ, List.map_append]
    show _ = ((List.range m).map _ ++ [(atS X (m + 1)).cs], _)
    rw [hA, c2]
theorem best_seq : bestNight ls nt = ((List.range nt.length).map (fun k => (atS X (k + 1)).cs), true) := by
  have h0 : 0 ≤ fewest ls nt := (few_can hok).2 fun m hm => by rw [← (hX m hm).1.1]; exact (hX m hm).2
  unfold bestNight
  rw [if_neg (by omega), (night_seq hok hX nt.length (Nat.le_refl _)).1]
theorem few_seq : fewest ls nt = sizeW RWay.zero (bestW (sizeW RWay.zero) (X 0)) := by
  have hn := (night_has hok).1
  obtain ⟨hx, hne⟩ := hX 0 (by omega)
  exact (few_first hok hx hne (fun k hk => costs_pos hX (by omega) hk)).symm
end
theorem few_none {ls : List RPlayer} {nt : List (List Int)} (hok : nightOk ls nt = true) {m : Nat} (hm : m < nt.length) (h : csM ls nt m = []) : fewest ls nt = -1 ∧ bestNight ls nt = ([], false) := by
  have h1 : fewest ls nt < 0 := by
    rcases Int.lt_or_le (fewest ls nt) 0 with c | c
    · exact c
    · have := (few_can hok).1 c m hm
      rw [h] at this
      simp at this
  have F := (few_is (costAt ls nt 0) (costAt ls nt 0).length).2.2
  rw [← few_eq hok] at F
  refine ⟨by omega, ?_⟩
  unfold bestNight
  rw [if_pos h1]
end Go.Proofs.Ytanlfkkmnnjpeaa

/- Two blocks that are kept; a box of one value. No condition. -/
namespace Go.Proofs.Ytanlfkkmnnjpeaa
set_option linter.unusedVariables false
set_option linter.unusedSimpArgs false
open Go.RowKit

/-- Two blocks are kept. -/
def Keep2 (b1 b2 : Nat) (W W' : World) : Prop := ∀ (a : Addr) (v : Value), a.block = b1 ∨ a.block = b2 → W.cell? a = some v → W'.cell? a = some v
theorem Keep2.refl (b1 b2 : Nat) (W : World) : Keep2 b1 b2 W W := fun _ _ _ h => h
theorem Keep2.trans {b1 b2 : Nat} {A B C : World} (h : Keep2 b1 b2 A B) (k : Keep2 b1 b2 B C) : Keep2 b1 b2 A C := fun a v hb hc => k a v hb (h a v hb hc)
theorem Keep2.grown {b1 b2 : Nat} {A B : World} {row : Option Nat} (hg : A.grownBy B row) (h1 : some b1 ≠ row) (h2 : some b2 ≠ row) : Keep2 b1 b2 A B := fun a v hb hc => hg.cell hc (by
  rcases hb with e | e <;> rw [e]
  · exact h1
  · exact h2)
theorem Keep2.put {b1 b2 : Nat} (W : World) (l : Nat) (o o' : Obj) (h : W.heap[l]? = some o) (ho : o.isCells = false) : Keep2 b1 b2 W (W.putObj l o') := fun a v hb hc =>
  cell_kept hc (grownBy_putObj' W l o') (fun r e => by cases e; exact ⟨o, h, ho⟩)
/-- A box of one value that may be written. -/
def Bx (W : World) (b : Nat) (v : Value) : Prop := W.cell? ⟨b, 0, none⟩ = some v ∧ W.frozen? ⟨b, 0, none⟩ = false
section
variable {W W' : World} {b : Nat} {v : Value}
theorem Bx.below (h : Bx W b v) (hb : Below W.heap.size W W') : Bx W' b v := ⟨cell_below h.1 hb, (hb.frozen (World.block_lt_of_cell? W _ h.1)).trans h.2⟩
theorem Bx.new (W : World) (v : Value) (t : TypeId) : Bx (W.alloc (.cells #[v] t)) W.heap.size v := ⟨by simp [go_sem], by simp [go_sem]⟩
theorem Bx.alloc (h : Bx W b v) (o : Obj) : Bx (W.alloc o) b v := h.below ((Below.refl _ _).alloc (Nat.le_refl _) _)
end
end Go.Proofs.Ytanlfkkmnnjpeaa

/- What lies in memory while the program walks back through the night: boxes, the table of the moments' ways, the ways that come next. No condition. -/
namespace Go.Proofs.Ytanlfkkmnnjpeaa
set_option linter.unusedVariables false
set_option linter.unusedSimpArgs false
open Go.RowKit

/-- Blocks in which a way's slices may lie: no variable's, no moment's row. -/
def PV (w : World) (n B0 : Nat) (V : Nat → Value) (W : World) (i : Nat) : Prop := (i < w.heap.size ∨ B0 ≤ i) ∧ i < W.heap.size ∧ ∀ m, m < n → (V m).ownBlock ≠ some i
/-- The blocks of the variables lie apart. -/
structure VarA (w : World) (g2 g4 g5 g6 gw B0 : Nat) : Prop where
  lo : w.heap.size ≤ g2 ∧ w.heap.size ≤ g4 ∧ w.heap.size ≤ g5 ∧ w.heap.size ≤ g6 ∧ w.heap.size ≤ gw
  hi : g2 < B0 ∧ g4 < B0 ∧ g5 < B0 ∧ g6 < B0 ∧ gw < B0
  n6 : g6 ≠ g2 ∧ g6 ≠ g4 ∧ g6 ≠ g5 ∧ g6 ≠ gw
  nw : gw ≠ g2 ∧ gw ≠ g4 ∧ gw ≠ g5
structure MW (w : World) (n g2 g4 g5 g6 gw B0 : Nat) (lv : Value) (W : World) (V : Nat → Value) (T : Nat → List RWay) (vn : Value) (nx : List RWay) : Prop where
  c2 : W.cell? ⟨g2, 0, none⟩ = some lv
  c4 : Bx W g4 (.slice none 0 0)
  c5 : W.cell? ⟨g5, 0, none⟩ = some (.slice (some ⟨gw, 0, none⟩) n n)
  c6 : Bx W g6 vn
  row : ∀ m, m < n → W.cell? ⟨gw, m, none⟩ = some (V m) ∧ W.frozen? ⟨gw, m, none⟩ = false ∧ OwnW W B0 (PV w n B0 V W) (V m) (T m)
  ap : ∀ i j, i < n → j < n → i ≠ j → (V i).ownBlock = none ∨ (V i).ownBlock ≠ (V j).ownBlock
  nxt : View W (PV w n B0 V W) vn nx
  one : 1 ≤ nx.length
  ald : ∀ m, m < n → ∀ b, (V m).ownBlock = some b → vn.ownBlock = some b → nx.length ≤ (T m).length
  vnb : ∀ b, vn.ownBlock = some b → b ≠ g4 ∧ b ≠ g6 ∧ b ≠ gw
  top : B0 ≤ W.heap.size
  be : Below w.heap.size w W
def upd {α : Type} (f : Nat → α) (m : Nat) (x : α) : Nat → α := fun j => if j = m then x else f j
theorem upd_same {α : Type} (f : Nat → α) (m : Nat) (x : α) : upd f m x m = x := if_pos rfl
theorem upd_other {α : Type} (f : Nat → α) {m j : Nat} (x : α) (h : j ≠ m) : upd f m x j = f j := if_neg h
section
variable {w W W' : World} {n g2 g4 g5 g6 gw B0 : Nat} {lv : Value} {V : Nat → Value} {T : Nat → List RWay} {vn : Value} {nx : List RWay}
theorem PV.more {i : Nat} (h : PV w n B0 V W i) (hs : W.heap.size ≤ W'.heap.size) : PV w n B0 V W' i := ⟨h.1, by have := h.2.1; omega, h.2.2⟩
theorem Bx.in {b : Nat} {v : Value} {Q : Nat → Prop} (h : Bx W b v) (g : GrownIn W W' Q) (hq : ¬ Q b) : Bx W' b v := by
  refine ⟨g.cell h.1 hq, ?_⟩
  have e : W'.heap[b]? = W.heap[b]? := g.block b (World.block_lt_of_cell? W _ h.1) hq
  have f : W'.frozen? ⟨b, 0, none⟩ = W.frozen? ⟨b, 0, none⟩ := by unfold World.frozen?; simp only [e]
  exact f.trans h.2
theorem frozen_in {p : Addr} {v : Value} {Q : Nat → Prop} (g : GrownIn W W' Q) (hc : W.cell? p = some v) (hq : ¬ Q p.block) : W'.frozen? p = W.frozen? p := by
  have e : W'.heap[p.block]? = W.heap[p.block]? := g.block p.block (World.block_lt_of_cell? W _ hc) hq
  unfold World.frozen?
  simp only [e]
theorem MW.below (h : MW w n g2 g4 g5 g6 gw B0 lv W V T vn nx) (hb : Below W.heap.size W W') : MW w n g2 g4 g5 g6 gw B0 lv W' V T vn nx :=
  ⟨cell_below h.c2 hb, h.c4.below hb, cell_below h.c5 hb, h.c6.below hb, fun m hm => by
    obtain ⟨a, b, c⟩ := h.row m hm
    exact ⟨cell_below a hb, (hb.frozen (World.block_lt_of_cell? W _ a)).trans b, (c.below hb).widen (fun i p => p.more hb.size)⟩,
   h.ap, (h.nxt.below hb).widen (fun i p => p.more hb.size), h.one, h.ald, h.vnb, Nat.le_trans h.top hb.size, h.be.trans (hb.mono h.be.size)⟩
/-- What only turns blocks that are none of these. -/
theorem MW.out {Q : Nat → Prop} (h : MW w n g2 g4 g5 g6 gw B0 lv W V T vn nx) (A : VarA w g2 g4 g5 g6 gw B0) (g : GrownIn W W' Q) (hq : ∀ i, i < B0 → ¬ Q i) (hv : ∀ m, m < n → ∀ b, (V m).ownBlock = some b → ¬ Q b) (hn : ∀ b, vn.ownBlock = some b → ¬ Q b) (hp : ∀ i, PV w n B0 V W i → ¬ Q i) : MW w n g2 g4 g5 g6 gw B0 lv W' V T vn nx :=
  ⟨g.cell h.c2 (hq _ A.hi.1), h.c4.in g (hq _ A.hi.2.1), g.cell h.c5 (hq _ A.hi.2.2.1), h.c6.in g (hq _ A.hi.2.2.2.1), fun m hm => by
    obtain ⟨a, b, c⟩ := h.row m hm
    exact ⟨g.cell a (hq _ A.hi.2.2.2.2), (frozen_in g a (hq _ A.hi.2.2.2.2)).trans b, (c.in g (hv m hm) hp).widen (fun i p => p.more g.size)⟩,
   h.ap, (h.nxt.keep g.size (fun q e j u _ hc => g.cell hc (hn q e)) (fun l hl => (h.nxt.ok l hl).in g hp)).widen (fun i p => p.more g.size), h.one, h.ald, h.vnb, Nat.le_trans h.top g.size,
   g.below h.be h.be.size (fun k e => by
     rcases Nat.lt_or_ge k w.heap.size with q | q
     · exact absurd e (hq k (by have := A.lo.1; have := A.hi.1; omega))
     · exact q)⟩
/-- The way ahead: a row of some moment is what comes next. -/
theorem MW.next (h : MW w n g2 g4 g5 g6 gw B0 lv W V T vn nx) (A : VarA w g2 g4 g5 g6 gw B0) {m : Nat} (hm : m < n) (h1 : 1 ≤ (T m).length) : MW w n g2 g4 g5 g6 gw B0 lv (W.setCell ⟨g6, 0, none⟩ (V m)) V T (V m) (T m) := by
  have g := grownIn_cell W ⟨g6, 0, none⟩ (V m)
  obtain ⟨l1, l2, l3, l4, l5⟩ := A.lo
  obtain ⟨u1, u2, u3, u4, u5⟩ := A.hi
  obtain ⟨n1, n2, n3, n4⟩ := A.n6
  have hsz : (W.setCell ⟨g6, 0, none⟩ (V m)).heap.size = W.heap.size := by simp [World.setCell]
  have hp : ∀ i, PV w n B0 V W i → ¬ (g6 = i) := fun i p e => by rcases p.1 with q | q <;> omega
  have hv : ∀ j, j < n → ∀ b, (V j).ownBlock = some b → ¬ (g6 = b) := fun j hj b e q => by have := ((h.row j hj).2.2.lt b e).1; omega
  have R : ∀ j, j < n → (W.setCell ⟨g6, 0, none⟩ (V m)).cell? ⟨gw, j, none⟩ = some (V j) ∧ (W.setCell ⟨g6, 0, none⟩ (V m)).frozen? ⟨gw, j, none⟩ = false ∧ OwnW (W.setCell ⟨g6, 0, none⟩ (V m)) B0 (PV w n B0 V (W.setCell ⟨g6, 0, none⟩ (V m))) (V j) (T j) := fun j hj => by
    obtain ⟨a, b, c⟩ := h.row j hj
    exact ⟨g.cell a (show ¬ (g6 = gw) from n4), (frozen_in g a (show ¬ (g6 = gw) from n4)).trans b, (c.in g (hv j hj) hp).widen (fun i p => p.more g.size)⟩
  refine ⟨g.cell h.c2 (show ¬ (g6 = g2) from n1), h.c4.in g (show ¬ (g6 = g4) from n2), g.cell h.c5 (show ¬ (g6 = g5) from n3), ⟨World.cell?_setCell_same _ _ _ h.c6.1, ?_⟩, R, h.ap, (R m hm).2.2.view h1, h1, fun j hj b e1 e2 => ?_, fun b e => ?_, by rw [hsz]; exact h.top, g.below h.be h.be.size (fun k e => by have e2 : g6 = k := e; omega)⟩
  · have f := h.c6.2
    simp [go_sem, f]
  · by_cases q : j = m
    · subst q; exact Nat.le_refl _
    · exact absurd (e1.trans e2.symm) (by
        rcases h.ap j m hj hm q with z | z
        · rw [z] at e1; cases e1
        · exact z)
  · have := ((h.row m hm).2.2.lt b e).1
    exact ⟨by omega, by omega, by omega⟩
/-- One way more at moment m. -/
theorem MW.push {W2 : World} {m : Nat} {v' : Value} {l : RWay} (h : MW w n g2 g4 g5 g6 gw B0 lv W V T vn nx) (A : VarA w g2 g4 g5 g6 gw B0) (hm : m < n) (o : OwnW W2 B0 (PV w n B0 V W) v' (T m ++ [l])) (hg : W.grownBy W2 (V m).ownBlock) (hat : v'.ownBlock = (V m).ownBlock ∨ v'.ownBlock = some W.heap.size)
    (eld : ∀ g j u, W.cell? ⟨g, j, none⟩ = some u → ((V m).ownBlock = some g → j < (T m).length * 3) → W2.cell? ⟨g, j, none⟩ = some u) :
    MW w n g2 g4 g5 g6 gw B0 lv (W2.setCell ⟨gw, m, none⟩ v') (upd V m v') (upd T m (T m ++ [l])) vn nx ∧ GrownIn W (W2.setCell ⟨gw, m, none⟩ v') (fun i => i = gw ∨ (V m).ownBlock = some i) := by
  obtain ⟨l1, l2, l3, l4, l5⟩ := A.lo
  obtain ⟨u1, u2, u3, u4, u5⟩ := A.hi
  obtain ⟨n1, n2, n3, n4⟩ := A.n6
  obtain ⟨m1, m2, m3⟩ := A.nw
  have hVm := (h.row m hm).2.2.lt
  have g1 : GrownIn W W2 (fun i => (V m).ownBlock = some i) := grownIn_of hg
  have g2' := grownIn_cell W2 ⟨gw, m, none⟩ v'
  have gg : GrownIn W (W2.setCell ⟨gw, m, none⟩ v') (fun i => i = gw ∨ (V m).ownBlock = some i) := (g1.mono (fun k e => .inr e)).trans (g2'.mono (fun k e => .inl (show gw = k from e).symm))
  have hsz : (W2.setCell ⟨gw, m, none⟩ v').heap.size = W2.heap.size := by simp [World.setCell]
  have hs2 := g1.size
  have q0 : ∀ i, i < B0 → i ≠ gw → ¬ (i = gw ∨ (V m).ownBlock = some i) := fun i hi hne e => by
    rcases e with e | e
    · exact hne e
    · have := (hVm i e).1; omega
  have pvm : ∀ i, PV w n B0 V W i → PV w n B0 (upd V m v') (W2.setCell ⟨gw, m, none⟩ v') i := fun i p => ⟨p.1, by have := p.2.1; omega, fun j hj => by
    by_cases q : j = m
    · subst q
      rw [upd_same]
      rcases hat with e | e <;> rw [e]
      · exact p.2.2 j hj
      · intro e2; have := Option.some.inj e2; have := p.2.1; omega
    · rw [upd_other _ _ q]; exact p.2.2 j hj⟩
  have pvn : ∀ i, PV w n B0 V W i → ¬ (i = gw ∨ (V m).ownBlock = some i) := fun i p e => by
    rcases e with e | e
    · rcases p.1 with q | q <;> omega
    · exact p.2.2 m hm e
  have hvl : ∀ b, v'.ownBlock = some b → B0 ≤ b ∧ b < W2.heap.size := o.lt
  refine ⟨⟨gg.cell h.c2 (q0 _ u1 (Ne.symm m1)), h.c4.in gg (q0 _ u2 (Ne.symm m2)), gg.cell h.c5 (q0 _ u3 (Ne.symm m3)), h.c6.in gg (q0 _ u4 n4), fun j hj => ?_, fun i j hi hj hij => ?_, ?_, h.one, fun j hj b e1 e2 => ?_, h.vnb, by have := h.top; omega, gg.below h.be h.be.size (fun k e => ?_)⟩, gg⟩
  · by_cases q : j = m
    · subst q
      rw [upd_same, upd_same]
      obtain ⟨a, b, c⟩ := h.row j hj
      have a2 : W2.cell? ⟨gw, j, none⟩ = some (V j) := g1.cell a (fun e => by have := (hVm _ e).1; simp only at this; omega)
      refine ⟨World.cell?_setCell_same _ _ _ a2, ?_, ?_⟩
      · have f := (frozen_in g1 a (fun e => by have := (hVm _ e).1; simp only at this; omega)).trans b
        simp [go_sem, f]
      · exact (o.in g2' (fun i e q => by have := (hvl i e).1; have e2 : gw = i := q; omega) (fun i p q => pvn i p (.inl (show gw = i from q).symm))).widen pvm
    · rw [upd_other _ _ q, upd_other _ _ q]
      obtain ⟨a, b, c⟩ := h.row j hj
      have a1 : W2.cell? ⟨gw, j, none⟩ = some (V j) := g1.cell a (fun e => by have := (hVm _ e).1; simp only at this; omega)
      refine ⟨?_, ?_, (c.in gg (fun i e z => ?_) pvn).widen pvm⟩
      · rw [World.cell?_setCell_other _ _ _ _ (fun e => q (by injection e with _ e2 _; exact e2.symm))]; exact a1
      · have f := (frozen_in g1 a (fun e => by have := (hVm _ e).1; simp only at this; omega)).trans b
        simp [go_sem, f]
      · rcases z with z | z
        · have := (c.lt i e).1; omega
        · rcases h.ap j m hj hm q with y | y
          · rw [y] at e; cases e
          · exact y (e.trans z.symm)
  · by_cases qi : i = m
    · subst qi
      rw [upd_same, upd_other _ _ (Ne.symm hij)]
      rcases hat with e | e <;> rw [e]
      · exact h.ap i j hi hj hij
      · exact sep_of fun b e1 e2 => by have := ((h.row j hj).2.2.lt b e2).2; have := Option.some.inj e1; omega
    · rw [upd_other _ _ qi]
      by_cases qj : j = m
      · subst qj
        rw [upd_same]
        rcases hat with e | e <;> rw [e]
        · exact h.ap i j hi hj hij
        · exact sep_of fun b e1 e2 => by have := ((h.row i hi).2.2.lt b e1).2; have := Option.some.inj e2; omega
      · rw [upd_other _ _ qj]; exact h.ap i j hi hj hij
  · refine (h.nxt.keep (by omega) (fun q e j u hj hc => ?_) (fun l hl => (h.nxt.ok l hl).in gg pvn)).widen pvm
    have c2 := eld q j u hc (fun e2 => by have := h.ald m hm q e2 e; omega)
    exact g2'.cell c2 (fun e3 => (h.vnb q e).2.2 (show gw = q from e3).symm)
  · by_cases q : j = m
    · subst q
      rw [upd_same] at e1 ⊢
      rw [List.length_append]
      rcases hat with e | e
      · have := h.ald j hj b (e.symm.trans e1) e2; omega
      · rw [e] at e1
        obtain ⟨gq, cq, ev, hq, _⟩ := h.nxt.cells
        rw [ev] at e2
        have := Option.some.inj e1
        have e3 : gq = b := Option.some.inj e2
        omega
    · rw [upd_other _ _ q] at e1 ⊢
      exact h.ald j hj b e1 e2
  · rcases e with e | e
    · omega
    · have := (hVm k e).1; omega
end
end Go.Proofs.Ytanlfkkmnnjpeaa
