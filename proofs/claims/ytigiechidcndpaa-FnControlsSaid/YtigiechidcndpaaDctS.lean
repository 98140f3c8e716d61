/- The contracts of spec.l05Control and spec.DrawControl: a valid control for seven joints. Condition: at most 1048576 bytes. -/
import Derived.Test.YtigiechidcndpaaStK
import Derived.Test.YtigiechidcndpaaCtlD
import Derived.Test.YtigiechidcndpaaCtl
import Derived.Test.YtigiechidcndpaaRowI
import Derived.Test.YtigiechidcndpaaRowC
import Derived.Deep.RegionLaw
namespace Go.Proofs.Ytigiechidcndpaa
set_option linter.unusedVariables false
set_option linter.unusedSimpArgs false
open Go.RowKit

/-- A new box of three cells: what it holds, and what was there before. -/
theorem newThree {w w2 : World} {x y z : Value} {t : TypeId} (h : w2 = w.alloc (.cells #[x, y, z] t)) :
    (w2.cell? ⟨w.heap.size, 0, none⟩ = some x ∧ w2.cell? ⟨w.heap.size, 1, none⟩ = some y ∧ w2.cell? ⟨w.heap.size, 2, none⟩ = some z) ∧
      (w2.frozen? ⟨w.heap.size, 0, none⟩ = false ∧ w2.frozen? ⟨w.heap.size, 1, none⟩ = false ∧ w2.frozen? ⟨w.heap.size, 2, none⟩ = false) ∧ Below w.heap.size w w2 ∧ w2.heap.size = w.heap.size + 1 := by
  subst h
  exact ⟨by simp [go_sem], by simp [go_sem], (Below.refl _ _).alloc (Nat.le_refl _) _, by simp⟩
theorem oneI (w : World) (base : Nat) (z : Int) (hb : base ≤ w.heap.size) : OwnI (w.alloc (.cells #[.int .i64 z] 3)) base (.slice (some ⟨w.heap.size, 0, none⟩) 1 1) [z] :=
  ⟨rfl, .inr ⟨w.heap.size, 1, #[.int .i64 z], rfl, hb, heap_alloc_new w _, Nat.le_refl _, by simp only [maxLen]; omega, rfl, rfl⟩⟩
theorem oneC (w : World) (base : Nat) (x y z : Int) (hb : base ≤ w.heap.size) : OwnC (w.alloc (.cells #[.int .i64 x, .int .i64 y, .int .i64 z] 55)) base (.slice (some ⟨w.heap.size, 0, none⟩) 1 1) [⟨x, y, z⟩] :=
  ⟨rfl, .inr ⟨w.heap.size, 1, #[.int .i64 x, .int .i64 y, .int .i64 z], rfl, hb, heap_alloc_new w _, Nat.le_refl _, by simp only [maxLen]; omega, rfl, rfl⟩⟩

/-- What the drawing of a control keeps: its box, the result's box, its rows, the cursor. -/
structure CtlK (w0 : World) (a : Option Addr) (n cap : Nat) (w : World) (b g : Nat) (H : Int) (va vc : Value) (zs : List Int) (cs : List Lb) (W : World) : Prop where
  box : BoxV W g [.int .i64 H, va, vc]
  free : W.frozen? ⟨g, 1, none⟩ = false ∧ W.frozen? ⟨g, 2, none⟩ = false
  res : BoxV W w.heap.size [.int .i64 0, .slice none 0 0, .slice none 0 0]
  rfree : W.frozen? ⟨w.heap.size, 0, none⟩ = false ∧ W.frozen? ⟨w.heap.size, 1, none⟩ = false ∧ W.frozen? ⟨w.heap.size, 2, none⟩ = false
  own : OwnK W (g + 1) va vc zs cs
  st : St w0 a n cap W b
  bw : b < w.heap.size
  wg : w.heap.size < g
  gs : g < W.heap.size
  ww : w0.heap.size ≤ w.heap.size
section
variable {w0 w W W' W6 : World} {a : Option Addr} {n cap b g : Nat} {H : Int} {va vc va' vc' : Value} {zs zs' : List Int} {cs cs' : List Lb} {P : Nat → Prop}
theorem CtlK.keep (K : CtlK w0 a n cap w b g H va vc zs cs W) (hg : GrownIn W W' P) (h1 : ∀ k, P k → k = b ∨ W.heap.size ≤ k) (hs : St w0 a n cap W' b) : CtlK w0 a n cap w b g H va vc zs cs W' := by
  have bw := K.bw
  have wg := K.wg
  have gs := K.gs
  have pg : ∀ k, k ≤ g → k ≠ b → ¬ P k := fun k hk hb p => by rcases h1 k p with e | e <;> omega
  have fr : ∀ k o, k ≤ g → k ≠ b → W.frozen? ⟨k, o, none⟩ = false → W'.frozen? ⟨k, o, none⟩ = false := fun k o hk hb hf =>
    (World.frozen?_of_block (hg.block k (by omega) (pg k hk hb))).trans hf
  exact ⟨K.box.in hg (pg g (Nat.le_refl _) (by omega)), ⟨fr g 1 (Nat.le_refl _) (by omega) K.free.1, fr g 2 (Nat.le_refl _) (by omega) K.free.2⟩, K.res.in hg (pg _ (by omega) (by omega)),
    ⟨fr _ 0 (by omega) (by omega) K.rfree.1, fr _ 1 (by omega) (by omega) K.rfree.2.1, fr _ 2 (by omega) (by omega) K.rfree.2.2⟩,
    K.own.in hg (fun k hk p => by have := K.own.ltB k hk; rcases h1 k p with e | e <;> omega), hs, K.bw, K.wg, Nat.lt_of_lt_of_le K.gs hg.size, K.ww⟩
theorem CtlK.draw (K : CtlK w0 a n cap w b g H va vc zs cs W) (hs : St w0 a n cap W' b) (hg : W.grownBy W' (some b)) : CtlK w0 a n cap w b g H va vc zs cs W' :=
  K.keep (grownIn_of hg) (fun k hk => .inl (Option.some.inj hk).symm) hs
theorem CtlK.below (K : CtlK w0 a n cap w b g H va vc zs cs W) (hb : Below W.heap.size W W') : CtlK w0 a n cap w b g H va vc zs cs W' :=
  K.keep (P := fun _ => False) (grownIn_below hb (Nat.le_refl _)) (fun k hk => hk.elim) (K.st.below' hb)
theorem CtlK.alloc (K : CtlK w0 a n cap w b g H va vc zs cs W) (o : Obj) : CtlK w0 a n cap w b g H va vc zs cs (W.alloc o) := K.below ((Below.refl _ _).alloc (Nat.le_refl _) _)
theorem CtlK.drew (K : CtlK w0 a n cap w b g H va vc zs cs W) : CtlK w0 a n cap w b g H va vc zs cs W.drew := K.below ((Below.refl _ _).drew)
/-- A field of the box is written, the rows being grown. -/
theorem CtlK.put (K : CtlK w0 a n cap w b g H va vc zs cs W) {row : Option Nat} (hg : W.grownBy W6 row) (hr : ∀ k, row = some k → g + 1 ≤ k) (j : Nat) (u : Value) (hj : j = 1 ∨ j = 2)
    (hbox : ∀ X : World, BoxV X g [.int .i64 H, va, vc] → BoxV (X.setCell ⟨g, j, none⟩ u) g [.int .i64 H, va', vc']) (ho : OwnK W6 (g + 1) va' vc' zs' cs') :
    CtlK w0 a n cap w b g H va' vc' zs' cs' (W6.setCell ⟨g, j, none⟩ u) := by
  have bw := K.bw
  have wg := K.wg
  have gs := K.gs
  have ww := K.ww
  have gi := grownIn_of hg
  have pg : ∀ k, k ≤ g → ¬ row = some k := fun k hk p => by have := hr k p; omega
  have fr : ∀ k o, k ≤ g → W.frozen? ⟨k, o, none⟩ = false → (W6.setCell ⟨g, j, none⟩ u).frozen? ⟨k, o, none⟩ = false := fun k o hk hf => by
    have : W6.frozen? ⟨k, o, none⟩ = false := (World.frozen?_of_block (gi.block k (by omega) (pg k hk))).trans hf
    simpa using this
  have st6 : St w0 a n cap W6 b := K.st.grownR hg (fun e => by have := hr b e; omega) (fun k hk => by have := hr k hk; omega)
  exact ⟨hbox _ (K.box.in gi (pg g (Nat.le_refl _))), ⟨fr g 1 (Nat.le_refl _) K.free.1, fr g 2 (Nat.le_refl _) K.free.2⟩, (K.res.in gi (pg _ (by omega))).setCell _ _ (by show g ≠ w.heap.size; omega),
    ⟨fr _ 0 (by omega) K.rfree.1, fr _ 1 (by omega) K.rfree.2.1, fr _ 2 (by omega) K.rfree.2.2⟩,
    ho.setCell _ _ (fun k hk => by have := (ho.ltB k hk).1; show g ≠ k; omega), st6.set (by omega) (by omega) j, K.bw, K.wg, by simpa [World.setCell] using Nat.lt_of_lt_of_le K.gs hg.size, K.ww⟩
theorem CtlK.seen (K : CtlK w0 a n cap w b g H va vc zs cs W) {row : Option Nat} (hg : W.grownBy W6 row) (hr : ∀ k, row = some k → g + 1 ≤ k) :
    BoxV W6 g [.int .i64 H, va, vc] ∧ W6.frozen? ⟨g, 1, none⟩ = false ∧ W6.frozen? ⟨g, 2, none⟩ = false := by
  have ne : some g ≠ row := fun e => by have := hr g e.symm; omega
  exact ⟨K.box.in (grownIn_of hg) (fun e => ne e.symm), (World.frozen?_of_block (hg.block g K.gs ne)).trans K.free.1, (World.frozen?_of_block (hg.block g K.gs ne)).trans K.free.2⟩
theorem boxV_put1 {X : World} {x y z u : Value} (h : BoxV X g [x, y, z]) : BoxV (X.setCell ⟨g, 1, none⟩ u) g [x, u, z] := by
  intro j v hv
  match j, hv with
  | 0, hv => exact (World.cell?_setCell_other _ _ _ _ (by simp)).trans (h 0 v hv)
  | 1, hv => obtain rfl : u = v := Option.some.inj hv; exact World.cell?_setCell_same _ _ _ (h 1 _ rfl)
  | 2, hv => exact (World.cell?_setCell_other _ _ _ _ (by simp)).trans (h 2 v hv)
theorem boxV_put2 {X : World} {x y z u : Value} (h : BoxV X g [x, y, z]) : BoxV (X.setCell ⟨g, 2, none⟩ u) g [x, y, u] := by
  intro j v hv
  match j, hv with
  | 0, hv => exact (World.cell?_setCell_other _ _ _ _ (by simp)).trans (h 0 v hv)
  | 1, hv => exact (World.cell?_setCell_other _ _ _ _ (by simp)).trans (h 1 v hv)
  | 2, hv => obtain rfl : u = v := Option.some.inj hv; exact World.cell?_setCell_same _ _ _ (h 2 _ rfl)
theorem CtlK.arms (K : CtlK w0 a n cap w b g H va vc zs cs W) (ho : OwnI W6 (g + 1) va' zs') (hg : W.grownBy W6 va.ownBlock) (hat : va'.ownBlock = va.ownBlock ∨ va'.ownBlock = some W.heap.size) :
    CtlK w0 a n cap w b g H va' vc zs' cs (W6.setCell ⟨g, 1, none⟩ va') :=
  K.put hg (fun k hk => (K.own.1.lt k hk).1) 1 va' (.inl rfl) (fun _ h => boxV_put1 h) ⟨ho, ownsRow_in K.own.2.1 (grownIn_of hg) (fun k hk p => K.own.2.2 k p hk), fun k h1 h2 => by
    have h3 := (K.own.2.1.lt k h2).2
    rcases hat with e | e
    · exact K.own.2.2 k (e ▸ h1) h2
    · rw [e] at h1
      have := Option.some.inj h1
      omega⟩
theorem CtlK.cords (K : CtlK w0 a n cap w b g H va vc zs cs W) (ho : OwnC W6 (g + 1) vc' cs') (hg : W.grownBy W6 vc.ownBlock) (hat : vc'.ownBlock = vc.ownBlock ∨ vc'.ownBlock = some W.heap.size) :
    CtlK w0 a n cap w b g H va vc' zs cs' (W6.setCell ⟨g, 2, none⟩ vc') :=
  K.put hg (fun k hk => (K.own.2.1.lt k hk).1) 2 vc' (.inr rfl) (fun _ h => boxV_put2 h) ⟨ownsRow_in K.own.1 (grownIn_of hg) (fun k hk p => K.own.2.2 k hk p), ho, fun k h1 h2 => by
    have h3 := (K.own.1.lt k h1).2
    rcases hat with e | e
    · exact K.own.2.2 k h1 (e ▸ h2)
    · rw [e] at h2
      have := Option.some.inj h2
      omega⟩
end

def CtlDPost (w0 : World) (a : Option Addr) (n cap : Nat) (b : Nat) (e : Ending) (w' : World) : Prop :=
  ∃ H va vc zs cs, e = .returned (ctlV H va vc) ∧ OwnK w' w0.heap.size va vc zs cs ∧ CtlD H zs cs ∧ St w0 a n cap w' b

set_option maxRecDepth 100000 in
set_option maxHeartbeats 3200000 in
theorem ctl_any (w0 : World) (a : Option Addr) (n cap : Nat) (z : List Int) (hr : IsRow .u8 w0 a n cap z) (w : World) (b : Nat) (hs : St w0 a n cap w b) :
    Calls Try.prog 32 #[.pointer (some ⟨b, 0, none⟩), .int .i64 7] w (CtlDPost w0 a n cap b) := by
  have ON := Lib.hid (fun W h => once_any w0 a n cap z hr W b h 2)
  have BE := Lib.hid (fun (m : Int) W h => below_any w0 a n cap z hr W b h m)
  have hbw := hs.cur.lt
  have hw0 := hs.below.size
  have ST0 := Lib.hid (hs.alloc (.cells #[.int .i64 0, .slice none 0 0, .slice none 0 0] 27))
  have R0 := Lib.hid (newThree (w := w) (x := .int .i64 0) (y := .slice none 0 0) (z := .slice none 0 0) (t := 27) rfl)
  clear hr hs
  go_enter Try.func32, Try.ntmps32
  go_wp2_with fail
  refine (BE.out 60 _ ST0.out).mono ?_
  rintro e w1 ⟨x, rfl, ⟨hx0, hx1, -⟩, st1, g1⟩
  have hx := hx1 (by omega)
  have gw : IntKind.i64.wrap (20 + x) = 20 + x := IntWalk.i64_in _ (by omega)
  have z1 := g1.size
  simp only [World.size_alloc] at z1
  have ST1 := Lib.hid st1
  have R1 := Lib.hid (show BoxV w1 w.heap.size [.int .i64 0, .slice none 0 0, .slice none 0 0] ∧ w1.frozen? ⟨w.heap.size, 0, none⟩ = false ∧ w1.frozen? ⟨w.heap.size, 1, none⟩ = false ∧ w1.frozen? ⟨w.heap.size, 2, none⟩ = false by
    have e := fun o => World.frozen?_of_block (a := ⟨w.heap.size, o, none⟩) (g1.block w.heap.size (by simp) (by simp; omega))
    exact ⟨(boxV_new w [.int .i64 0, .slice none 0 0, .slice none 0 0] 27).in (grownIn_of g1) (fun e => by have := Option.some.inj e; omega), (e 0).trans R0.out.2.1.1, (e 1).trans R0.out.2.1.2.1, (e 2).trans R0.out.2.1.2.2⟩)
  clear hx1 st1 g1 R0 ST0
  have K1 := Lib.hid (show CtlK w0 a n cap w b w1.heap.size (20 + x) (.slice none 0 0) (.slice none 0 0) [] [] (w1.alloc (.cells #[.int .i64 (20 + x), .slice none 0 0, .slice none 0 0] 27)) from by
    have F := newThree (w := w1) (x := .int .i64 (20 + x)) (y := .slice none 0 0) (z := .slice none 0 0) (t := 27) rfl
    have e := fun o (h : w1.frozen? ⟨w.heap.size, o, none⟩ = false) => (F.2.2.1.frozen (p := ⟨w.heap.size, o, none⟩) (by show w.heap.size < _; omega)).trans h
    exact ⟨boxV_new w1 [.int .i64 (20 + x), .slice none 0 0, .slice none 0 0] 27, F.2.1.2, R1.out.1.alloc _, ⟨e 0 R1.out.2.1, e 1 R1.out.2.2.1, e 2 R1.out.2.2.2⟩, ⟨⟨rfl, .inl ⟨rfl, rfl⟩⟩, ⟨rfl, .inl ⟨rfl, rfl⟩⟩, fun k h => by simp [Value.ownBlock] at h⟩, ST1.out.alloc _, hbw, by omega, by simp, hw0⟩)
  clear R1 ST1
  go_wp2_with fail
  refine (BE.out 5 _ K1.out.st).mono ?_
  rintro e w2 ⟨y, rfl, ⟨hy0, hy1, -⟩, st2, g2⟩
  have hy := hy1 (by omega)
  obtain ⟨Y, rfl⟩ := Int.eq_ofNat_of_zero_le hy0
  have gw2 : IntKind.i64.wrap (1 + (Y : Int)) = ((Y + 1 : Nat) : Int) := by rw [IntWalk.i64_in _ (by omega)]; omega
  have K2 := Lib.hid (K1.out.draw st2 g2)
  clear hy1 st2 g2 K1 gw
  obtain ⟨m, hm⟩ : ∃ m, Y + 1 = m := ⟨_, rfl⟩
  rw [hm] at gw2
  have hm5 : 1 ≤ m ∧ m ≤ 5 := by omega
  go_wp2_with fail
  go_loopw [7] (fun iv wr => ∃ (k : Nat) (va : Value) (zs : List Int), k ≤ m ∧ iv = .int .i64 (k : Int) ∧ Hid (zs.length = k ∧ ArmsD zs) ∧ Hid (CtlK w0 a n cap w b w1.heap.size (20 + x) va (.slice none 0 0) zs [] wr)) (fun iv _ => m - (intOf iv).toNat)
  case atStart => exact ⟨0, _, [], by omega, rfl, ⟨rfl, fun z hz => absurd hz (by simp)⟩, K2⟩
  case round =>
    clear K2
    obtain ⟨k, va, zs, hk, rfl, HZ, HK⟩ := hrel
    by_cases hlt : k < m
    · have hkm : (k : Int) < (m : Int) := by omega
      have HZL := Lib.hid HZ.out.1
      obtain ⟨y0, y1, y2⟩ := HK.out.box.three
      obtain ⟨f1, f2⟩ := HK.out.free
      have hl2 : zs.length ≤ 10 := by have := HZL.out; omega
      go_wp2_with fail
      go_region_law (first
        | (go_simp; go_at_call 51; (with_reducible refine (BE.out 21 _ ?_).mono ?_); (exact HK.out.drew.st); rintro e w5 ⟨v5, rfl, ⟨hv0, hv1, -⟩, st5, g5⟩; have hv := hv1 (by omega); have gv : IntKind.i64.wrap (v5 - 10) = v5 - 10 := IntWalk.i64_in _ (by omega); have K5 := Lib.hid (HK.out.drew.draw st5 g5); obtain ⟨y50, y51, y52⟩ := K5.out.box.three; obtain ⟨f51, f52⟩ := K5.out.free; have e51 := (elder y51).1; clear hv1 st5 g5; (try dsimp only))
        | (refine step_rowsI rfl (.tmp 22) (.tmp 26) rfl (w1.heap.size + 1) w5.heap.size va (.slice (some ⟨w5.heap.size, 0, none⟩) 1 1) zs [v5 - 10] (by simp [Act.eval, Act.put]) (by simp [Act.eval, Act.put]) (K5.out.own.1.alloc _) (oneI _ _ _ (Nat.le_refl _)) ?_ ?_ ?_; (simp; omega); (have := K5.out.gs; simp; omega); intro v6 w6 o6 g6 hat6; obtain ⟨A6, c6, rfl⟩ := o6.slice; obtain ⟨q6, ff61, ff62⟩ := (K5.out.alloc _).seen g6 (fun k hk => ((K5.out.alloc (.cells #[.int .i64 (v5 - 10)] 3)).own.1.lt k hk).1); have q61 := q6 1 _ rfl; have K6 := Lib.hid ((K5.out.alloc _).arms o6 g6 hat6); simp only [List.length_append, List.length_cons, List.length_nil, Nat.zero_add] at K6; clear o6 g6 hat6 q6))
      all_goals
        have HZ2 := Lib.hid (show (zs ++ [v5 - 10]).length = k + 1 ∧ ArmsD (zs ++ [v5 - 10]) from ⟨by rw [List.length_append, HZL.out]; rfl, arms_more HZ.out.2 (by omega) (by omega)⟩)
        clear y0 y1 y2 f1 f2 y50 y51 y52 e51 f51 f52 q61 ff61 ff62 K5 HK HZ
        go_wp2
        exact ⟨⟨k + 1, _, _, by omega, by go_num, HZ2, K6⟩, by simp [intOf]; omega⟩
    · obtain rfl : k = m := by omega
      have HA := Lib.hid HZ.out.2
      have hzl := HZ.out.1
      clear HZ
      subst hzl
      go_wp2_with fail
      go_loopw [8] (fun iv wr => ∃ (j : Nat) (vc : Value) (cs : List Lb), j ≤ 7 ∧ iv = .int .i64 (j : Int) ∧ Hid (CordsD zs.length j cs) ∧ Hid (CtlK w0 a n cap w b w1.heap.size (20 + x) va vc zs cs wr)) (fun iv _ => 7 - (intOf iv).toNat)
      case atStart => exact ⟨0, _, [], by omega, rfl, cordsD_nil _, HK⟩
      case round =>
        clear HK
        obtain ⟨j, vc, cs, hj, rfl, HC, HK⟩ := hrel
        by_cases hlt : j < 7
        · have hj7 : (j : Int) < 7 := by omega
          have hj12 : (j : Int) < 12 := by omega
          go_wp2_with fail
          refine (ON.out _ HK.out.st).mono ?_
          rintro e w3 ⟨o, rfl, st3, g3⟩
          have K3 := Lib.hid (HK.out.draw st3 g3)
          clear st3 g3 HK
          cases o with
          | false =>
            have HC2 := Lib.hid (cordsD_skip HC.out)
            go_wp2
            exact ⟨⟨j + 1, _, _, by omega, by go_num, HC2, K3⟩, by simp [intOf]; omega⟩
          | true =>
            have hcl := HC.out.len
            obtain ⟨y0, y1, y2⟩ := K3.out.box.three
            obtain ⟨f1, f2⟩ := K3.out.free
            go_wp2_with fail
            go_region_law (first
              | (go_simp; go_at_call 51; (with_reducible refine (BE.out (zs.length : Int) _ ?_).mono ?_); (exact K3.out.drew.st); rintro e w5 ⟨v5, rfl, ⟨hv0, hv1, -⟩, st5, g5⟩; have hv := hv1 (by omega); have K5 := Lib.hid (K3.out.drew.draw st5 g5); obtain ⟨y50, y51, y52⟩ := K5.out.box.three; obtain ⟨f51, f52⟩ := K5.out.free; clear hv1 st5 g5; (try dsimp only))
              | (go_simp; go_at_call 51; (with_reducible refine (BE.out 60 _ ?_).mono ?_); (exact K5.out.st); rintro e w7 ⟨v7, rfl, ⟨hu0, hu1, -⟩, st7, g7⟩; have hu := hu1 (by omega); have K7 := Lib.hid (K5.out.draw st7 g7); obtain ⟨y70, y71, y72⟩ := K7.out.box.three; obtain ⟨f71, f72⟩ := K7.out.free; have e72 := (elder y72).1; clear hu1 st7 g7; (try dsimp only))
              | (refine step_rowsC rfl (.tmp 41) (.tmp 49) rfl (w1.heap.size + 1) w7.heap.size vc (.slice (some ⟨w7.heap.size, 0, none⟩) 1 1) cs [⟨v5, (j : Int), v7⟩] (by simp [Act.eval, Act.put]) (by simp [Act.eval, Act.put]) (K7.out.own.2.1.alloc _) (oneC _ _ _ _ _ (Nat.le_refl _)) ?_ ?_ ?_; (simp; omega); (have := K7.out.gs; simp; omega); intro v6 w6 o6 g6 hat6; obtain ⟨A6, c6, rfl⟩ := o6.slice; obtain ⟨q6, ff61, ff62⟩ := (K7.out.alloc _).seen g6 (fun k hk => ((K7.out.alloc (.cells #[.int .i64 v5, .int .i64 (j : Int), .int .i64 v7] 55)).own.2.1.lt k hk).1); have q62 := q6 2 _ rfl; have K6 := Lib.hid ((K7.out.alloc _).cords o6 g6 hat6); simp only [List.length_append, List.length_cons, List.length_nil, Nat.zero_add] at K6; clear o6 g6 hat6 q6))
            all_goals
              have HC2 := Lib.hid (cordsD_more (j := j) HC.out ⟨hv0, hv⟩ ⟨hu0, hu⟩)
              clear y0 y1 y2 f1 f2 y50 y51 y52 f51 f52 y70 y71 y72 e72 f71 f72 q62 ff61 ff62 K3 K5 K7 HC
              go_wp2
              exact ⟨⟨j + 1, _, _, by omega, by go_num, HC2, K6⟩, by simp [intOf]; omega⟩
        · obtain rfl : j = 7 := by omega
          obtain ⟨y0, y1, y2⟩ := HK.out.box.three
          obtain ⟨d0, d1, d2⟩ := HK.out.res.three
          obtain ⟨f0, f1, f2⟩ := HK.out.rfree
          have F := Lib.hid (show CtlD (20 + x) zs cs from ⟨by omega, by omega, HA.out, HC.out⟩)
          obtain ⟨A, a2, C, c2, rfl, rfl⟩ := HK.out.own.slice
          go_wp2
          obtain ⟨k0, k1, k2⟩ := cells_set3 (g := w.heap.size) (u := .int .i64 (20 + x)) (v := .slice A zs.length a2) (x := .slice C cs.length c2) d0 d1 d2
          have far : ∀ q, BlkK (.slice A zs.length a2) (.slice C cs.length c2) q → w.heap.size ≠ q := fun q hq => by have := (HK.out.own.ltB q hq).1; have := HK.out.wg; omega
          have hwg := HK.out.wg
          refine bodyPost_ret (v := ctlV (20 + x) (.slice A zs.length a2) (.slice C cs.length c2)) (by simp [results, Try.results32, go_sem, k0, k1, k2, ctlV]) rfl ⟨_, _, _, zs, cs, rfl, ?_, F.out, ((HK.out.st.set hw0 (by omega) 0).set hw0 (by omega) 1).set hw0 (by omega) 2⟩
          exact (((HK.out.own.mono (by omega)).setCell ⟨w.heap.size, 0, none⟩ _ far).setCell ⟨w.heap.size, 1, none⟩ _ far).setCell ⟨w.heap.size, 2, none⟩ _ far

/-- What DrawControl comes to. -/
def DctPost (w : World) (e : Ending) (w' : World) : Prop := ∃ H va vc zs cs, e = .returned (ctlV H va vc) ∧ OwnK w' w.heap.size va vc zs cs ∧ CtlD H zs cs ∧ Below w.heap.size w w'
set_option maxRecDepth 100000 in
set_option maxHeartbeats 1600000 in
theorem dct_any (a : Option Addr) (n cap : Nat) (z : List Int) (w : World) (hr : IsRow .u8 w a n cap z) (hn : n ≤ 1048576) :
    Calls Try.prog 10 #[.slice a n cap] w (DctPost w) := by
  have hr0 := isRow_alloc hr (.cells #[.int .i64 0, .slice none 0 0, .slice none 0 0] 27)
  have NW := Lib.hid (new_any _ a n cap z hr0 hn)
  have DC := Lib.hid (fun W b h => ctl_any _ a n cap z hr0 W b h)
  have R0 := Lib.hid (newThree (w := w) (x := .int .i64 0) (y := .slice none 0 0) (z := .slice none 0 0) (t := 27) rfl)
  clear hr hr0
  go_enter Try.func10, Try.ntmps10
  go_wp2_with fail
  refine NW.out.mono ?_
  rintro e w1 ⟨b, rfl, st1⟩
  have ST1 := Lib.hid st1
  clear st1
  go_wp2_with fail
  refine (DC.out _ b ST1.out).mono ?_
  rintro e w2 ⟨H, va, vc, zs, cs, rfl, o2, hd, st2⟩
  obtain ⟨A, a2, C, c2, rfl, rfl⟩ := o2.slice
  simp only [World.size_alloc] at o2
  have b2 := st2.below
  simp only [World.size_alloc] at b2
  have O2 := Lib.hid o2
  have HD := Lib.hid hd
  have B2 := Lib.hid (((Below.refl w.heap.size w).alloc (Nat.le_refl _) (.cells #[.int .i64 0, .slice none 0 0, .slice none 0 0] 27)).trans (b2.mono (by omega)))
  have X2 := Lib.hid ((boxV_new w [.int .i64 0, .slice none 0 0, .slice none 0 0] 27).below (b2.mono (by simp)))
  have e2 := fun o (h : (w.alloc (.cells #[.int .i64 0, .slice none 0 0, .slice none 0 0] 27)).frozen? ⟨w.heap.size, o, none⟩ = false) => (b2.frozen (p := ⟨w.heap.size, o, none⟩) (by show w.heap.size < _; omega)).trans h
  have f0 := e2 0 R0.out.2.1.1
  have f1 := e2 1 R0.out.2.1.2.1
  have f2 := e2 2 R0.out.2.1.2.2
  obtain ⟨d0, d1, d2⟩ := X2.out.three
  clear o2 hd st2 b2 e2 R0 ST1 NW DC
  unfold ctlV
  go_wp2
  obtain ⟨k0, k1, k2⟩ := cells_set3 (g := w.heap.size) (u := .int .i64 H) (v := .slice A zs.length a2) (x := .slice C cs.length c2) d0 d1 d2
  have far : ∀ q, BlkK (.slice A zs.length a2) (.slice C cs.length c2) q → w.heap.size ≠ q := fun q hq => by have := (O2.out.ltB q hq).1; omega
  refine bodyPost_ret (v := ctlV H (.slice A zs.length a2) (.slice C cs.length c2)) (by simp [results, Try.results10, go_sem, k0, k1, k2, ctlV]) rfl ⟨_, _, _, zs, cs, rfl, ?_, HD.out, ?_⟩
  · exact (((O2.out.mono (by omega)).setCell ⟨w.heap.size, 0, none⟩ _ far).setCell ⟨w.heap.size, 1, none⟩ _ far).setCell ⟨w.heap.size, 2, none⟩ _ far
  · exact ((B2.out.setCell (Nat.le_refl _) _).setCell (Nat.le_refl _) _).setCell (Nat.le_refl _) _
end Go.Proofs.Ytigiechidcndpaa
