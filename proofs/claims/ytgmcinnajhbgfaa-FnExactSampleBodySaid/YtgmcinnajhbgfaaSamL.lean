/- The law FnExactSampleBody, walked over the contracts of both functions and of those that compare, mark and look. No condition. -/
import Derived.Test.YtgmcinnajhbgfaaSamW
namespace Go.Proofs.Ytgmcinnajhbgfaa
open Go.RowKit

set_option maxRecDepth 100000 in
set_option maxHeartbeats 800000 in
theorem FnExactSampleBody_walk (w : World) :
    Calls Try.prog 9 #[] w fun e w' => e = .returned (.bool true) ∧ Below w.heap.size w w' := by
  have hl : sampleL.length ≤ 2000000 := by decide
  have C1 := Lib.hid (fun W => sampleS W)
  have C2 := Lib.hid (fun W => sampleI W)
  generalize sampleL = L at *
  go_enter Try.func9, Try.ntmps9
  go_wp2_with fail
  refine (C1.out _).mono ?_
  rintro e w1 ⟨v1, rfl, o1, b1⟩
  obtain ⟨A1, c1, rfl⟩ := o1.slice
  unfold bodyV
  go_wp2_with fail
  refine (C2.out _).mono ?_
  rintro e w2 ⟨v2, rfl, o2, b2⟩
  obtain ⟨A2, c2, rfl⟩ := o2.slice
  unfold bodyV
  have x1 := (boxAt_new w1 7 (.slice A1 L.length c1)).below b2
  have p1 := (o1.alloc _).below b2
  have n12 := apart_of (v2 := .slice A2 L.length c2) (fun k hk => (o1.lt k hk).2) (fun k hk => Nat.le_trans (by simp) (o2.lt k hk).1)
  have hb1 := b1.size
  have hb2 := b2.size
  simp only [World.size_alloc] at hb2
  obtain ⟨y10, _⟩ := elder x1.1
  obtain ⟨y11, _⟩ := elder x1.2
  have B2 : Below w.heap.size w w2 := (b1.alloc hb1 _).trans (b2.mono (by simp; omega))
  have lt2 := fun k hk => (o2.lt k hk).2
  have ge2 := fun k hk => (o2.lt k hk).1
  simp only [World.size_alloc] at ge2
  go_wp2_with fail
  refine (eqBody_same 7 _ _ L _ _ _ (o2.alloc _) (p1.alloc _) hl).mono ?_
  rintro e w3 ⟨rfl, b3⟩
  have x2 := (boxAt_new w2 7 (.slice A2 L.length c2)).below b3
  have o3 := (o2.alloc (.cells #[.int .i64 7, .slice A2 L.length c2] 26)).below b3
  have p3 := (p1.alloc (.cells #[.int .i64 7, .slice A2 L.length c2] 26)).below b3
  have x3 := (x1.alloc (.cells #[.int .i64 7, .slice A2 L.length c2] 26)).below b3
  have B3 : Below w.heap.size w w3 := (B2.alloc B2.size _).trans (b3.mono (by have := B2.size; simp; omega))
  have hb3 := b3.size
  simp only [World.size_alloc] at hb3
  clear x1 y10 y11 p1 o1 o2 b1 b2 b3
  obtain ⟨x20, x21⟩ := id x2
  go_wp2_with fail
  refine (markBody_any 7 _ L _ _ o3 hl 1 (by omega)).mono ?_
  rintro e w4 ⟨rfl, o4, g4⟩
  have x4 := x2.grown g4 (by intro h; have := lt2 _ h.symm; omega)
  have x5 := x3.grown g4 (by intro h; have := ge2 _ h.symm; omega)
  have p4 := p3.kept g4 n12
  have B4 : Below w.heap.size w w4 := B3.grown g4 B3.size (fun k hk => by have := ge2 k hk; omega)
  have hb4 := g4.size
  clear x2 x20 x21 x3 o3 p3 g4
  obtain ⟨x20, x21⟩ := id x4
  go_wp2_with fail
  refine (heldBody_any 7 _ L.length _ _ 1 o4 hl (by omega)).mono ?_
  rintro e w5 ⟨rfl, b5⟩
  have x6 := x4.below b5
  have x7 := x5.below b5
  have p5 := p4.below b5
  have o5 := o4.below b5
  have B5 : Below w.heap.size w w5 := B4.trans (b5.mono B4.size)
  have hb5 := b5.size
  clear x4 x5 p4 o4 x20 x21 b5
  go_wp2_with fail
  refine (C2.out _).mono ?_
  rintro e w6 ⟨v3, rfl, o6, b6⟩
  obtain ⟨A3, c3, rfl⟩ := o6.slice
  unfold bodyV
  have x8 := x6.below b6
  have x9 := x7.below b6
  have p6 := p5.below b6
  have o7 := o5.below b6
  have B6 : Below w.heap.size w w6 := B5.trans (b6.mono B5.size)
  clear x6 x7 p5 o5 b6
  obtain ⟨y10, _⟩ := elder x9.1
  obtain ⟨y11, _⟩ := elder x9.2
  go_wp2_with fail
  refine (eqBody_same 7 _ _ L _ _ _ (o6.alloc _) (p6.alloc _) hl).mono ?_
  rintro e w7 ⟨rfl, b7⟩
  have x10 := (x8.alloc (.cells #[.int .i64 7, .slice A3 L.length c3] 26)).below b7
  have o8 := (o7.alloc (.cells #[.int .i64 7, .slice A3 L.length c3] 26)).below b7
  have B7 : Below w.heap.size w w7 := (B6.alloc B6.size _).trans (b7.mono (by have := B6.size; simp; omega))
  clear x8 x9 p6 o6 o7 y10 y11 b7
  obtain ⟨x20, x21⟩ := id x10
  go_wp2_with fail
  refine (heldBody_any 7 _ L.length _ _ 1 o8 hl (by omega)).mono ?_
  rintro e w8 ⟨rfl, b8⟩
  have B8 : Below w.heap.size w w8 := B7.trans (b8.mono B7.size)
  clear x10 x20 x21 o8 b8
  go_wp2
  go_ret
  exact ⟨rfl, B8⟩
end Go.Proofs.Ytgmcinnajhbgfaa
