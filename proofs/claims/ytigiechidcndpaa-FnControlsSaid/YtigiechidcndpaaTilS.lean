/- A control and a Bool as a result; the contract of spec.LiftControl. Condition: the arms and the cords lie in rows of their own. -/
import Derived.Test.YtigiechidcndpaaCpyK
import Derived.Test.YtigiechidcndpaaCtlM
namespace Go.Proofs.Ytigiechidcndpaa
set_option linter.unusedVariables false
set_option linter.unusedSimpArgs false
open Go.RowKit

/-- A control and a Bool. -/
def PairK (w : World) (H : Int) (zs : List Int) (cs : List Lb) (ok : Bool) (e : Ending) (w' : World) : Prop := ∃ va vc, e = .returned (.tuple #[ctlV H va vc, .bool ok]) ∧ OwnK w' w.heap.size va vc zs cs ∧ Below w.heap.size w w'
/-- A control's result variable is written last. -/
theorem pairK_done {w W : World} {va vc : Value} {zs : List Int} {cs : List Lb} (hK : OwnK W (w.heap.size + 2) va vc zs cs) (hB : Below w.heap.size w W) (x y z : Value) :
    OwnK (((W.setCell ⟨w.heap.size + 1, 0, none⟩ x).setCell ⟨w.heap.size + 1, 1, none⟩ y).setCell ⟨w.heap.size + 1, 2, none⟩ z) w.heap.size va vc zs cs ∧
      Below w.heap.size w (((W.setCell ⟨w.heap.size + 1, 0, none⟩ x).setCell ⟨w.heap.size + 1, 1, none⟩ y).setCell ⟨w.heap.size + 1, 2, none⟩ z) := by
  have far : ∀ k, BlkK va vc k → w.heap.size + 1 ≠ k := fun k hk => by have := (hK.ltB k hk).1; omega
  exact ⟨((((hK.mono (by omega)).setCell ⟨w.heap.size + 1, 0, none⟩ _ far).setCell ⟨w.heap.size + 1, 1, none⟩ _ far).setCell ⟨w.heap.size + 1, 2, none⟩ _ far),
    ((hB.setCell (show w.heap.size ≤ w.heap.size + 1 by omega) _).setCell (show w.heap.size ≤ w.heap.size + 1 by omega) _).setCell (show w.heap.size ≤ w.heap.size + 1 by omega) _⟩

/-- A new box of three cells: what it holds, and what was there before. -/
theorem fresh3 {w w2 : World} {x y z : Value} {t : TypeId} (h : w2 = w.alloc (.cells #[x, y, z] t)) :
    (w2.cell? ⟨w.heap.size, 0, none⟩ = some x ∧ w2.cell? ⟨w.heap.size, 1, none⟩ = some y ∧ w2.cell? ⟨w.heap.size, 2, none⟩ = some z) ∧
      (w2.frozen? ⟨w.heap.size, 0, none⟩ = false ∧ w2.frozen? ⟨w.heap.size, 1, none⟩ = false ∧ w2.frozen? ⟨w.heap.size, 2, none⟩ = false) ∧ Below w.heap.size w w2 ∧ w2.heap.size = w.heap.size + 1 := by
  subst h
  exact ⟨by simp [go_sem], by simp [go_sem], (Below.refl _ _).alloc (Nat.le_refl _) _, by simp⟩
/-- The result's own box of three cells, behind calls that left it alone. -/
theorem resBox {W w2 : World} {g : Nat} {x y z : Value} {t : TypeId} (hg : g = W.heap.size) (hb : Below (g + 1) (W.alloc (.cells #[x, y, z] t)) w2) :
    w2.cell? ⟨g, 0, none⟩ = some x ∧ w2.cell? ⟨g, 1, none⟩ = some y ∧ w2.cell? ⟨g, 2, none⟩ = some z ∧ w2.frozen? ⟨g, 0, none⟩ = false ∧ w2.frozen? ⟨g, 1, none⟩ = false ∧ w2.frozen? ⟨g, 2, none⟩ = false := by
  subst hg
  refine ⟨?_, ?_, ?_, ?_, ?_, ?_⟩
  · rw [hb.cell (by simp)]; simp [go_sem]
  · rw [hb.cell (by simp)]; simp [go_sem]
  · rw [hb.cell (by simp)]; simp [go_sem]
  · rw [hb.frozen (by simp)]; simp [go_sem]
  · rw [hb.frozen (by simp)]; simp [go_sem]
  · rw [hb.frozen (by simp)]; simp [go_sem]

/-- A number is stored into a control's arms. -/
theorem OwnK.store {w : World} {b g n c : Nat} {vc : Value} {zs : List Int} {cs : List Lb} (h : OwnK w b (.slice (some ⟨g, 0, none⟩) n c) vc zs cs) (hn : n = zs.length) (k : Nat) (z : Int) :
    OwnK (w.setCell ⟨g, k, none⟩ (.int .i64 z)) b (.slice (some ⟨g, 0, none⟩) n c) vc (zs.set k z) cs := by
  obtain ⟨h1, g1⟩ := h.1.set hn k z
  exact ⟨h1, ownsRow_in h.2.1 (grownIn_of g1) (fun i hi p => h.2.2 i p hi), h.2.2⟩
/-- What a store and a draw leave. -/
theorem stored {w w3 : World} {a : Addr} {u : Value} (h : w3 = (w.setCell a u).drew) :
    (∀ p v, a ≠ p → w.cell? p = some v → w3.cell? p = some v) ∧ (∀ p, w.frozen? p = false → w3.frozen? p = false) ∧ ∀ B w0, Below B w0 w → B ≤ a.block → Below B w0 w3 := by
  subst h
  refine ⟨fun p v hp hv => ?_, fun p hp => ?_, fun B w0 hb hB => (hb.setCell hB u).drew⟩
  · show (w.setCell a u).cell? p = some v
    exact (World.cell?_setCell_other _ _ _ _ hp).trans hv
  · show (w.setCell a u).frozen? p = false
    simpa using hp

set_option maxRecDepth 100000 in
set_option maxHeartbeats 1600000 in
theorem specLift (H n : Int) (va vc : Value) (zs : List Int) (cs : List Lb) (b : Nat) (w : World) (hown : OwnK w b va vc zs cs) (hz : zs.length ≤ 2000000) (hc : cs.length ≤ 2000000) (hH : (Lit.int .i64 H).wf = true) (hn : (Lit.int .i64 n).wf = true) :
    Calls Try.prog 30 #[ctlV H va vc, .int .i64 n] w (PairK w (liftH H n) zs cs (liftOk H n)) := by
  have CC := Lib.hid (fun W h => copyK_any H va vc zs cs b W h hz hc)
  obtain ⟨A, a, C, c, rfl, rfl⟩ := hown.slice
  have OWN := Lib.hid ((hown.alloc (.cells #[.int .i64 H, .slice A zs.length a, .slice C cs.length c] 27)).alloc (.cells #[.int .i64 0, .slice none 0 0, .slice none 0 0] 27))
  have X0 := Lib.hid ((boxV_new w [.int .i64 H, .slice A zs.length a, .slice C cs.length c] 27).alloc (.cells #[.int .i64 0, .slice none 0 0, .slice none 0 0] 27))
  have C0 := Lib.hid (fun v lo hi W => (l01In_any v lo hi W).mono fun e w' h => (show _ ∧ W = w' from ⟨h.1, h.2.symm⟩))
  clear hown
  unfold ctlV at CC ⊢
  go_enter Try.func30, Try.ntmps30
  go_wp2_with fail
  refine (CC.out _ OWN.out).mono ?_
  rintro e w1 ⟨va, vc, rfl, o1, b1⟩
  obtain ⟨A2, a2, C2, c2, rfl, rfl⟩ := o1.slice
  have z1 := b1.size
  simp only [World.size_alloc] at z1 o1
  have K1 := Lib.hid o1
  have B1 := Lib.hid b1
  have x0 := (elder (X0.out.below b1 0 _ rfl)).1
  clear o1 b1
  unfold ctlV
  go_wp2_with fail
  refine (C0.out _ _ _ _).mono ?_
  rintro e w2 ⟨rfl, hw⟩
  replace hw := hw.symm
  replace x0 := x0 (.cells #[.int .i64 H, .slice A2 zs.length a2, .slice C2 cs.length c2] 27)
  rw [← hw] at x0
  obtain ⟨⟨p0, p1, p2⟩, ⟨q0, q1, q2⟩, b2, z2⟩ := fresh3 hw
  obtain ⟨d0, d1, d2, f0, f1, f2⟩ := newBox3 (B1.out.trans (b2.mono (by simpa using z1)))
  have K2 := Lib.hid (K1.out.below b2)
  have B2 := Lib.hid ((((Below.refl w.heap.size w).alloc (Nat.le_refl _) _).alloc (by simp) _).trans ((B1.out.mono (by simp <;> omega)).trans (b2.mono (by omega))))
  have hne : ¬ w1.heap.size = w.heap.size + 1 := by omega
  have hne' : ¬ w.heap.size + 1 = w1.heap.size := by omega
  have lt2 : ∀ k, BlkK (.slice A2 zs.length a2) (.slice C2 cs.length c2) k → w1.heap.size ≠ k := fun k hk => by have := (K1.out.ltB k hk).2; omega
  clear hw b2 K1 B1
  generalize w1.heap.size = g at z1 p0 p1 p2 q0 q1 q2 z2 hne hne' lt2 ⊢
  cases g1 : inB H (-500) 500 with
  | false =>
    have R := Lib.hid (show liftOk H n = false by simp [liftOk, g1])
    have R2 := Lib.hid (show liftH H n = H by simp [liftH, R.out])
    go_wp2_with (go_at_call 44; refine (C0.out _ _ _ _).mono ?_; rintro e w' ⟨rfl, rfl⟩)
    obtain ⟨k0, k1, k2⟩ := cells_set3 (g := w.heap.size + 1) (u := .int .i64 H) (v := .slice A2 zs.length a2) (x := .slice C2 cs.length c2) d0 d1 d2
    refine bodyPost_ret (v := .tuple #[ctlV H (.slice A2 zs.length a2) (.slice C2 cs.length c2), .bool false]) (by simp [results, Try.results30, go_sem, k0, k1, k2, ctlV]) rfl ⟨_, _, by rw [R.out, R2.out], pairK_done K2.out B2.out _ _ _⟩
  | true =>
  cases g2 : inB n (-500) 500 with
  | false =>
    have R := Lib.hid (show liftOk H n = false by simp [liftOk, g2])
    have R2 := Lib.hid (show liftH H n = H by simp [liftH, R.out])
    go_wp2_with (go_at_call 44; refine (C0.out _ _ _ _).mono ?_; rintro e w' ⟨rfl, rfl⟩)
    obtain ⟨k0, k1, k2⟩ := cells_set3 (g := w.heap.size + 1) (u := .int .i64 H) (v := .slice A2 zs.length a2) (x := .slice C2 cs.length c2) d0 d1 d2
    refine bodyPost_ret (v := .tuple #[ctlV H (.slice A2 zs.length a2) (.slice C2 cs.length c2), .bool false]) (by simp [results, Try.results30, go_sem, k0, k1, k2, ctlV]) rfl ⟨_, _, by rw [R.out, R2.out], pairK_done K2.out B2.out _ _ _⟩
  | true =>
  have hr : (-500 ≤ H ∧ H ≤ 500) ∧ (-500 ≤ n ∧ n ≤ 500) := by simpa [inB] using And.intro g1 g2
  have hs : IntKind.i64.wrap (H + n) = H + n := IntWalk.i64_in _ (by omega)
  cases g3 : inB (H + n) 0 500 with
  | false =>
    have R := Lib.hid (show liftOk H n = false by simp [liftOk, g3])
    have R2 := Lib.hid (show liftH H n = H by simp [liftH, R.out])
    go_wp2_with (go_at_call 44; refine (C0.out _ _ _ _).mono ?_; rintro e w' ⟨rfl, rfl⟩)
    obtain ⟨k0, k1, k2⟩ := cells_set3 (g := w.heap.size + 1) (u := .int .i64 H) (v := .slice A2 zs.length a2) (x := .slice C2 cs.length c2) d0 d1 d2
    refine bodyPost_ret (v := .tuple #[ctlV H (.slice A2 zs.length a2) (.slice C2 cs.length c2), .bool false]) (by simp [results, Try.results30, go_sem, k0, k1, k2, ctlV]) rfl ⟨_, _, by rw [R.out, R2.out], pairK_done K2.out B2.out _ _ _⟩
  | true =>
    have R := Lib.hid (show liftOk H n = true by simp [liftOk, g1, g2, g3])
    have R2 := Lib.hid (show liftH H n = H + n by simp [liftH, R.out])
    go_wp2_with (go_at_call 44; refine (C0.out _ _ _ _).mono ?_; rintro e w' ⟨rfl, rfl⟩)
    obtain ⟨k0, k1, k2⟩ := cells_set3 (w := w2.setCell ⟨g, 0, none⟩ (.int .i64 (H + n))) (g := w.heap.size + 1) (u := .int .i64 (H + n)) (v := .slice A2 zs.length a2) (x := .slice C2 cs.length c2)
      ((World.cell?_setCell_other _ _ _ _ (by simp [hne])).trans d0) ((World.cell?_setCell_other _ _ _ _ (by simp [hne])).trans d1) ((World.cell?_setCell_other _ _ _ _ (by simp [hne])).trans d2)
    refine bodyPost_ret (v := .tuple #[ctlV (H + n) (.slice A2 zs.length a2) (.slice C2 cs.length c2), .bool true]) (by simp [results, Try.results30, go_sem, k0, k1, k2, ctlV]) rfl ⟨_, _, by rw [R.out, R2.out], pairK_done (K2.out.setCell _ _ lt2) (B2.out.setCell (show w.heap.size ≤ g by omega) _) _ _ _⟩
end Go.Proofs.Ytigiechidcndpaa
