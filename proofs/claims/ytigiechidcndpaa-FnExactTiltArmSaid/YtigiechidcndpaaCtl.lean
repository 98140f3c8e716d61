/- Controls as the walks see them, and the contracts of the functions of the exact laws that measure, copy, compare, mark and look at them; a control of an argument. Condition: the rows are the call's own. -/
import Derived.Test.YtigiechidcndpaaCord
import Derived.Test.YtigiechidcndpaaGrow
import Derived.Test.YtigiechidcndpaaArgI
namespace Go.Proofs.Ytigiechidcndpaa
set_option linter.unusedVariables false
open Go.RowKit Go.ChangeShapes Go.WideShapes Go.ChangeAt Go.Deep Go.Joins

/-- A control's value: its height, its arms, its cords. -/
def ctlV (H : Int) (va vc : Value) : Value := .agg #[.int .i64 H, va, vc]
/-- The blocks of a control's rows. -/
def BlkK (va vc : Value) (k : Nat) : Prop := va.ownBlock = some k ∨ vc.ownBlock = some k
/-- A control's rows: own ones, and apart. -/
def OwnK (w : World) (b : Nat) (va vc : Value) (zs : List Int) (cs : List Lb) : Prop := OwnI w b va zs ∧ OwnC w b vc cs ∧ ∀ k, va.ownBlock = some k → vc.ownBlock ≠ some k
def CtlPost (w : World) (H : Int) (zs : List Int) (cs : List Lb) (e : Ending) (w' : World) : Prop := ∃ va vc, e = .returned (ctlV H va vc) ∧ OwnK w' w.heap.size va vc zs cs ∧ Below w.heap.size w w'
section
variable {w w' : World} {b : Nat} {va vc : Value} {zs : List Int} {cs : List Lb} {P : Nat → Prop}
theorem OwnK.alloc (h : OwnK w b va vc zs cs) (o : Obj) : OwnK (w.alloc o) b va vc zs cs := ⟨h.1.alloc o, h.2.1.alloc o, h.2.2⟩
theorem OwnK.below (h : OwnK w b va vc zs cs) (hb : Below w.heap.size w w') : OwnK w' b va vc zs cs := ⟨h.1.below hb, h.2.1.below hb, h.2.2⟩
theorem OwnK.in (h : OwnK w b va vc zs cs) (g : GrownIn w w' P) (hp : ∀ k, BlkK va vc k → ¬ P k) : OwnK w' b va vc zs cs := ⟨ownsRow_in h.1 g fun k hk => hp k (.inl hk), ownsRow_in h.2.1 g fun k hk => hp k (.inr hk), h.2.2⟩
theorem OwnK.ltB (h : OwnK w b va vc zs cs) : ∀ k, BlkK va vc k → b ≤ k ∧ k < w.heap.size := fun k hk => hk.elim (h.1.lt k) (h.2.1.lt k)
theorem OwnK.slice (h : OwnK w b va vc zs cs) : ∃ A a C c, va = .slice A zs.length a ∧ vc = .slice C cs.length c := by
  obtain ⟨A, a, e⟩ := h.1.slice
  obtain ⟨C, c, f⟩ := h.2.1.slice
  exact ⟨A, a, C, c, e, f⟩
theorem OwnK.setCell (h : OwnK w b va vc zs cs) (a : Addr) (u : Value) (hp : ∀ k, BlkK va vc k → a.block ≠ k) : OwnK (w.setCell a u) b va vc zs cs := h.in (grownIn_cell w a u) hp
theorem OwnK.mono {b' : Nat} (h : OwnK w b va vc zs cs) (hb : b' ≤ b) : OwnK w b' va vc zs cs := ⟨h.1.mono hb, h.2.1.mono hb, h.2.2⟩
end

/-- What a control's box at the start of a call gives as long as nothing below and at it is written. -/
theorem ctl_facts {w : World} {b n m : Nat} {A C : Option Addr} {a c : Nat} {H : Int} {zs : List Int} {cs : List Lb} (hown : OwnK w b (.slice A n a) (.slice C m c) zs cs) :
    ∀ W, Below (w.heap.size + 1) (w.alloc (.cells #[.int .i64 H, .slice A n a, .slice C m c] 27)) W →
      W.cell? ⟨w.heap.size, 0, none⟩ = some (.int .i64 H) ∧ W.cell? ⟨w.heap.size, 1, none⟩ = some (.slice A n a) ∧ W.cell? ⟨w.heap.size, 2, none⟩ = some (.slice C m c) ∧ OwnK W b (.slice A n a) (.slice C m c) zs cs ∧ Below w.heap.size w W := by
  intro W hb
  have x := (boxV_new w [.int .i64 H, .slice A n a, .slice C m c] 27).below (hb.mono (by simp))
  exact ⟨x 0 _ rfl, x 1 _ rfl, x 2 _ rfl, (hown.alloc _).below (hb.mono (by simp)), ((Below.refl w.heap.size w).alloc (Nat.le_refl _) _).trans (hb.mono (by omega))⟩

theorem eqControl_same (H : Int) (va1 vc1 va2 vc2 : Value) (zs : List Int) (cs : List Lb) (b1 b2 : Nat) (w : World) (h1 : OwnK w b1 va1 vc1 zs cs) (h2 : OwnK w b2 va2 vc2 zs cs) (hl : zs.length ≤ 2000000) (hc : cs.length ≤ 2000000) :
    Calls Try.prog 22 #[ctlV H va1 vc1, ctlV H va2 vc2] w fun e w' => e = .returned (.bool true) ∧ Below w.heap.size w w' := by
  obtain ⟨A1, a1, C1, c1, rfl, rfl⟩ := h1.slice
  obtain ⟨A2, a2, C2, c2, rfl, rfl⟩ := h2.slice
  have H1 := Lib.hid ((h1.alloc (.cells #[.int .i64 H, .slice A1 zs.length a1, .slice C1 cs.length c1] 27)).alloc (.cells #[.int .i64 H, .slice A2 zs.length a2, .slice C2 cs.length c2] 27))
  have H2 := Lib.hid ((h2.alloc (.cells #[.int .i64 H, .slice A1 zs.length a1, .slice C1 cs.length c1] 27)).alloc (.cells #[.int .i64 H, .slice A2 zs.length a2, .slice C2 cs.length c2] 27))
  have X1 := Lib.hid ((boxV_new w [.int .i64 H, .slice A1 zs.length a1, .slice C1 cs.length c1] 27).alloc (.cells #[.int .i64 H, .slice A2 zs.length a2, .slice C2 cs.length c2] 27))
  have X2 := Lib.hid (boxV_new (w.alloc (.cells #[.int .i64 H, .slice A1 zs.length a1, .slice C1 cs.length c1] 27)) [.int .i64 H, .slice A2 zs.length a2, .slice C2 cs.length c2] 27)
  clear h1 h2
  unfold ctlV
  go_enter Try.func22, Try.ntmps22
  go_wp2_with fail
  refine (eqIntS_same _ _ zs b1 b2 _ H1.out.1 H2.out.1 hl).mono ?_
  rintro e w3 ⟨rfl, b3⟩
  obtain ⟨y1, y2⟩ := And.intro (X1.out.below b3 2 _ rfl) (X2.out.below b3 2 _ rfl)
  simp only [World.size_alloc] at y2
  have K1 := Lib.hid (H1.out.below b3)
  have K2 := Lib.hid (H2.out.below b3)
  have B := Lib.hid b3
  have z3 := b3.size
  clear b3
  go_wp2_with fail
  refine (eqCordS_same _ _ cs b1 b2 _ K1.out.2.1 K2.out.2.1 hc).mono ?_
  rintro e w4 ⟨rfl, b4⟩
  go_wp2
  go_ret
  exact ⟨rfl, (((Below.refl w.heap.size w).alloc (Nat.le_refl _) _).alloc (by simp) _).trans ((B.out.trans (b4.mono z3)).mono (by simp <;> omega))⟩

set_option maxHeartbeats 400000 in
theorem markControl_at (H : Int) (va vc : Value) (zs : List Int) (cs : List Lb) (b : Nat) (w : World) (hown : OwnK w b va vc zs cs) (hl : zs.length ≤ 2000000) (hc : cs.length ≤ 2000000) (u : Nat) (k : Int) (hk : k = (u : Int)) (h1 : u ≤ 2000000) :
    Calls Try.prog 25 #[ctlV H va vc, .int .i64 k] w fun e w' => e = .returned (.int .i64 ((u + zs.length + 3 * cs.length : Nat) : Int)) ∧ OwnK w' b va vc (marksI u zs.length) (marksL (u + zs.length) cs.length) ∧ GrownIn w w' (BlkK va vc) := by
  subst hk
  obtain ⟨A1, a1, C1, c1, rfl, rfl⟩ := hown.slice
  have lt := hown.ltB
  have H1 := Lib.hid (hown.alloc (.cells #[.int .i64 H, .slice A1 zs.length a1, .slice C1 cs.length c1] 27))
  have X1 := Lib.hid (boxV_new w [.int .i64 H, .slice A1 zs.length a1, .slice C1 cs.length c1] 27)
  clear hown
  unfold ctlV
  go_enter Try.func25, Try.ntmps25
  go_wp2_with fail
  refine (markIntS_in _ zs b _ H1.out.1 hl u _ rfl (by omega)).mono ?_
  rintro e w3 ⟨rfl, o3, g3⟩
  have y2 := X1.out.in g3 (fun e => by have := (lt _ (.inl e)).2; omega) 2 _ rfl
  have oc := ownsRow_in H1.out.2.1 g3 (fun i hi p => H1.out.2.2 i p hi)
  have O3 := Lib.hid o3
  have G3 := Lib.hid g3
  clear o3 g3
  go_wp2_with fail
  refine (markCordS_any _ cs b _ oc hc (u + zs.length) (by omega)).mono ?_
  rintro e w4 ⟨rfl, o4, g4⟩
  have g4 := grownIn_of g4
  have F := Lib.hid (show OwnK w4 b (.slice A1 zs.length a1) (.slice C1 cs.length c1) (marksI u zs.length) (marksL (u + zs.length) cs.length) from ⟨ownsRow_in O3.out g4 (fun i hi p => H1.out.2.2 i hi p), o4, H1.out.2.2⟩)
  have G4 := Lib.hid (GrownIn.trans (grownIn_below ((Below.refl _ _).alloc (Nat.le_refl _) _) (Nat.le_refl _)) (GrownIn.trans (G3.out.mono (Q := BlkK (.slice A1 zs.length a1) (.slice C1 cs.length c1)) fun k hk => .inl hk) (g4.mono fun k hk => .inr hk)))
  clear o4 g4 oc O3 G3
  go_wp2
  go_ret
  exact ⟨rfl, F.out, G4.out⟩

set_option maxHeartbeats 400000 in
theorem heldControl_at (H : Int) (va vc : Value) (n m : Nat) (b : Nat) (w : World) (u : Nat) (hown : OwnK w b va vc (marksI u n) (marksL (u + n) m)) (hl : n ≤ 2000000) (hc : m ≤ 2000000) (h1 : u ≤ 2000000) :
    Calls Try.prog 29 #[ctlV H va vc, .int .i64 (u : Int)] w fun e w' => e = .returned (.int .i64 ((u + n + 3 * m : Nat) : Int)) ∧ Below w.heap.size w w' := by
  obtain ⟨A1, a1, C1, c1, e1, e2⟩ := hown.slice
  rw [marksI_len] at e1
  rw [marksL_len] at e2
  subst e1 e2
  have H1 := Lib.hid (hown.alloc (.cells #[.int .i64 H, .slice A1 n a1, .slice C1 m c1] 27))
  have X1 := Lib.hid (boxV_new w [.int .i64 H, .slice A1 n a1, .slice C1 m c1] 27)
  clear hown
  unfold ctlV
  go_enter Try.func29, Try.ntmps29
  go_wp2_with fail
  refine (heldIntS_any _ n b _ u H1.out.1 hl (by omega)).mono ?_
  rintro e w3 ⟨rfl, b3⟩
  have y2 := X1.out.below b3 2 _ rfl
  have K1 := Lib.hid (H1.out.below b3)
  have B := Lib.hid b3
  have z3 := b3.size
  clear b3
  go_wp2_with fail
  refine (heldCordS_any _ m b _ (u + n) K1.out.2.1 hc (by omega)).mono ?_
  rintro e w4 ⟨rfl, b4⟩
  go_wp2
  go_ret
  exact ⟨rfl, ((Below.refl w.heap.size w).alloc (Nat.le_refl _) _).trans ((B.out.trans (b4.mono z3)).mono (by simp))⟩

theorem szControl_in (H : Int) (a : Option Addr) (n cap : Nat) (c : Option Addr) (m ccap : Nat) (w : World) (h : n + m ≤ 1048576) :
    Calls Try.prog 19 #[.agg #[.int .i64 H, .slice a n cap, .slice c m ccap], .int .i64 1048576] w fun e w' => e = .returned (.int .i64 (1048576 - (n : Int) - (m : Int))) ∧ w' = w.alloc (.cells #[.int .i64 H, .slice a n cap, .slice c m ccap] 40) := by
  have C : ∀ W, Calls Try.prog 42 #[.slice a n cap, .int .i64 1048576] W fun e w' => e = .returned (.int .i64 (1048576 - (n : Int))) ∧ w' = W := fun W => by
    go_enter Try.func42, Try.ntmps42
    go_wp2
    go_ret
    exact ⟨rfl, rfl⟩
  have D : ∀ W, Calls Try.prog 43 #[.slice c m ccap, .int .i64 (1048576 - (n : Int))] W fun e w' => e = .returned (.int .i64 (1048576 - (n : Int) - (m : Int))) ∧ w' = W := fun W => by
    go_enter Try.func43, Try.ntmps43
    go_wp2
    go_ret
    exact ⟨rfl, rfl⟩
  have C := Lib.hid C
  have D := Lib.hid D
  go_enter Try.func19, Try.ntmps19
  go_wp2_with (first | (go_at_call 42; refine (C.out _).mono ?_; rintro e w' ⟨rfl, rfl⟩) | (go_at_call 43; refine (D.out _).mono ?_; rintro e w' ⟨rfl, rfl⟩))
  go_ret
  exact ⟨rfl, rfl⟩
theorem szControl_out1 (H : Int) (a : Option Addr) (n cap : Nat) (c : Option Addr) (m ccap : Nat) (w : World) (h : 1048576 < n) (hm : n ≤ 9223372036854775807) :
    Calls Try.prog 19 #[.agg #[.int .i64 H, .slice a n cap, .slice c m ccap], .int .i64 1048576] w fun e w' => e = .returned (.int .i64 (-1)) ∧ w' = w.alloc (.cells #[.int .i64 H, .slice a n cap, .slice c m ccap] 40) := by
  have C : ∀ W, Calls Try.prog 42 #[.slice a n cap, .int .i64 1048576] W fun e w' => e = .returned (.int .i64 (-1)) ∧ w' = W := fun W => by
    go_enter Try.func42, Try.ntmps42
    go_wp2
    go_ret
    exact ⟨rfl, rfl⟩
  have C := Lib.hid C
  go_enter Try.func19, Try.ntmps19
  go_wp2_with (go_at_call 42; refine (C.out _).mono ?_; rintro e w' ⟨rfl, rfl⟩)
  go_ret
  exact ⟨rfl, rfl⟩
theorem szControl_out2 (H : Int) (a : Option Addr) (n cap : Nat) (c : Option Addr) (m ccap : Nat) (w : World) (h0 : n ≤ 1048576) (h : 1048576 < n + m) (hm : m ≤ 9223372036854775807) :
    Calls Try.prog 19 #[.agg #[.int .i64 H, .slice a n cap, .slice c m ccap], .int .i64 1048576] w fun e w' => e = .returned (.int .i64 (-1)) ∧ w' = w.alloc (.cells #[.int .i64 H, .slice a n cap, .slice c m ccap] 40) := by
  have C : ∀ W, Calls Try.prog 42 #[.slice a n cap, .int .i64 1048576] W fun e w' => e = .returned (.int .i64 (1048576 - (n : Int))) ∧ w' = W := fun W => by
    go_enter Try.func42, Try.ntmps42
    go_wp2
    go_ret
    exact ⟨rfl, rfl⟩
  have D : ∀ W, Calls Try.prog 43 #[.slice c m ccap, .int .i64 (1048576 - (n : Int))] W fun e w' => e = .returned (.int .i64 (-1)) ∧ w' = W := fun W => by
    go_enter Try.func43, Try.ntmps43
    go_wp2
    go_ret
    exact ⟨rfl, rfl⟩
  have C := Lib.hid C
  have D := Lib.hid D
  go_enter Try.func19, Try.ntmps19
  go_wp2_with (first | (go_at_call 42; refine (C.out _).mono ?_; rintro e w' ⟨rfl, rfl⟩) | (go_at_call 43; refine (D.out _).mono ?_; rintro e w' ⟨rfl, rfl⟩))
  go_ret
  exact ⟨rfl, rfl⟩

set_option maxHeartbeats 400000 in
theorem toControl_walk (H : Int) (a : Option Addr) (n cap : Nat) (z : List Int) (c : Option Addr) (ccap : Nat) (cs : List Lb) (w : World) (ha : IsRow .i64 w a n cap z) (hc : ArgL w c cs) (hn : n ≤ 1048576) (hm : cs.length ≤ 1048576) :
    Calls Try.prog 21 #[.agg #[.int .i64 H, .slice a n cap, .slice c cs.length ccap]] w (CtlPost w H (z.take n) cs) := by
  have hk := irow_len ha
  have T := Lib.hid (fun W h => toIntS_walk a n cap z W h hn)
  generalize z.take n = zs at T hk ⊢
  subst hk
  have RA := Lib.hid (irow_alloc (irow_alloc (irow_alloc ha (.cells #[.int .i64 H, .slice a zs.length cap, .slice c cs.length ccap] 40)) (.cells #[.int .i64 0, .slice none 0 0, .slice none 0 0] 27)) (.cells #[.int .i64 H, .slice none 0 0, .slice none 0 0] 27))
  have RC := Lib.hid hc
  clear ha hc
  go_enter Try.func21, Try.ntmps21
  go_wp2_with fail
  refine (T.out _ RA.out).mono ?_
  rintro e w4 ⟨va, rfl, o4, b4⟩
  obtain ⟨A1, a1, rfl⟩ := o4.slice
  have z4 := b4.size
  simp only [World.size_alloc] at z4
  have d0 : w4.cell? ⟨w.heap.size, 2, none⟩ = some (.slice c cs.length ccap) := by rw [b4.cell (by simp <;> omega)]; simp [go_sem]
  have d3 : w4.cell? ⟨w.heap.size + 1 + 1, 0, none⟩ = some (.int .i64 H) := by rw [b4.cell (by simp <;> omega)]; simp [go_sem]
  have d4 : w4.cell? ⟨w.heap.size + 1 + 1, 1, none⟩ = some (.slice none 0 0) := by rw [b4.cell (by simp <;> omega)]; simp [go_sem]
  have d5 : w4.cell? ⟨w.heap.size + 1 + 1, 2, none⟩ = some (.slice none 0 0) := by rw [b4.cell (by simp <;> omega)]; simp [go_sem]
  have f4 : w4.frozen? ⟨w.heap.size + 1 + 1, 1, none⟩ = false := by rw [b4.frozen (by simp <;> omega)]; simp [go_sem]
  have N4 := Lib.hid (show (∀ j x, [Value.int .i64 0, .slice none 0 0, .slice none 0 0][j]? = some x → w4.cell? ⟨w.heap.size + 1, j, none⟩ = some x) ∧ w4.frozen? ⟨w.heap.size + 1 + 1, 2, none⟩ = false ∧ w4.frozen? ⟨w.heap.size + 1, 0, none⟩ = false ∧ w4.frozen? ⟨w.heap.size + 1, 1, none⟩ = false ∧ w4.frozen? ⟨w.heap.size + 1, 2, none⟩ = false from ⟨fun j x hx => by rw [b4.cell (by simp <;> omega)]; simp [go_sem, hx], by rw [b4.frozen (by simp <;> omega)]; simp [go_sem], by rw [b4.frozen (by simp <;> omega)]; simp [go_sem], by rw [b4.frozen (by simp <;> omega)]; simp [go_sem], by rw [b4.frozen (by simp <;> omega)]; simp [go_sem]⟩)
  have O4 := Lib.hid (ownsRow_setCell_below o4 (show (⟨w.heap.size + 1 + 1, 1, none⟩ : Addr).block < _ by simp <;> omega) (.slice A1 zs.length a1))
  have B4 := Lib.hid ((((((Below.refl w.heap.size w).alloc (Nat.le_refl _) _).alloc (by simp) _).alloc (by simp <;> omega) _).trans (b4.mono (by simp <;> omega))).setCell (show w.heap.size ≤ (⟨w.heap.size + 1 + 1, 1, none⟩ : Addr).block by show w.heap.size ≤ w.heap.size + 1 + 1; omega) (.slice A1 zs.length a1))
  clear o4 b4
  go_wp2_with fail
  refine (toCordS_walk c ccap cs _ (by rcases RC.out with h | ⟨x, e, h⟩; exact .inl h; exact .inr ⟨x, e, fun k hk j v hv => (B4.out.cell (World.block_lt_of_cell? w _ (h k hk j v hv))).trans (h k hk j v hv)⟩) hm).mono ?_
  rintro e w5 ⟨vc, rfl, o5, b5⟩
  obtain ⟨C1, c1, rfl⟩ := o5.slice
  have z5 := b5.size
  simp only [World.size_setCell] at z5
  have C4 : ∀ i x, (⟨w.heap.size + 1 + 1, 1, none⟩ : Addr) ≠ i → w4.cell? i = some x → w5.cell? i = some x := fun i x hn hx => by
    have h0 := World.block_lt_of_cell? w4 i hx
    rw [b5.cell (by simp; exact h0), World.cell?_setCell_other _ _ _ _ hn]
    exact hx
  have d2 : w5.cell? ⟨w.heap.size + 1 + 1, 1, none⟩ = some (.slice A1 zs.length a1) := by
    rw [b5.cell (by simp <;> omega), World.cell?_setCell_same _ _ _ d4]
  replace d3 := C4 _ _ (by simp) d3
  replace d5 := C4 _ _ (by simp) d5
  have n0 := C4 _ _ (by simp) (N4.out.1 0 _ rfl)
  have n1 := C4 _ _ (by simp) (N4.out.1 1 _ rfl)
  have n2 := C4 _ _ (by simp) (N4.out.1 2 _ rfl)
  have F4 : ∀ i, i.block < w4.heap.size → w4.frozen? i = false → w5.frozen? i = false := fun i h0 hx => by
    rw [b5.frozen (by simp; exact h0)]
    simpa using hx
  have f0 := F4 _ (by simp; omega) N4.out.2.1
  have f1 := F4 _ (by simp; omega) N4.out.2.2.1
  have f2 := F4 _ (by simp; omega) N4.out.2.2.2.1
  have f3 := F4 _ (by simp; omega) N4.out.2.2.2.2
  have K := Lib.hid (show OwnK w5 w.heap.size (.slice A1 zs.length a1) (.slice C1 cs.length c1) zs cs from ⟨OwnI.mono (OwnI.below O4.out b5) (by simp <;> omega), o5.mono (by simp; omega), fun k h1 h2 => by
    have := (World.ownsRow.lt O4.out k h1).2
    have := (o5.lt k h2).1
    simp at *; omega⟩)
  have L := Lib.hid (show w.heap.size + 1 + 1 < w.heap.size + 3 ∧ (∀ k, (Value.slice A1 zs.length a1).ownBlock = some k → w.heap.size + 3 ≤ k) ∧ (∀ k, (Value.slice C1 cs.length c1).ownBlock = some k → w.heap.size + 3 ≤ k) from ⟨by omega, fun k h1 => by have := (World.ownsRow.lt O4.out k h1).1; simp at this; omega, fun k h2 => by have := (o5.lt k h2).1; simp at this; omega⟩)
  have B := Lib.hid (B4.out.trans (b5.mono (by simp; omega)))
  clear O4 o5 B4 b5 C4 F4 N4 d4 f4
  go_wp2
  obtain ⟨k0, k1, k2⟩ := cells_set3 (w := w5.setCell ⟨w.heap.size + 1 + 1, 2, none⟩ (.slice C1 cs.length c1)) (g := w.heap.size + 1) (u := .int .i64 H) (v := .slice A1 zs.length a1) (x := .slice C1 cs.length c1)
    ((World.cell?_setCell_other _ _ _ _ (by simp)).trans n0) ((World.cell?_setCell_other _ _ _ _ (by simp)).trans n1) ((World.cell?_setCell_other _ _ _ _ (by simp)).trans n2)
  have far : ∀ k, BlkK (.slice A1 zs.length a1) (.slice C1 cs.length c1) k → w.heap.size + 3 ≤ k := fun k hk => hk.elim (L.out.2.1 k) (L.out.2.2 k)
  refine bodyPost_ret (v := ctlV H (.slice A1 zs.length a1) (.slice C1 cs.length c1)) (by simp [results, Try.results21, go_sem, k0, k1, k2, ctlV]) rfl ⟨_, _, rfl, ?_, ?_⟩
  · exact (((K.out.setCell _ _ (fun k hk => by have := far k hk; show w.heap.size + 1 + 1 ≠ k; omega)).setCell _ _ (fun k hk => by have := far k hk; show w.heap.size + 1 ≠ k; omega)).setCell _ _ (fun k hk => by have := far k hk; show w.heap.size + 1 ≠ k; omega)).setCell _ _ (fun k hk => by have := far k hk; show w.heap.size + 1 ≠ k; omega)
  · exact (((B.out.setCell (by show w.heap.size ≤ w.heap.size + 1 + 1; omega) _).setCell (by show w.heap.size ≤ w.heap.size + 1; omega) _).setCell (by show w.heap.size ≤ w.heap.size + 1; omega) _).setCell (by show w.heap.size ≤ w.heap.size + 1; omega) _

section
variable {H : Type} {enc : TypeId × Value → H} {W : World}
/-- A slice of numbers inside of a struct that came in. -/
theorem irow_in {d : DataW H × List MemPlace} {fuel : Nat} {v : Value} (h : DataW.trod enc Try.prog W 0 (fun _ => true) true fuel 24 [v] = some d) : ∃ a n cap z, v = .slice a n cap ∧ IsRow .i64 W a n cap z := by
  rcases open_ints Try.underlying24 Try.underlying3 (by kernel_rfl) h with ⟨hcs, _⟩ | ⟨x, l, c, zs, hcs, _, hl, hm, hz, _, hcell, hwz⟩
  · simp only [List.cons.injEq, and_true] at hcs
    exact ⟨none, 0, 0, [], hcs, .inl ⟨rfl, rfl, rfl, rfl⟩⟩
  · simp only [List.cons.injEq, and_true] at hcs
    exact ⟨some x, l, c, zs, hcs, .inr ⟨_, rfl, hl, hm, by simpa using hz, hcell, hwz⟩⟩
/-- A control that came in. -/
theorem open_control {b0 : Nat} {v : Value} {d : DataW H} {p : List MemPlace} (hv : Value.okWide Try.prog W .any b0 40 v) (h : DataW.Trod enc Try.prog W 0 (fun _ => true) true 40 v d p) :
    ∃ J a n cap z c ccap cs, v = .agg #[.int .i64 J, .slice a n cap, .slice c (List.length cs) ccap] ∧ (Lit.int .i64 J).wf = true ∧ IsRow .i64 W a n cap z ∧ ArgL W c cs ∧ cs.length ≤ maxLen := by
  obtain ⟨v0, v1, v2, y0, y1, y2, n, rfl, _, _, h0, h1, h2⟩ := open_agg3 Try.underlying40 (by kernel_rfl) (by kernel_rfl) hv h
  obtain ⟨J, e0, _, hw⟩ := DataW.trod_int Try.underlying3 h0
  obtain ⟨a, m, cap, z, e1, hz⟩ := irow_in h1
  obtain ⟨c, ccap, cs, e2, hc, hl⟩ := argC_of h2
  have e0 : v0 = .int .i64 J := by simpa using e0
  exact ⟨J, a, m, cap, z, c, ccap, cs, by rw [e0, e1, e2], hw, hz, hc, hl⟩
end
end Go.Proofs.Ytigiechidcndpaa
