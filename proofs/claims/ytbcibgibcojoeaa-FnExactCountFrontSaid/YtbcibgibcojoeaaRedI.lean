/- The contract of impl.Reduced, whose result is set by a deferred call. Condition: the crossings lie in a row of their own. -/
import Derived.Test.YtbcibgibcojoeaaCroI
import Derived.Test.YtbcibgibcojoeaaFstI
import Derived.Test.YtbcibgibcojoeaaDelI
import Derived.Defers
namespace Go.Proofs.Ytbcibgibcojoeaa
set_option linter.unusedVariables false
set_option linter.unusedSimpArgs false
open Go.RowKit

theorem red_same {os : List RCross} (h : NoPair os) : os.foldl push [] = os := by
  have key : ∀ n, n ≤ os.length → (os.take n).foldl push [] = os.take n := by
    intro n
    induction n with
    | zero => intro _; rfl
    | succ n ih =>
      intro hn
      have e := List.take_succ_eq_append_getElem (l := os) (i := n) (by omega)
      rw [e, List.foldl_append, ih (by omega), List.foldl_cons, List.foldl_nil]
      rcases push_cases (os.take n) os[n] with ⟨p2, x, h1, hu, _⟩ | ⟨e2, _⟩
      · have hl := congrArg List.length h1
        rw [List.length_take, Nat.min_eq_left (by omega), List.length_append, List.length_singleton] at hl
        subst hl
        have hx : x = os[p2.length] := by
          have q := congrArg (fun l => l[p2.length]?) h1
          simp at q
          rw [List.getElem?_eq_getElem (by omega)] at q
          exact (Option.some.inj q).symm
        have := h p2.length (by omega)
        rw [← hx, hu] at this
        cases this
      · exact e2
  have := key os.length (Nat.le_refl _)
  rwa [List.take_length] at this
/-- Two neighbours that undo each other, the first such, may be left out. -/
theorem red_less {os : List RCross} {k : Nat} (hk : k + 1 < os.length) (hu : undoes os[k] os[k + 1] = true) (hb : ∀ i, i < k → ∀ h : i + 1 < os.length, undoes os[i] os[i + 1] = false) :
    (os.take k ++ os.drop (k + 2)).foldl push [] = os.foldl push [] := by
  have e1 : os = os.take (k + 1) ++ (os[k + 1] :: os.drop (k + 2)) := by
    rw [show k + 2 = k + 1 + 1 by omega, ← List.drop_eq_getElem_cons hk, List.take_append_drop]
  have e2 : os.take (k + 1) = os.take k ++ [os[k]] := List.take_succ_eq_append_getElem (by omega)
  have n1 : NoPair (os.take (k + 1)) := by
    intro i hi
    rw [List.length_take] at hi
    rw [List.getElem_take, List.getElem_take]
    exact hb i (by omega) (by omega)
  have n0 : NoPair (os.take k) := by rw [e2] at n1; exact noPair_left n1
  have r : os.foldl push [] = (os.drop (k + 2)).foldl push (os.take k) := by
    conv => lhs; rw [e1]
    rw [List.foldl_append, red_same n1, List.foldl_cons]
    congr 1
    rw [e2]
    rcases push_cases (os.take k ++ [os[k]]) os[k + 1] with ⟨p2, x, h1, _, e⟩ | ⟨_, hh⟩
    · rw [e, (List.append_inj' h1 rfl).1]
    · have := hh _ _ rfl
      rw [hu] at this
      cases this
  rw [r, List.foldl_append, red_same n0]

/-- A variable that a closure captures: a block of one cell. -/
def Cel (w : World) (b : Nat) (v : Value) : Prop := w.cell? ⟨b, 0, none⟩ = some v ∧ w.frozen? ⟨b, 0, none⟩ = false
section
variable {w w' : World} {b : Nat} {v : Value}
theorem cel_new (w : World) (v : Value) (t : TypeId) : Cel (w.alloc (.cells #[v] t)) w.heap.size v := by
  unfold Cel
  simp [go_sem]
theorem Cel.lt (h : Cel w b v) : b < w.heap.size := World.block_lt_of_cell? w _ h.1
theorem Cel.below (h : Cel w b v) (hb : Below w.heap.size w w') : Cel w' b v := ⟨cell_below h.1 hb, (hb.frozen h.lt).trans h.2⟩
theorem Cel.alloc (h : Cel w b v) (o : Obj) : Cel (w.alloc o) b v := h.below ((Below.refl _ _).alloc (Nat.le_refl _) _)
theorem Cel.grown {row : Option Nat} (h : Cel w b v) (hg : w.grownBy w' row) (hne : some b ≠ row) : Cel w' b v := ⟨(hg.cell_far _ h.lt hne).trans h.1, (hg.frozen_far _ h.lt hne).trans h.2⟩
theorem Cel.set (h : Cel w b v) (u : Value) : Cel (w.setCell ⟨b, 0, none⟩ u) b u := ⟨World.cell?_setCell_same w ⟨b, 0, none⟩ u h.1, by rw [World.frozen?_setCell]; exact h.2⟩
theorem Cel.other (h : Cel w b v) {a : Addr} (hne : a.block ≠ b) (u : Value) : Cel (w.setCell a u) b v :=
  ⟨(World.cell?_setCell_other _ _ _ _ (fun e => hne (congrArg Addr.block e))).trans h.1, by rw [World.frozen?_setCell]; exact h.2⟩
end
/-- How long the slice in a variable is. -/
def lenAt (w : World) (b : Nat) : Nat := match w.cell? ⟨b, 0, none⟩ with | some (.slice _ n _) => n | _ => 0
theorem lenAt_of {w : World} {b n c : Nat} {A : Option Addr} (h : Cel w b (.slice A n c)) : lenAt w b = n := by unfold lenAt; rw [h.1]

theorem set_grown (w : World) (b : Nat) (u : Value) : w.grownBy (w.setCell ⟨b, 0, none⟩ u) (some b) :=
  ⟨rfl, rfl, rfl, by simp, fun k hk hne => Below.heap_setCell w _ _ k (fun e => hne (by rw [e]))⟩

theorem litD (gl gr : Nat) (A : Option Addr) (n c : Nat) (x : Value) (u : FrameMode) (w : World) (hl : Cel w gl (.slice A n c)) (hr : Cel w gr x) :
    CallsD Try.prog 43 #[.pointer (some ⟨gl, 0, none⟩), .pointer (some ⟨gr, 0, none⟩)] u w fun e u' w' => u' = u ∧ (e = .returned (.tuple #[]) ∧ w' = w.setCell ⟨gr, 0, none⟩ (.slice A n c)) := by
  obtain ⟨l0, l1⟩ := hl
  obtain ⟨r0, r1⟩ := hr
  go_enter_d Try.func43, Try.ntmps43
  go_wp2
  go_end0
  exact ⟨rfl, rfl⟩

set_option maxRecDepth 100000 in
set_option maxHeartbeats 3200000 in
theorem implRed (n : Int) (v : Value) (ls : List RCross) (b : Nat) (w : World) (h : OwnCross w b v ls) (hl : ls.length ≤ 2000000) :
    Calls Try.prog 15 #[.int .i64 n, v] w (CrossPost w (reduced n ls)) := by
  have CK := Lib.hid (fun W h => implCrOk n v ls b W h hl)
  have CL := Lib.hid (fun W h => cloneX_any v ls b W h hl)
  obtain ⟨A, c, rfl⟩ := h.slice
  have O := Lib.hid h
  clear h
  have B0 := Lib.hid ((Below.refl w.heap.size w).alloc (Nat.le_refl _) (.cells #[.slice none 0 0] 24))
  have X0 := Lib.hid (cel_new w (.slice none 0 0) 24)
  have hmf : ∀ (fn : Fn) (first cap : Array Value) (w : World), (Instr.makeFunc fn first cap).run Try.prog w = .ok (.func fn first cap) w := fun _ _ _ _ => rfl
  cases hc : crossOk n ls with
  | false =>
    have R := Lib.hid (show reduced n ls = [] by unfold reduced; rw [hc]; rfl)
    rw [hc] at CK
    go_enter_defers Try.func15, Try.ntmps15
    go_wp2_with fail
    refine (CK.out _ (O.out.alloc _)).mono ?_
    rintro e w1 ⟨rfl, b1⟩
    have B1 := Lib.hid (B0.out.trans (b1.mono B0.out.size))
    have X1 := X0.out.below b1
    have S1 := Lib.hid (X1.set (.slice none 0 0))
    obtain ⟨x1, y1⟩ := X1
    clear b1
    go_wp2
    have r1 := S1.out.1
    exact ⟨.slice none 0 0, by simp [results, Try.results15, go_sem, r1], _, rfl, by rw [R.out]; exact ⟨rfl, .inl ⟨rfl, rfl⟩⟩, B1.out.setCell (Nat.le_refl _) _⟩
  | true =>
    have h40 := (crossOk_has hc).2.1
    have R := Lib.hid (show reduced n ls = ls.foldl push [] by unfold reduced; rw [if_pos hc, redTo, List.take_length])
    rw [hc] at CK
    go_enter_defers Try.func15, Try.ntmps15
    go_wp2_with fail
    refine (CK.out _ (O.out.alloc _)).mono ?_
    rintro e w1 ⟨rfl, b1⟩
    have B1 := Lib.hid (B0.out.trans (b1.mono B0.out.size))
    have X1 := Lib.hid (X0.out.below b1)
    have O1 := Lib.hid ((O.out.alloc _).below b1)
    clear b1
    go_wp2_with fail
    refine (CL.out _ O1.out).mono ?_
    rintro e w2 ⟨v2, rfl, o2, b2⟩
    have X2 := Lib.hid ((X1.out.below b2).alloc (.cells #[v2] 24))
    have L2 := Lib.hid (cel_new w2 v2 24)
    have B2 := Lib.hid ((B1.out.trans (b2.mono B1.out.size)).alloc (Nat.le_trans B1.out.size b2.size) (.cells #[v2] 24))
    have O2 := Lib.hid (o2.alloc (.cells #[v2] 24))
    have LT := Lib.hid (fun x hx => (o2.lt x hx).2)
    have hs1 := B1.out.size
    obtain ⟨A2, c2, rfl⟩ := o2.slice
    clear o2 b2
    have HE := Lib.hid (show ls.foldl push [] = reduced n ls from R.out.symm)
    have hNL : w.heap.size < w1.heap.size := X1.out.lt
    go_wp2_with fail
    generalize w2.alloc (.cells #[.slice A2 ls.length c2] 24) = w3 at X2 L2 B2 O2
    generalize w2.heap.size = L at L2 LT
    go_loopw [6] (fun kv wr => ∃ (os : List RCross) (Q : Option Addr) (cq : Nat), Hid (Cel wr L (.slice Q os.length cq)) ∧ Hid (Cel wr w.heap.size (.slice none 0 0)) ∧ Hid (OwnCross wr w1.heap.size (.slice Q os.length cq) os) ∧ Hid (os.foldl push [] = reduced n ls) ∧ os.length ≤ 40 ∧ Hid (∀ x, (Value.slice Q os.length cq).ownBlock = some x → x < L) ∧ Hid (Below w.heap.size w wr)) (fun _ wr => lenAt wr L)
    case atStart => exact ⟨ls, A2, c2, L2, X2, O2, HE, h40, LT, B2⟩
    case round =>
      clear L2 X2 O2 HE LT B2
      obtain ⟨os, Q, cq, HL, HX, OO, HE, ho40, LT, BW⟩ := hrel
      have HM := Lib.hid (lenAt_of HL.out)
      obtain ⟨l0, l1⟩ := HL.out
      go_wp2_with fail
      refine (firstM _ os _ _ OO.out (by omega)).mono ?_
      rintro e w4 ⟨r, rfl, fu, b4⟩
      have HL4 := Lib.hid (HL.out.below b4)
      have HX4 := Lib.hid (HX.out.below b4)
      have O4 := Lib.hid (OO.out.below b4)
      have B4 := Lib.hid (BW.out.trans (b4.mono BW.out.size))
      clear b4 HL HX OO BW l0 l1
      obtain ⟨l0, l1⟩ := HL4.out
      rcases fu with ⟨rfl, hnp⟩ | ⟨k, rfl, hk, hu, hb⟩
      · have E := Lib.hid (show os = reduced n ls by rw [← HE.out, red_same hnp])
        have OW := (O4.out.kept (set_grown w4 w.heap.size (.slice Q os.length cq)) (sep_of fun x h1 h2 => by have := (O4.out.lt x h1).1; have := Option.some.inj h2; omega)).mono hs1
        have F := Lib.hid (show OwnCross (w4.setCell ⟨w.heap.size, 0, none⟩ (.slice Q os.length cq)) w.heap.size (.slice Q os.length cq) (reduced n ls) by rw [← E.out]; exact OW)
        have XR := (HX4.out.set (.slice Q os.length cq)).1
        clear OW
        go_wp2
        refine leaves_cons (f := 43) (args := #[.pointer (some ⟨L, 0, none⟩), .pointer (some ⟨w.heap.size, 0, none⟩)]) (by simp) (by simp [go_sem]) ?_
        refine (litD L w.heap.size Q os.length cq _ .returning w4 HL4.out HX4.out).mono ?_
        rintro e u' w'' ⟨rfl, rfl, rfl⟩
        exact ⟨.slice Q os.length cq, by simp [results, Try.results15, go_sem, XR], _, rfl, F.out, B4.out.setCell (Nat.le_refl _) _⟩
      · have ek : ¬ ((k : Int) == -1) = true := by simp
        have e2 : IntKind.i64.wrap ((k : Int) + 2) = (k : Int) + 2 := IntWalk.i64_in _ (by omega)
        obtain ⟨g, cg, e0, -, -, -, -⟩ := O4.out.spot (k := k) (by omega)
        simp only [Value.slice.injEq, true_and] at e0
        obtain ⟨rfl, rfl⟩ := e0
        have DM := Lib.hid (fun W h => delM g cq k w1.heap.size os W h hk (by omega))
        have hgL := LT.out g rfl
        have hgN := (O4.out.lt g rfl).1
        have RL := Lib.hid (red_less hk (hu hk) hb)
        have hlen : (os.take k ++ os.drop (k + 2)).length = os.length - 2 := by simp; omega
        clear hu hb
        go_wp2_with fail
        refine (DM.out _ O4.out).mono ?_
        rintro e w5 ⟨rfl, o5, g5⟩
        have HL5 := HL4.out.grown g5 (fun h => by have := Option.some.inj h; omega)
        have HX5 := HX4.out.grown g5 (fun h => by have := Option.some.inj h; omega)
        have B5 := B4.out.grown g5 B4.out.size (fun x hx => by have := Option.some.inj hx; omega)
        have L6 := Lib.hid (show Cel (w5.setCell ⟨L, 0, none⟩ (.slice (some ⟨g, 0, none⟩) (os.length - 2) cq)) L (.slice (some ⟨g, 0, none⟩) (os.take k ++ os.drop (k + 2)).length cq) by rw [hlen]; exact HL5.set _)
        have X6 := Lib.hid (HX5.other (a := ⟨L, 0, none⟩) (by show L ≠ w.heap.size; omega) (.slice (some ⟨g, 0, none⟩) (os.length - 2) cq))
        have O6 := Lib.hid (show OwnCross (w5.setCell ⟨L, 0, none⟩ (.slice (some ⟨g, 0, none⟩) (os.length - 2) cq)) w1.heap.size (.slice (some ⟨g, 0, none⟩) (os.take k ++ os.drop (k + 2)).length cq) (os.take k ++ os.drop (k + 2)) by
          rw [hlen]
          exact o5.kept (set_grown w5 L _) (.inr (fun h => by have e := Option.some.inj h; have e : g = L := e; omega)))
        have B6 := Lib.hid (B5.setCell (p := ⟨L, 0, none⟩) (by show w.heap.size ≤ L; omega) (.slice (some ⟨g, 0, none⟩) (os.length - 2) cq))
        have M6 := lenAt_of L6.out
        have LT6 := Lib.hid (show ∀ x, (Value.slice (some ⟨g, 0, none⟩) (os.take k ++ os.drop (k + 2)).length cq).ownBlock = some x → x < L from fun x h => by have e := Option.some.inj h; have e : g = x := e; omega)
        obtain ⟨m0, m1⟩ := HL5
        have hm := HM.out
        clear HX5 B5 o5 g5
        go_wp2
        exact ⟨⟨_, _, _, L6, X6, O6, Lib.hid (RL.out.trans HE.out), by omega, LT6, B6⟩, by omega⟩
end Go.Proofs.Ytbcibgibcojoeaa
