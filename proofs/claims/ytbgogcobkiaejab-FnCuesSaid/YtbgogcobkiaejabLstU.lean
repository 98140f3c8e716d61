/- The contracts of spec.l11List and spec.DrawCues: what they draw are valid cues, seven at most, each naming earlier ones only. Condition: the bytes can be read. -/
import Derived.Test.YtbgogcobkiaejabCueA
import Derived.Test.YtbgogcobkiaejabOnce
import Derived.Test.YtbgogcobkiaejabStK
import Derived.Test.YtbgogcobkiaejabStO
import Derived.Test.YtbgogcobkiaejabAscM
import Derived.Test.YtbgogcobkiaejabParI
import Derived.Deep.RegionHeld3
import Derived.BigQuiet
namespace Go.Proofs.Ytbgogcobkiaejab
set_option linter.unusedVariables false
set_option linter.unusedSimpArgs false
open Go.RowKit

def GoodCue (k : Nat) (l : RCue) : Prop := (1 ≤ l.f0 ∧ l.f0 ≤ 9) ∧ Asc k l.f1 ∧ Asc 5 l.f2
def GoodTo (ls : List RCue) : Prop := ∀ k (h : k < ls.length), GoodCue k ls[k]
theorem good_more {ls : List RCue} {l : RCue} (h : GoodTo ls) (hl : GoodCue ls.length l) : GoodTo (ls ++ [l]) := fun k hk => by
  by_cases c : k < ls.length
  · rw [List.getElem_append_left c]; exact h k c
  · have e : k = ls.length := by simp at hk; omega
    subst e
    rw [List.getElem_append_right (Nat.le_refl _)]
    simpa using hl
/-- What the drawing keeps: the row drawn so far, the cursor. -/
structure LstK (w0 : World) (a : Option Addr) (n cap : Nat) (w : World) (b : Nat) (v : Value) (ls : List RCue) (W : World) : Prop where
  out : OwnCue W w.heap.size v ls
  st : St w0 a n cap W b
  gr : w.grownBy W (some b)
  le : w0.heap.size ≤ w.heap.size
  cu : b < w.heap.size
/-- The same while a cue is made, behind B. -/
structure RestK (w0 : World) (a : Option Addr) (n cap : Nat) (w : World) (b : Nat) (v : Value) (ls : List RCue) (B : Nat) (W : World) : Prop where
  out : Held 31 3 W w.heap.size B v ls.length (flatCue ls)
  st : St w0 a n cap W b
  gr : w.grownBy W (some b)
  le : w0.heap.size ≤ w.heap.size
  cu : b < w.heap.size
  bs : w.heap.size ≤ B
  sz : B ≤ W.heap.size
section
variable {w0 : World} {a : Option Addr} {n cap : Nat} {w : World} {b B g : Nat} {v v' : Value} {ls ls' : List RCue} {l l' : RCue} {W W' W2 : World} {row : Option Nat}
theorem LstK.draw (K : LstK w0 a n cap w b v ls W) (hs : St w0 a n cap W' b) (hg : W.grownBy W' (some b)) : LstK w0 a n cap w b v ls W' :=
  ⟨K.out.older hg (fun k hk => by have := Option.some.inj hk; have := K.cu; omega), hs, World.grownBy.trans K.gr hg, K.le, K.cu⟩
theorem LstK.born (K : LstK w0 a n cap w b v ls W) (z : Int) : RestK w0 a n cap w b v ls W.heap.size (W.alloc (.cells #[.int .i64 z, .slice none 0 0, .slice none 0 0] 31)) := by
  have hb : Below w.heap.size W (W.alloc (.cells #[.int .i64 z, .slice none 0 0, .slice none 0 0] 31)) := (Below.refl _ _).alloc K.gr.size _
  exact ⟨(held_of K.out).below ((Below.refl _ _).alloc (Nat.le_refl _) _), st_other K.st K.le K.cu hb, gr_other K.gr hb, K.le, K.cu, K.gr.size, by simp⟩
theorem RestK.draw (K : RestK w0 a n cap w b v ls B W) (hs : St w0 a n cap W' b) (hg : W.grownBy W' (some b)) : RestK w0 a n cap w b v ls B W' :=
  ⟨K.out.kept hg (fun k hk => by have := Option.some.inj hk; have := K.cu; omega), hs, World.grownBy.trans K.gr hg, K.le, K.cu, K.bs, Nat.le_trans K.sz hg.size⟩
/-- A write past B. -/
theorem RestK.step (K : RestK w0 a n cap w b v ls B W) (hg : W.grownBy W' row) (hr : ∀ k, row = some k → B ≤ k) : RestK w0 a n cap w b v ls B W' := by
  have hbs := K.bs
  have hb : Below w.heap.size W W' := (Below.refl _ _).grown hg K.gr.size (fun k hk => by have := hr k hk; omega)
  exact ⟨K.out.kept hg (fun k hk => .inr (hr k hk)), st_other K.st K.le K.cu hb, gr_other K.gr hb, K.le, K.cu, K.bs, Nat.le_trans K.sz hg.size⟩
theorem RestK.alloc (K : RestK w0 a n cap w b v ls B W) (o : Obj) : RestK w0 a n cap w b v ls B (W.alloc o) :=
  K.step (row := none) (grown_of_below ((Below.refl W.heap.size W).alloc (Nat.le_refl _) o) none) (fun k hk => by cases hk)
/-- The cue is appended. -/
theorem RestK.done (K : RestK w0 a n cap w b v ls B W) (ho : OwnCue W' w.heap.size v' ls') (hg : W.grownBy W' v.ownBlock) : LstK w0 a n cap w b v' ls' W' := by
  obtain ⟨vs, h, _, _⟩ := K.out
  have hb : Below w.heap.size W W' := (Below.refl _ _).grown hg K.gr.size (fun k hk => (h.lt k hk).1)
  exact ⟨ho, st_other K.st K.le K.cu hb, gr_other K.gr hb, K.le, K.cu⟩
/-- The first row of the cue in the box has grown. -/
theorem swap1 {W1 : World} {l : RCue} {u : Value} {zs : List Int} {A1 : Option Addr} {c1 : Nat} (h : OwnCue W B (.slice (some ⟨g, 0, none⟩) 1 1) [l]) (hx : W.cell? ⟨g, 1, none⟩ = some (.slice A1 l.f1.length c1)) (hb : Below W.heap.size W W1)
    (hg : W1.grownBy W2 (.slice A1 l.f1.length c1 : Value).ownBlock) (hu : OwnI W2 B u zs) (hat : u.ownBlock = (.slice A1 l.f1.length c1 : Value).ownBlock ∨ u.ownBlock = some W1.heap.size) :
    OwnCue (W2.setCell ⟨g, 1, none⟩ u) B (.slice (some ⟨g, 0, none⟩) 1 1) [{ l with f1 := zs }] ∧ W2.grownBy (W2.setCell ⟨g, 1, none⟩ u) (some g) ∧ W2.cell? ⟨g, 1, none⟩ = some (.slice A1 l.f1.length c1) ∧ W2.frozen? ⟨g, 1, none⟩ = false := by
  obtain ⟨vs, h⟩ := h
  have hv : 1 < vs.length := by rw [h.len, flatCue_len]; simp
  obtain ⟨_, _, e1, _, x1, _⟩ := h.cell hv
  simp only [Value.slice.injEq, Option.some.injEq, Addr.mk.injEq, and_true, true_and] at e1
  obtain ⟨rfl, -⟩ := e1
  have e2 := Option.some.inj (x1.symm.trans hx)
  obtain ⟨s1, s2, s3, s4⟩ := h.swap hv hb (by rw [e2]; exact hg) hu (by rw [e2]; exact hat)
  exact ⟨⟨_, s1⟩, s2, by rw [s3, e2], s4⟩
theorem swap2 {W1 : World} {l : RCue} {u : Value} {zs : List Int} {A1 : Option Addr} {c1 : Nat} (h : OwnCue W B (.slice (some ⟨g, 0, none⟩) 1 1) [l]) (hx : W.cell? ⟨g, 2, none⟩ = some (.slice A1 l.f2.length c1)) (hb : Below W.heap.size W W1)
    (hg : W1.grownBy W2 (.slice A1 l.f2.length c1 : Value).ownBlock) (hu : OwnI W2 B u zs) (hat : u.ownBlock = (.slice A1 l.f2.length c1 : Value).ownBlock ∨ u.ownBlock = some W1.heap.size) :
    OwnCue (W2.setCell ⟨g, 2, none⟩ u) B (.slice (some ⟨g, 0, none⟩) 1 1) [{ l with f2 := zs }] ∧ W2.grownBy (W2.setCell ⟨g, 2, none⟩ u) (some g) ∧ W2.cell? ⟨g, 2, none⟩ = some (.slice A1 l.f2.length c1) ∧ W2.frozen? ⟨g, 2, none⟩ = false := by
  obtain ⟨vs, h⟩ := h
  have hv : 2 < vs.length := by rw [h.len, flatCue_len]; simp
  obtain ⟨_, _, e1, _, x1, _⟩ := h.cell hv
  simp only [Value.slice.injEq, Option.some.injEq, Addr.mk.injEq, and_true, true_and] at e1
  obtain ⟨rfl, -⟩ := e1
  have e2 := Option.some.inj (x1.symm.trans hx)
  obtain ⟨s1, s2, s3, s4⟩ := h.swap hv hb (by rw [e2]; exact hg) hu (by rw [e2]; exact hat)
  exact ⟨⟨_, s1⟩, s2, by rw [s3, e2], s4⟩
/-- The cue in the box: its cells, its rows. -/
theorem boxed (h : OwnCue W B (.slice (some ⟨g, 0, none⟩) 1 1) [l]) : ∃ A1 c1 A2 c2, (W.cell? ⟨g, 0, none⟩ = some (.int .i64 l.f0) ∧ W.cell? ⟨g, 1, none⟩ = some (.slice A1 l.f1.length c1) ∧ W.cell? ⟨g, 2, none⟩ = some (.slice A2 l.f2.length c2)) ∧ OwnI W B (.slice A1 l.f1.length c1) l.f1 ∧ OwnI W B (.slice A2 l.f2.length c2) l.f2 ∧
    ((.slice A1 l.f1.length c1 : Value).ownBlock = none ∨ (.slice A1 l.f1.length c1 : Value).ownBlock ≠ (.slice A2 l.f2.length c2 : Value).ownBlock) ∧ B ≤ g ∧ g < W.heap.size := by
  obtain ⟨vs, h⟩ := h
  have hl : vs.length = 3 := by rw [h.len, flatCue_len]; simp
  obtain ⟨_, _, e0, l0, x0, _⟩ := h.cell (t := 0) (by omega)
  obtain ⟨_, _, e1, _, x1, _⟩ := h.cell (t := 1) (by omega)
  obtain ⟨_, _, e2, _, x2, _⟩ := h.cell (t := 2) (by omega)
  simp only [Value.slice.injEq, Option.some.injEq, Addr.mk.injEq, and_true, true_and] at e0 e1 e2
  obtain ⟨rfl, -⟩ := e0
  obtain ⟨rfl, -⟩ := e1
  obtain ⟨rfl, -⟩ := e2
  have s0 := h.each 0 (by omega) (by rw [flatCue_len]; simp)
  have s1 := h.each 1 (by omega) (by rw [flatCue_len]; simp)
  have s2 := h.each 2 (by omega) (by rw [flatCue_len]; simp)
  have q1 : OwnI W B vs[1] l.f1 := s1
  have q2 : OwnI W B vs[2] l.f2 := s2
  have q0 : vs[0] = .int .i64 l.f0 := s0
  have ap := h.apart 1 2 (by omega) (by omega) (by omega)
  obtain ⟨A1, c1, y1⟩ := q1.slice
  obtain ⟨A2, c2, y2⟩ := q2.slice
  rw [y1] at x1 q1 ap
  rw [y2] at x2 q2 ap
  rw [q0] at x0
  exact ⟨A1, c1, A2, c2, ⟨x0, x1, x2⟩, q1, q2, ap, l0⟩
end
def LstPost (w0 : World) (a : Option Addr) (n cap : Nat) (w : World) (b : Nat) (e : Ending) (w' : World) : Prop :=
  ∃ (v : Value) (ls : List RCue), e = .returned v ∧ (1 ≤ ls.length ∧ ls.length ≤ 7) ∧ GoodTo ls ∧ LstK w0 a n cap w b v ls w'

set_option maxRecDepth 100000 in
set_option maxHeartbeats 3200000 in
theorem list_any (w0 : World) (a : Option Addr) (n cap : Nat) (z : List Int) (hr : IsRow .u8 w0 a n cap z) (w : World) (b : Nat) (hs : St w0 a n cap w b) :
    Calls Try.prog 33 #[.pointer (some ⟨b, 0, none⟩)] w (LstPost w0 a n cap w b) := by
  have BE := Lib.hid (fun m W h => below_any w0 a n cap z hr W b h m)
  have ON := Lib.hid (fun m W h => once_any w0 a n cap z hr W b h m)
  have hsz := hs.below.size
  have hlt := hs.cur.lt
  have K0 := Lib.hid (show LstK w0 a n cap w b (.slice (some ⟨w.heap.size, 0, none⟩) 0 0) [] (w.alloc (.cells #[] 31)) from
    ⟨emptyCue w w.heap.size w.heap.size #[] rfl (by omega) rfl, hs.alloc _, grown_of_below ((Below.refl w.heap.size w).alloc (Nat.le_refl _) _) _, hsz, hlt⟩)
  clear hr hs
  go_enter Try.func33, Try.ntmps33
  go_wp2_with fail
  refine (BE.out 7 _ K0.out.st).mono ?_
  rintro e w1 ⟨q, rfl, ⟨hq0, hq1, -⟩, st1, g1⟩
  have hq4 := hq1 (by omega)
  obtain ⟨q, rfl⟩ := Int.eq_ofNat_of_zero_le hq0
  have K1 := Lib.hid (K0.out.draw st1 g1)
  clear st1 g1 hq1 K0
  obtain ⟨N, hN⟩ : ∃ N : Nat, N = 1 + q := ⟨_, rfl⟩
  have e1 : IntKind.i64.wrap (1 + (q : Int)) = (N : Int) := by rw [IntWalk.i64_in _ (by omega)]; omega
  have hN7 : 1 ≤ N ∧ N ≤ 7 := by omega
  clear hq0 hq4 hN hsz hlt
  go_wp2_with fail
  go_loopw [3, 5] (fun ov kv wr => ∃ (ls : List RCue) (v : Value), v = ov ∧ ls.length ≤ N ∧ kv = .int .i64 (ls.length : Int) ∧ Hid (GoodTo ls) ∧ Hid (LstK w0 a n cap w b v ls wr)) (fun _ kv _ => N - (intOf kv).toNat)
  case atStart => exact ⟨[], _, rfl, by simp, rfl, Lib.hid (fun k hk => absurd hk (by simp)), K1⟩
  case round =>
    clear K1
    obtain ⟨ls, v, rfl, hj, rfl, HG, HK⟩ := hrel
    by_cases hlt : ls.length < N
    rotate_left
    · obtain rfl : N = ls.length := by omega
      obtain ⟨V, c, rfl⟩ := HK.out.out.slice
      go_wp2
      go_ret
      exact ⟨_, ls, rfl, hN7, HG.out, HK.out⟩
    have hk1 : (ls.length : Int) < (N : Int) := by omega
    obtain ⟨V, c, rfl⟩ := HK.out.out.slice
    go_wp2_with fail
    refine (BE.out 9 _ HK.out.st).mono ?_
    rintro e w2 ⟨y, rfl, ⟨hy0, hy1, -⟩, st2, g2⟩
    have hy9 := hy1 (by omega)
    have HK2 := Lib.hid (HK.out.draw st2 g2)
    have ey : IntKind.i64.wrap (1 + y) = 1 + y := IntWalk.i64_in _ (by omega)
    clear st2 g2 hy1 HK
    have R2 := Lib.hid (HK2.out.born (1 + y))
    have X2 := Lib.hid (boxCue w2 (1 + y) w2.heap.size (Nat.le_refl _))
    go_wp2_with fail
    go_loopw [7] (fun jv wx => ∃ (j : Nat) (l : RCue), j ≤ ls.length ∧ jv = .int .i64 (j : Int) ∧ Hid (l.f0 = 1 + y ∧ Asc (j : Int) l.f1 ∧ l.f2 = []) ∧ Hid (RestK w0 a n cap w b (.slice V ls.length c) ls w2.heap.size wx) ∧ Hid (OwnCue wx w2.heap.size (.slice (some ⟨w2.heap.size, 0, none⟩) 1 1) [l])) (fun jv _ => ls.length - (intOf jv).toNat)
    case atStart => exact ⟨0, ⟨1 + y, [], []⟩, by omega, rfl, Lib.hid ⟨rfl, asc_nil _, rfl⟩, R2, X2⟩
    case round =>
      clear R2 X2
      obtain ⟨j, l, hj, rfl, HF, HR, HX⟩ := hrel
      by_cases hjl : j < ls.length
      rotate_left
      · obtain rfl : j = ls.length := by omega
        have HF2 := Lib.hid (show l.f0 = 1 + y ∧ Asc (ls.length : Int) l.f1 ∧ Asc ((0 : Nat) : Int) l.f2 from ⟨HF.out.1, HF.out.2.1, by rw [HF.out.2.2]; exact asc_nil _⟩)
        clear HF hjl hj
        go_wp2_with fail
        go_loopw [8] (fun jv wx => ∃ (j : Nat) (l : RCue), j ≤ 5 ∧ jv = .int .i64 (j : Int) ∧ Hid (l.f0 = 1 + y ∧ Asc (ls.length : Int) l.f1 ∧ Asc (j : Int) l.f2) ∧ Hid (RestK w0 a n cap w b (.slice V ls.length c) ls w2.heap.size wx) ∧ Hid (OwnCue wx w2.heap.size (.slice (some ⟨w2.heap.size, 0, none⟩) 1 1) [l])) (fun jv _ => 5 - (intOf jv).toNat)
        case atStart => exact ⟨0, l, by omega, rfl, HF2, HR, HX⟩
        case round =>
          clear HF2 HR HX
          obtain ⟨j, l, hj, rfl, HF, HR, HX⟩ := hrel
          by_cases hjl : j < 5
          rotate_left
          · obtain rfl : j = 5 := by omega
            obtain ⟨A1, c1, A2, c2, ⟨x0, x1, x2⟩, o1, o2, a12, hg0, hg1⟩ := boxed HX.out
            have GL := Lib.hid (show GoodCue ls.length l from ⟨by have := HF.out.1; omega, HF.out.2.1, HF.out.2.2⟩)
            have O1 := Lib.hid o1
            have O2 := Lib.hid o2
            have hs3 := HR.out.sz
            have hb3 := HR.out.bs
            have OR := Lib.hid (oneCueRow wr l.f0 (.slice A1 l.f1.length c1) (.slice A2 l.f2.length c2) wr.heap.size (Nat.le_refl _))
            have SE := Lib.hid a12
            clear o1 o2 a12 HF HX
            go_wp2_with (
              at_builtin
              refine wpList_oneCue rfl (.tmp 47) (.tmp 49) rfl w.heap.size w2.heap.size wr.heap.size _ _ _ _ ls l rfl rfl (HR.out.alloc _).out hb3 ?_ (O1.out.alloc _) (O2.out.alloc _) SE.out OR.out ?_ ?_
              (simp; omega)
              (omega)
              intro v4 w4 o4 g4 hat4
              have K4 := Lib.hid ((HR.out.alloc _).done o4 g4)
              clear o4 g4 hat4)
            exact ⟨⟨ls ++ [l], _, rfl, by (rw [List.length_append]; exact hlt), by simp, Lib.hid (good_more HG.out GL.out), K4⟩, by simp [intOf]; omega⟩
          have hj1 : (j : Int) < 5 := by omega
          go_wp2_with fail
          refine (ON.out 3 _ HR.out.st).mono ?_
          rintro e w3 ⟨t, rfl, st3, g3⟩
          have R3 := Lib.hid (HR.out.draw st3 g3)
          have X3 := Lib.hid (HX.out.older g3 (fun k hk => by have := Option.some.inj hk; have := HR.out.cu; have := HR.out.bs; omega))
          clear st3 g3 HR HX
          cases t with
          | false =>
            go_wp2
            exact ⟨⟨j + 1, l, by omega, by go_num, Lib.hid ⟨HF.out.1, HF.out.2.1, asc_more HF.out.2.2⟩, R3, X3⟩, by simp [intOf]; omega⟩
          | true =>
            obtain ⟨A1, c1, A2, c2, ⟨x0, x1, x2⟩, o1, o2, a12, hg0, hg1⟩ := boxed X3.out
            have hl1 := asc_len HF.out.2.2
            have O1 := Lib.hid o2
            have NW := Lib.hid (oneI w3 w3.heap.size (j : Int) (Nat.le_refl _))
            have hs3 := R3.out.sz
            clear x0 x1 o1 o2 a12
            go_wp2_with (
              at_builtin
              refine wpList_rowsI rfl (.tmp 42) (.tmp 44) rfl w2.heap.size w3.heap.size _ _ l.f2 [(j : Int)] rfl rfl (O1.out.alloc _) NW.out ?_ ?_ ?_
              (simp; omega)
              (simp; omega)
              intro v4 w4 o4 g4 hat4
              obtain ⟨A4, c4, rfl⟩ := o4.slice
              obtain ⟨s4, h4, x4, f4⟩ := swap2 X3.out x2 ((Below.refl _ _).alloc (Nat.le_refl _) _) g4 o4 hat4
              have R4 := Lib.hid (((R3.out.alloc _).step g4 (fun k hk => (O1.out.lt k hk).1)).step h4 (fun k hk => by have := Option.some.inj hk; omega))
              have X4 := Lib.hid s4
              have e4 : (l.f2 ++ [(j : Int)]).length = l.f2.length + 1 := by simp
              rw [e4] at R4 X4
              clear s4 h4 g4 o4 hat4 x2 e4)
            exact ⟨⟨j + 1, { l with f2 := l.f2 ++ [(j : Int)] }, by omega, by go_num, Lib.hid ⟨HF.out.1, HF.out.2.1, asc_snoc HF.out.2.2 (by omega)⟩, R4, X4⟩, by simp [intOf]; omega⟩
      have hj1 : (j : Int) < (ls.length : Int) := by omega
      go_wp2_with fail
      refine (ON.out 4 _ HR.out.st).mono ?_
      rintro e w3 ⟨t, rfl, st3, g3⟩
      have R3 := Lib.hid (HR.out.draw st3 g3)
      have X3 := Lib.hid (HX.out.older g3 (fun k hk => by have := Option.some.inj hk; have := HR.out.cu; have := HR.out.bs; omega))
      clear st3 g3 HR HX
      cases t with
      | false =>
        go_wp2
        exact ⟨⟨j + 1, l, by omega, by go_num, Lib.hid ⟨HF.out.1, asc_more HF.out.2.1, HF.out.2.2⟩, R3, X3⟩, by simp [intOf]; omega⟩
      | true =>
        obtain ⟨A1, c1, A2, c2, ⟨x0, x1, x2⟩, o1, o2, a12, hg0, hg1⟩ := boxed X3.out
        have hl1 := asc_len HF.out.2.1
        have O1 := Lib.hid o1
        have NW := Lib.hid (oneI w3 w3.heap.size (j : Int) (Nat.le_refl _))
        have hs3 := R3.out.sz
        clear x0 x2 o1 o2 a12
        go_wp2_with (
          at_builtin
          refine wpList_rowsI rfl (.tmp 30) (.tmp 32) rfl w2.heap.size w3.heap.size _ _ l.f1 [(j : Int)] rfl rfl (O1.out.alloc _) NW.out ?_ ?_ ?_
          (simp; omega)
          (simp; omega)
          intro v4 w4 o4 g4 hat4
          obtain ⟨A4, c4, rfl⟩ := o4.slice
          obtain ⟨s4, h4, x4, f4⟩ := swap1 X3.out x1 ((Below.refl _ _).alloc (Nat.le_refl _) _) g4 o4 hat4
          have R4 := Lib.hid (((R3.out.alloc _).step g4 (fun k hk => (O1.out.lt k hk).1)).step h4 (fun k hk => by have := Option.some.inj hk; omega))
          have X4 := Lib.hid s4
          have e4 : (l.f1 ++ [(j : Int)]).length = l.f1.length + 1 := by simp
          rw [e4] at R4 X4
          clear s4 h4 g4 o4 hat4 x1 e4)
        exact ⟨⟨j + 1, { l with f1 := l.f1 ++ [(j : Int)] }, by omega, by go_num, Lib.hid ⟨HF.out.1, asc_snoc HF.out.2.1 (by omega), HF.out.2.2⟩, R4, X4⟩, by simp [intOf]; omega⟩

set_option maxRecDepth 100000 in
set_option maxHeartbeats 800000 in
theorem drawCues_any (a : Option Addr) (n cap : Nat) (z : List Int) (w : World) (hr : IsRow .u8 w a n cap z) (hn : n ≤ 1048576) :
    Calls Try.prog 11 #[.slice a n cap] w fun e w' => ∃ (v : Value) (ls : List RCue), e = .returned v ∧ OwnCue w' w.heap.size v ls ∧ (1 ≤ ls.length ∧ ls.length ≤ 7) ∧ GoodTo ls ∧ Below w.heap.size w w' := by
  have C1 := Lib.hid (new_any w a n cap z hr hn)
  have C2 := Lib.hid (fun w' b h => list_any w a n cap z hr w' b h)
  clear hr
  go_enter Try.func11, Try.ntmps11
  go_wp2_with fail
  refine C1.out.mono ?_
  rintro e w1 ⟨b, rfl, s1⟩
  have S1 := Lib.hid s1
  clear s1
  go_wp2_with fail
  refine (C2.out _ _ S1.out).mono ?_
  rintro e w2 ⟨v, ls, rfl, hl, hg, k2⟩
  obtain ⟨V, c, rfl⟩ := k2.out.slice
  have F := Lib.hid (And.intro (k2.out.mono S1.out.below.size) k2.st.below)
  have HG := Lib.hid hg
  clear k2 hg
  go_wp2
  go_ret
  exact ⟨_, ls, rfl, F.out.1, hl, HG.out, F.out.2⟩
end Go.Proofs.Ytbgogcobkiaejab
