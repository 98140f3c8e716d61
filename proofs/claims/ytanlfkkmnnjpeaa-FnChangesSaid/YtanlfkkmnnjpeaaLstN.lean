/- The contracts of spec.l15Players, l15Night and DrawNight: what they draw are valid players, three at most, and a valid night. Condition: the bytes can be read. -/
import Derived.Test.YtanlfkkmnnjpeaaPlrK
import Derived.Test.YtanlfkkmnnjpeaaPk3
import Derived.Test.YtanlfkkmnnjpeaaRowRB
import Derived.Test.YtanlfkkmnnjpeaaPk7
import Derived.Test.YtanlfkkmnnjpeaaDraw
import Derived.Test.YtanlfkkmnnjpeaaNewA
namespace Go.Proofs.Ytanlfkkmnnjpeaa
set_option linter.unusedVariables false
set_option linter.unusedSimpArgs false
open Go.RowKit

set_option maxRecDepth 100000 in
set_option maxHeartbeats 3200000 in
theorem players15_any (w0 : World) (a : Option Addr) (n cap : Nat) (z : List Int) (hr : IsRow .u8 w0 a n cap z) (w : World) (b : Nat) (hs : St w0 a n cap w b) :
    Calls Try.prog 40 #[.pointer (some ⟨b, 0, none⟩)] w (PlsPost w0 a n cap w b) := by
  have BE := Lib.hid (fun m W h => below_any w0 a n cap z hr W b h m)
  have hsz := hs.below.size
  have hlt := hs.cur.lt
  have K0 := Lib.hid (show PlsK w0 a n cap w b (.slice (some ⟨w.heap.size, 0, none⟩) 0 0) [] (w.alloc (.cells #[] 71)) from
    ⟨emptyPlayer w w.heap.size w.heap.size #[] rfl (by omega) rfl, hs.alloc _, grown_of_below ((Below.refl w.heap.size w).alloc (Nat.le_refl _) _) _, hsz, hlt⟩)
  clear hr hs
  go_enter Try.func40, Try.ntmps40
  go_wp2_with fail
  refine (BE.out 3 _ K0.out.st).mono ?_
  rintro e w1 ⟨q, rfl, ⟨hq0, hq1, -⟩, st1, g1⟩
  have hq4 := hq1 (by omega)
  obtain ⟨q, rfl⟩ := Int.eq_ofNat_of_zero_le hq0
  have K1 := Lib.hid (K0.out.draw st1 g1)
  clear st1 g1 hq1 K0
  obtain ⟨N, hN⟩ : ∃ N : Nat, N = 1 + q := ⟨_, rfl⟩
  have e1 : IntKind.i64.wrap (1 + (q : Int)) = (N : Int) := by rw [IntWalk.i64_in _ (by omega)]; omega
  have hN7 : 1 ≤ N ∧ N ≤ 3 := by omega
  clear hq0 hq4 hN hsz hlt
  go_wp2_with fail
  go_loopw [3, 5] (fun ov kv wr => ∃ (ls : List RPlayer) (v : Value), v = ov ∧ ls.length ≤ N ∧ kv = .int .i64 (ls.length : Int) ∧ Hid (∀ l ∈ ls, GoodPlayer l) ∧ Hid (PlsK w0 a n cap w b v ls wr)) (fun _ kv _ => N - (intOf kv).toNat)
  case atStart => exact ⟨[], _, rfl, by simp, rfl, Lib.hid (fun k hk => absurd hk (by simp)), K1⟩
  case round =>
    clear K1
    obtain ⟨ls, v, rfl, hj, rfl, HG, HK⟩ := hrel
    by_cases hlt : ls.length < N
    rotate_left
    · obtain rfl : N = ls.length := by omega
      obtain ⟨V, c, rfl⟩ := HK.out.out.slice
      go_wp2
      go_ret
      exact ⟨_, ls, rfl, by omega, HG.out, HK.out⟩
    have hk1 : (ls.length : Int) < (N : Int) := by omega
    obtain ⟨V, c, rfl⟩ := HK.out.out.slice
    go_wp2_with fail
    refine (BE.out 2 _ HK.out.st).mono ?_
    rintro e w2 ⟨y0, rfl, ⟨hy0, hy1, -⟩, st2, g2⟩
    have hy2 := hy1 (by omega)
    obtain ⟨y, hy⟩ : ∃ y : Int, y = 1 + y0 := ⟨_, rfl⟩
    have ey : IntKind.i64.wrap (1 + y0) = y := by rw [hy]; exact IntWalk.i64_in _ (by omega)
    have hyr : 0 ≤ y ∧ y ≤ 2 := by omega
    have HK2 := Lib.hid (HK.out.draw st2 g2)
    clear st2 g2 hy1 HK hy
    have R2 := Lib.hid (HK2.out.born y)
    have X2 := Lib.hid (boxPlayer w2 y w2.heap.size (Nat.le_refl _))
    go_wp2_with fail
    go_loopw [7] (fun jv wx => ∃ (j : Nat) (l : RPlayer), j ≤ 5 ∧ jv = .int .i64 (j : Int) ∧ Hid (l.f1 = y ∧ Asc (j : Int) l.f0) ∧ Hid (PlrK w0 a n cap w b (.slice V ls.length c) ls w2.heap.size wx) ∧ Hid (OwnPlayer wx w2.heap.size (.slice (some ⟨w2.heap.size, 0, none⟩) 1 1) [l])) (fun jv _ => 5 - (intOf jv).toNat)
    case atStart => exact ⟨0, ⟨[], y⟩, by omega, rfl, Lib.hid ⟨rfl, asc_nil _⟩, R2, X2⟩
    case round =>
      clear R2 X2
      obtain ⟨j, l, hj, rfl, HF, HR, HX⟩ := hrel
      by_cases hjl : j < 5
      rotate_left
      · obtain rfl : j = 5 := by omega
        obtain ⟨A1, c1, ⟨x0, x1⟩, o1, hg0, hg1⟩ := boxedPl HX.out
        have GL := Lib.hid (show GoodPlayer l from ⟨by have := HF.out.1; omega, asc_more HF.out.2⟩)
        have O1 := Lib.hid o1
        have hs3 := HR.out.sz
        have hb3 := HR.out.bs
        have OR := Lib.hid (onePlayerRow wr l.f1 (.slice A1 l.f0.length c1) wr.heap.size (Nat.le_refl _))
        clear o1 HF HX
        go_wp2_with (
          at_builtin
          refine wpList_onePlayer rfl (.tmp 34) (.tmp 36) rfl w.heap.size w2.heap.size wr.heap.size _ _ _ ls l rfl rfl (HR.out.alloc _).out hb3 ?_ (O1.out.alloc _) OR.out ?_ ?_
          (simp; omega)
          (omega)
          intro v4 w4 o4 g4 hat4
          have K4 := Lib.hid ((HR.out.alloc _).done o4 g4)
          clear o4 g4 hat4)
        exact ⟨⟨ls ++ [l], _, rfl, by (rw [List.length_append]; exact hlt), by simp, Lib.hid (good_one HG.out GL.out), K4⟩, by simp [intOf]; omega⟩
      have hj1 : (j : Int) < 5 := by omega
      go_wp2_with fail
      refine (BE.out 3 _ HR.out.st).mono ?_
      rintro e w3 ⟨t, rfl, ⟨ht0, -, -⟩, st3, g3⟩
      have R3 := Lib.hid (HR.out.draw st3 g3)
      have X3 := Lib.hid (HX.out.older g3 (fun k hk => by have := Option.some.inj hk; have := HR.out.cu; have := HR.out.bs; omega))
      clear st3 g3 HR HX
      by_cases htp : 0 < t
      rotate_left
      · go_wp2
        exact ⟨⟨j + 1, l, by omega, by go_num, Lib.hid ⟨HF.out.1, asc_more HF.out.2⟩, R3, X3⟩, by simp [intOf]; omega⟩
      · obtain ⟨A1, c1, ⟨x0, x1⟩, o1, hg0, hg1⟩ := boxedPl X3.out
        have hl1 := asc_len HF.out.2
        have O1 := Lib.hid o1
        have NW := Lib.hid (oneI w3 w3.heap.size (j : Int) (Nat.le_refl _))
        have hs3 := R3.out.sz
        clear x1 o1
        go_wp2_with (
          at_builtin
          refine wpList_rowsI rfl (.tmp 29) (.tmp 31) rfl w2.heap.size w3.heap.size _ _ l.f0 [(j : Int)] rfl rfl (O1.out.alloc _) NW.out ?_ ?_ ?_
          (simp; omega)
          (simp; omega)
          intro v4 w4 o4 g4 hat4
          obtain ⟨A4, c4, rfl⟩ := o4.slice
          obtain ⟨s4, h4, x4, f4⟩ := swapPl X3.out x0 ((Below.refl _ _).alloc (Nat.le_refl _) _) g4 o4 hat4
          have R4 := Lib.hid (((R3.out.alloc _).step g4 (fun k hk => (O1.out.lt k hk).1)).step h4 (fun k hk => by have := Option.some.inj hk; omega))
          have X4 := Lib.hid s4
          have e4 : (l.f0 ++ [(j : Int)]).length = l.f0.length + 1 := by simp
          rw [e4] at R4 X4
          clear s4 h4 g4 o4 hat4 x0 e4)
        exact ⟨⟨j + 1, { l with f0 := l.f0 ++ [(j : Int)] }, by omega, by go_num, Lib.hid ⟨HF.out.1, asc_snoc HF.out.2 (by omega)⟩, R4, X4⟩, by simp [intOf]; omega⟩

/-- A moment that is drawn: three puppets at most. -/
def GoodMoment (l : List Int) : Prop := Asc 5 l ∧ l.length ≤ 3
/-- What the drawing of a night keeps: the rows so far, the cursor. -/
structure NgsK (w0 : World) (a : Option Addr) (n cap : Nat) (w : World) (b : Nat) (v : Value) (nt : List (List Int)) (W : World) : Prop where
  out : OwnR W w.heap.size v nt
  st : St w0 a n cap W b
  gr : w.grownBy W (some b)
  le : w0.heap.size ≤ w.heap.size
  cu : b < w.heap.size
/-- The same while a moment is drawn, behind B. -/
structure NgrK (w0 : World) (a : Option Addr) (n cap : Nat) (w : World) (b : Nat) (v : Value) (nt : List (List Int)) (B : Nat) (u : Value) (zs : List Int) (W : World) : Prop where
  pl : OwnRB W w.heap.size B v nt
  out : OwnI W B u zs
  st : St w0 a n cap W b
  gr : w.grownBy W (some b)
  le : w0.heap.size ≤ w.heap.size
  cu : b < w.heap.size
  bs : w.heap.size ≤ B
  sz : B ≤ W.heap.size
section
variable {w0 : World} {a : Option Addr} {n cap : Nat} {w : World} {b B : Nat} {v v' u u' : Value} {nt : List (List Int)} {zs zs' : List Int} {W W' : World}
theorem NgsK.draw (K : NgsK w0 a n cap w b v nt W) (hs : St w0 a n cap W' b) (hg : W.grownBy W' (some b)) : NgsK w0 a n cap w b v nt W' :=
  ⟨K.out.older hg (fun k hk => by have := Option.some.inj hk; have := K.cu; omega), hs, World.grownBy.trans K.gr hg, K.le, K.cu⟩
/-- A new empty moment. -/
theorem NgsK.born (K : NgsK w0 a n cap w b v nt W) : NgrK w0 a n cap w b v nt W.heap.size (.slice (some ⟨W.heap.size, 0, none⟩) 0 0) [] (W.alloc (.cells #[] 3)) := by
  have hb : Below w.heap.size W (W.alloc (.cells #[] 3)) := (Below.refl _ _).alloc K.gr.size _
  exact ⟨K.out.bound.below ((Below.refl _ _).alloc (Nat.le_refl _) _), ownI_empty W W.heap.size W.heap.size #[] rfl (Nat.le_refl _) rfl, st_other K.st K.le K.cu hb, gr_other K.gr hb, K.le, K.cu, K.gr.size, by simp⟩
theorem NgrK.draw (K : NgrK w0 a n cap w b v nt B u zs W) (hs : St w0 a n cap W' b) (hg : W.grownBy W' (some b)) : NgrK w0 a n cap w b v nt B u zs W' :=
  ⟨K.pl.outOf (grownIn_of hg) (fun k hk => by have := Option.some.inj hk; have := K.cu; left; omega), OwnI.kept K.out hg (sep_of fun k e1 e2 => by have := (K.out.lt k e1).1; have := Option.some.inj e2; have := K.cu; have := K.bs; omega), hs, World.grownBy.trans K.gr hg, K.le, K.cu, K.bs, Nat.le_trans K.sz hg.size⟩
/-- One puppet more. -/
theorem NgrK.more (K : NgrK w0 a n cap w b v nt B u zs W) (o : Obj) (ho : OwnI W' B u' zs') (hg : (W.alloc o).grownBy W' u.ownBlock) : NgrK w0 a n cap w b v nt B u' zs' W' := by
  have hbs := K.bs
  have hsz := K.sz
  have h1 : W.grownBy (W.alloc o) u.ownBlock := grown_of_below ((Below.refl W.heap.size W).alloc (Nat.le_refl _) o) _
  have h2 := World.grownBy.trans h1 hg
  have hb : Below w.heap.size W W' := (Below.refl _ _).grown h2 (by omega) (fun k hk => by have := (K.out.lt k hk).1; omega)
  exact ⟨K.pl.outOf (grownIn_of h2) (fun k hk => .inr (K.out.lt k hk).1), ho, st_other K.st K.le K.cu hb, gr_other K.gr hb, K.le, K.cu, K.bs, Nat.le_trans K.sz h2.size⟩
/-- The moment is appended. -/
theorem NgrK.done (K : NgrK w0 a n cap w b v nt B u zs W) {nt' : List (List Int)} (ho : OwnR W' w.heap.size v' nt') (o : Obj) (hg : (W.alloc o).grownBy W' v.ownBlock) : NgsK w0 a n cap w b v' nt' W' := by
  have hbs := K.bs
  have hsz := K.sz
  have h1 : W.grownBy (W.alloc o) v.ownBlock := grown_of_below ((Below.refl W.heap.size W).alloc (Nat.le_refl _) o) _
  have h2 := World.grownBy.trans h1 hg
  have hb : Below w.heap.size W W' := (Below.refl _ _).grown h2 (by omega) (fun k hk => (K.pl.own.lt k hk).1)
  exact ⟨ho, st_other K.st K.le K.cu hb, gr_other K.gr hb, K.le, K.cu⟩
end
theorem moment_one {nt : List (List Int)} {l : List Int} (h : ∀ x ∈ nt, GoodMoment x) (hl : GoodMoment l) : ∀ x ∈ nt ++ [l], GoodMoment x := fun x hx => by
  rcases List.mem_append.1 hx with q | q
  · exact h x q
  · rw [List.mem_singleton.1 q]; exact hl
def NgsPost (w0 : World) (a : Option Addr) (n cap : Nat) (w : World) (b : Nat) (e : Ending) (w' : World) : Prop :=
  ∃ (v : Value) (nt : List (List Int)), e = .returned v ∧ (1 ≤ nt.length ∧ nt.length ≤ 4) ∧ (∀ l ∈ nt, GoodMoment l) ∧ NgsK w0 a n cap w b v nt w'

set_option maxRecDepth 100000 in
set_option maxHeartbeats 3200000 in
theorem night_any (w0 : World) (a : Option Addr) (n cap : Nat) (z : List Int) (hr : IsRow .u8 w0 a n cap z) (w : World) (b : Nat) (hs : St w0 a n cap w b) :
    Calls Try.prog 41 #[.pointer (some ⟨b, 0, none⟩)] w (NgsPost w0 a n cap w b) := by
  have BE := Lib.hid (fun m W h => below_any w0 a n cap z hr W b h m)
  have ON := Lib.hid (fun m W h => once_any w0 a n cap z hr W b h m)
  have hsz := hs.below.size
  have hlt := hs.cur.lt
  have K0 := Lib.hid (show NgsK w0 a n cap w b (.slice (some ⟨w.heap.size, 0, none⟩) 0 0) [] (w.alloc (.cells #[] 33)) from
    ⟨emptyR w w.heap.size w.heap.size #[] rfl (by omega) rfl, hs.alloc _, grown_of_below ((Below.refl w.heap.size w).alloc (Nat.le_refl _) _) _, hsz, hlt⟩)
  clear hr hs
  go_enter Try.func41, Try.ntmps41
  go_wp2_with fail
  refine (BE.out 4 _ K0.out.st).mono ?_
  rintro e w1 ⟨q, rfl, ⟨hq0, hq1, -⟩, st1, g1⟩
  have hq4 := hq1 (by omega)
  obtain ⟨q, rfl⟩ := Int.eq_ofNat_of_zero_le hq0
  have K1 := Lib.hid (K0.out.draw st1 g1)
  clear st1 g1 hq1 K0
  obtain ⟨N, hN⟩ : ∃ N : Nat, N = 1 + q := ⟨_, rfl⟩
  have e1 : IntKind.i64.wrap (1 + (q : Int)) = (N : Int) := by rw [IntWalk.i64_in _ (by omega)]; omega
  have hN7 : 1 ≤ N ∧ N ≤ 4 := by omega
  clear hq0 hq4 hN hsz hlt
  go_wp2_with fail
  go_loopw [3, 5] (fun ov kv wr => ∃ (nt : List (List Int)) (v : Value), v = ov ∧ nt.length ≤ N ∧ kv = .int .i64 (nt.length : Int) ∧ Hid (∀ l ∈ nt, GoodMoment l) ∧ Hid (NgsK w0 a n cap w b v nt wr)) (fun _ kv _ => N - (intOf kv).toNat)
  case atStart => exact ⟨[], _, rfl, by simp, rfl, Lib.hid (fun k hk => absurd hk (by simp)), K1⟩
  case round =>
    clear K1
    obtain ⟨nt, v, rfl, hj, rfl, HG, HK⟩ := hrel
    obtain ⟨w2, rfl⟩ : ∃ w2, w2 = wr := ⟨wr, rfl⟩
    by_cases hlt : nt.length < N
    rotate_left
    · obtain rfl : N = nt.length := by omega
      obtain ⟨V, c, rfl⟩ := HK.out.out.slice
      go_wp2
      go_ret
      exact ⟨_, nt, rfl, by omega, HG.out, HK.out⟩
    have hk1 : (nt.length : Int) < (N : Int) := by omega
    have R2 := Lib.hid HK.out.born
    have OO := Lib.hid HK.out.out
    have hbw := HK.out.gr.size
    clear HK
    go_wp2_with fail
    go_loopw [6, 7] (fun uv jv wx => ∃ (j : Nat) (u : Value) (zs : List Int), j ≤ 5 ∧ u = uv ∧ jv = .int .i64 (j : Int) ∧ zs.length ≤ 3 ∧ Hid (Asc (j : Int) zs) ∧ Hid (NgrK w0 a n cap w b v nt w2.heap.size u zs wx)) (fun _ jv _ => 5 - (intOf jv).toNat)
    case atStart => exact ⟨0, _, [], by omega, rfl, rfl, by simp, Lib.hid (asc_nil _), R2⟩
    case round =>
      clear R2
      obtain ⟨j, u, zs, hj, rfl, rfl, hz3, HF, HR⟩ := hrel
      obtain ⟨U, d, rfl⟩ := HR.out.out.slice
      by_cases hgo : j < 5 ∧ zs.length < 3
      rotate_left
      · have GL := Lib.hid (show GoodMoment zs from ⟨by
          have h := HF.out
          exact ⟨fun z hz => by have := h.1 z hz; omega, h.2⟩, hz3⟩)
        have OR := Lib.hid (oneRow wr (.slice U zs.length d) wr.heap.size (Nat.le_refl _))
        have O1 := Lib.hid HR.out.out
        have P1 := Lib.hid HR.out.pl
        have hsz2 := HR.out.sz
        have hbm : Hid (Below w2.heap.size wr (wr.alloc (.cells #[.slice U zs.length d] 33))) := Lib.hid ((Below.refl _ _).alloc hsz2 _)
        have RB := Lib.hid (show OwnRB (wr.alloc (.cells #[.slice U zs.length d] 33)) w.heap.size w2.heap.size v nt from P1.out.below ((Below.refl _ _).alloc (Nat.le_refl _) _))
        have OZ := Lib.hid (show OwnI (wr.alloc (.cells #[.slice U zs.length d] 33)) w2.heap.size (.slice U zs.length d) zs from O1.out.alloc _)
        by_cases hj5 : j < 5
        · have hj1 : (j : Int) < 5 := by omega
          have hz1 : ¬ (zs.length : Int) < 3 := by omega
          go_wp2_with (
            at_builtin
            refine wpList_rowRB rfl (.tmp 33) (.tmp 35) rfl w.heap.size w2.heap.size wr.heap.size _ _ _ nt zs rfl rfl RB.out (by omega) OZ.out OR.out (by simp <;> omega) (by omega) ?_
            intro v4 w4 o4 g4 hat4
            have K4 := Lib.hid (HR.out.done o4 _ g4)
            clear o4 g4 hat4)
          exact ⟨⟨nt ++ [zs], _, rfl, by (rw [List.length_append]; exact hlt), by simp, Lib.hid (moment_one HG.out GL.out), K4⟩, by simp [intOf]; omega⟩
        · have hj1 : ¬ (j : Int) < 5 := by omega
          go_wp2_with (
            at_builtin
            refine wpList_rowRB rfl (.tmp 33) (.tmp 35) rfl w.heap.size w2.heap.size wr.heap.size _ _ _ nt zs rfl rfl RB.out (by omega) OZ.out OR.out (by simp <;> omega) (by omega) ?_
            intro v4 w4 o4 g4 hat4
            have K4 := Lib.hid (HR.out.done o4 _ g4)
            clear o4 g4 hat4)
          exact ⟨⟨nt ++ [zs], _, rfl, by (rw [List.length_append]; exact hlt), by simp, Lib.hid (moment_one HG.out GL.out), K4⟩, by simp [intOf]; omega⟩
      have hj1 : (j : Int) < 5 := by omega
      have hz1 : (zs.length : Int) < 3 := by omega
      go_wp2_with fail
      refine (ON.out 3 _ HR.out.st).mono ?_
      rintro e w3 ⟨t, rfl, st3, g3⟩
      have R3 := Lib.hid (HR.out.draw st3 g3)
      clear st3 g3 HR
      cases t with
      | false =>
        go_wp2
        exact ⟨⟨j + 1, _, zs, by omega, rfl, by go_num, hz3, Lib.hid (asc_more HF.out), R3⟩, by simp [intOf]; omega⟩
      | true =>
        have O1 := Lib.hid R3.out.out
        have NW := Lib.hid (oneI w3 w3.heap.size (j : Int) (Nat.le_refl _))
        have hs3 := R3.out.sz
        go_wp2_with (
          at_builtin
          refine wpList_rowsI rfl (.tmp 29) (.tmp 31) rfl w2.heap.size w3.heap.size _ _ zs [(j : Int)] rfl rfl (O1.out.alloc _) NW.out ?_ ?_ ?_
          (simp; omega)
          (simp; omega)
          intro v4 w4 o4 g4 hat4
          have K4 := Lib.hid (R3.out.more _ o4 g4)
          clear o4 g4 hat4)
        exact ⟨⟨j + 1, _, zs ++ [(j : Int)], by omega, rfl, by go_num, by (rw [List.length_append]; simp; omega), Lib.hid (asc_snoc HF.out (by omega)), K4⟩, by simp [intOf]; omega⟩

set_option maxRecDepth 100000 in
set_option maxHeartbeats 1600000 in
theorem drawNight_any (a : Option Addr) (n cap : Nat) (z : List Int) (w : World) (hr : IsRow .u8 w a n cap z) (hn : n ≤ 1048576) :
    Calls Try.prog 11 #[.slice a n cap] w fun e w' => ∃ (v u : Value) (ls : List RPlayer) (nt : List (List Int)), e = .returned (.tuple #[v, u]) ∧ OwnPlayer w' w.heap.size v ls ∧ OwnR w' w.heap.size u nt ∧ (1 ≤ ls.length ∧ ls.length ≤ 5) ∧ (∀ l ∈ ls, GoodPlayer l) ∧ (1 ≤ nt.length ∧ nt.length ≤ 4) ∧ (∀ l ∈ nt, GoodMoment l) ∧ Below w.heap.size w w' := by
  have C1 := Lib.hid (new_any w a n cap z hr hn)
  have C2 := Lib.hid (fun w' b h => players15_any w a n cap z hr w' b h)
  have C3 := Lib.hid (fun w' b h => night_any w a n cap z hr w' b h)
  clear hr
  go_enter Try.func11, Try.ntmps11
  go_wp2_with fail
  refine C1.out.mono ?_
  rintro e w1 ⟨b, rfl, s1⟩
  have S1 := Lib.hid s1
  clear s1
  go_wp2_with fail
  refine (C2.out _ _ S1.out).mono ?_
  rintro e w2 ⟨v, ls, rfl, hl, hg, k2⟩
  obtain ⟨V, c, rfl⟩ := k2.out.slice
  have K2 := Lib.hid k2
  have HG := Lib.hid hg
  clear k2 hg
  go_wp2_with fail
  refine (C3.out _ _ K2.out.st).mono ?_
  rintro e w3 ⟨u, nt, rfl, hm, hq, k3⟩
  obtain ⟨U, d, rfl⟩ := k3.out.slice
  have F := Lib.hid (show OwnPlayer w3 w.heap.size (.slice V ls.length c) ls ∧ OwnR w3 w.heap.size (.slice U nt.length d) nt ∧ Below w.heap.size w w3 from
    ⟨OwnPlayer.mono (K2.out.out.older k3.gr (fun k hk => by have := Option.some.inj hk; have := K2.out.cu; omega)) K2.out.le, k3.out.mono k3.le, k3.st.below⟩)
  have HQ := Lib.hid hq
  clear k3 hq K2 C1 C2 C3 S1
  go_wp2
  go_ret2
  exact ⟨_, _, ls, nt, rfl, F.out.1, F.out.2.1, hl, HG.out, hm, HQ.out, F.out.2.2⟩
end Go.Proofs.Ytanlfkkmnnjpeaa
