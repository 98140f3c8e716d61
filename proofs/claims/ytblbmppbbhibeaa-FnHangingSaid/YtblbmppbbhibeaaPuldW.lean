/- The contracts of spec.l04Pulls and spec.DrawHung. Condition: the bytes can be read; the body is valid. -/
import Derived.Test.YtblbmppbbhibeaaBdyW
import Derived.Test.YtblbmppbbhibeaaPullS
import Derived.Test.YtblbmppbbhibeaaCopS
namespace Go.Proofs.Ytblbmppbbhibeaa
set_option linter.unusedVariables false
set_option linter.unusedSimpArgs false
open Go.RowKit

/-- Pulls as they are drawn: in the range. -/
def Drawn (zs : List Int) : Prop := ∀ z ∈ zs, -1 ≤ z ∧ z ≤ 38
theorem drawn_more {zs : List Int} {x : Int} (h : Drawn zs) (h0 : -1 ≤ x) (h1 : x ≤ 38) : Drawn (zs ++ [x]) := fun z hz => by
  rcases List.mem_append.1 hz with hz | hz
  · exact h z hz
  · rw [List.mem_singleton] at hz
    subst hz
    exact ⟨h0, h1⟩
theorem drawn_fix {m : Nat} {ls : List Lb} {zs : List Int} (hok : bodyOk m ls = true) (hl : zs.length = m) (hm : 1 ≤ m) (hd : Drawn zs) : pullsOk m ls (zs.set 0 10) = true := by
  have hall : (zs.set 0 10).all (inRange (-1) 500) = true := by
    rw [List.all_eq_true]
    intro z hz
    unfold inRange
    rcases List.mem_or_eq_of_mem_set hz with h | rfl
    · have := hd z h
      exact decide_eq_true (by omega)
    · decide
  have hany : (zs.set 0 10).any pulled = true := by
    rw [List.any_eq_true]
    exact ⟨10, List.mem_set (by omega) _, by decide⟩
  unfold pullsOk
  rw [hok, hall, hany, List.length_set, hl, decide_eq_true rfl]
  rfl
/-- What the drawing of pulls keeps: the body's variable and its limbs, the cursor, the numbers drawn so far. -/
structure PuldK (w0 : World) (a : Option Addr) (n cap : Nat) (w : World) (b base m : Nat) (v : Value) (ls : List Lb) (vo : Value) (zs : List Int) (W : World) : Prop where
  box : BoxAt W w.heap.size m v
  lim : OwnL W base v ls
  out : OwnI W (w.heap.size + 1) vo zs
  st : St w0 a n cap W b
  gr : w.grownBy W (some b)
  sz : w.heap.size + 1 ≤ W.heap.size
  le : w0.heap.size ≤ w.heap.size
  cu : b < w.heap.size
  own : ∀ k, v.ownBlock = some k → k ≠ b ∧ k < w.heap.size
section
variable {w0 : World} {a : Option Addr} {n cap : Nat} {w : World} {b base m : Nat} {v : Value} {ls : List Lb} {vo vo' : Value} {zs zs' : List Int} {W W' : World} {row : Option Nat}
theorem PuldK.draw (K : PuldK w0 a n cap w b base m v ls vo zs W) (hs : St w0 a n cap W' b) (hg : W.grownBy W' (some b)) : PuldK w0 a n cap w b base m v ls vo zs W' :=
  ⟨K.box.grown hg (by simp; have := K.cu; omega), K.lim.kept hg (sep_of fun k hk e => (K.own k hk).1 (Option.some.inj e).symm), K.out.kept hg (sep_of fun k hk e => by
    have h1 := (K.out.lt k hk).1
    have h2 := Option.some.inj e
    have h3 := K.cu
    omega), hs, World.grownBy.trans K.gr hg, Nat.le_trans K.sz hg.size, K.le, K.cu, K.own⟩
theorem PuldK.below (K : PuldK w0 a n cap w b base m v ls vo zs W) (hb : Below W.heap.size W W') : PuldK w0 a n cap w b base m v ls vo zs W' :=
  K.draw (K.st.below' hb) (grown_of_below hb _)
theorem PuldK.alloc (K : PuldK w0 a n cap w b base m v ls vo zs W) (o : Obj) : PuldK w0 a n cap w b base m v ls vo zs (W.alloc o) :=
  K.below ((Below.refl _ _).alloc (Nat.le_refl _) _)
/-- A write into a row of the call's own. -/
theorem PuldK.other (K : PuldK w0 a n cap w b base m v ls vo zs W) (hg : W.grownBy W' row) (hr : ∀ k, row = some k → w.heap.size + 1 ≤ k) (ho : OwnI W' (w.heap.size + 1) vo' zs') : PuldK w0 a n cap w b base m v ls vo' zs' W' :=
  ⟨K.box.grown hg (fun e => by have := hr _ e.symm; omega), K.lim.kept hg (sep_of fun k hk e => by have := (K.own k hk).2; have := hr k e; omega), ho,
    K.st.grownR hg (fun e => by have := hr b e; have := K.cu; omega) (fun k hk => by have := hr k hk; have := K.le; omega),
    ⟨hg.os.trans K.gr.os, hg.tape.trans K.gr.tape, hg.output.trans K.gr.output, Nat.le_trans K.gr.size hg.size, fun k hk hne =>
      (hg.block k (Nat.lt_of_lt_of_le hk K.gr.size) (fun e => by have := hr k e.symm; omega)).trans (K.gr.block k hk hne)⟩,
    Nat.le_trans K.sz hg.size, K.le, K.cu, K.own⟩
end

def PuldPost (w0 : World) (a : Option Addr) (n cap : Nat) (w : World) (b m : Nat) (ls : List Lb) (e : Ending) (w' : World) : Prop :=
  ∃ v zs, e = .returned v ∧ OwnI w' (w.heap.size + 1) v zs ∧ pullsOk m ls zs = true ∧ St w0 a n cap w' b ∧ w.grownBy w' (some b)

set_option maxRecDepth 100000 in
set_option maxHeartbeats 1600000 in
theorem puld_any (w0 : World) (a : Option Addr) (n cap : Nat) (z : List Int) (hr : IsRow .u8 w0 a n cap z) (m : Nat) (v : Value) (ls : List Lb) (base : Nat) (hok : bodyOk m ls = true) (w : World) (b : Nat)
    (hs : St w0 a n cap w b) (hown : OwnL w base v ls) (hne : ∀ k, v.ownBlock = some k → k ≠ b) :
    Calls Try.prog 35 #[.pointer (some ⟨b, 0, none⟩), bodyV (m : Int) v] w (PuldPost w0 a n cap w b m ls) := by
  have BE := Lib.hid (fun W h => below_any w0 a n cap z hr W b h 40)
  have ON := Lib.hid (fun W h => once_any w0 a n cap z hr W b h 2)
  have CB := Lib.hid (fun W h => hok ▸ specOk m v ls base W h)
  have CP := Lib.hid (fun vp zs b2 W h1 h2 (hl : zs.length ≤ 2000000) => specPulls m v vp ls zs base b2 W h1 h2 hl)
  have hm := ok_len hok
  have hm1 : 1 ≤ m := by omega
  have hm12 : m ≤ 12 := by omega
  have FX := Lib.hid (fun zs hl hd => drawn_fix (zs := zs) hok hl hm1 hd)
  obtain ⟨A, c, e⟩ := hown.slice
  subst e
  have K0 := Lib.hid (show PuldK w0 a n cap w b base m (.slice A ls.length c) ls (.slice (some ⟨w.heap.size + 1, 0, none⟩) 0 0) [] ((w.alloc (.cells #[.int .i64 (m : Int), .slice A ls.length c] 26)).alloc (.cells #[] 3)) from
    ⟨(boxAt_new w (m : Int) (.slice A ls.length c)).alloc _, (hown.alloc _).alloc _, ownI_empty _ (w.heap.size + 1) (w.heap.size + 1) #[] (by simp) (Nat.le_refl _) rfl, (hs.alloc _).alloc _,
      grown_of_below (((Below.refl w.heap.size w).alloc (Nat.le_refl _) _).alloc (by simp) _) _, by simp, hs.below.size, hs.cur.lt, fun k hk => ⟨hne k hk, (hown.lt k hk).2⟩⟩)
  clear hr hs hown hne hok hm
  obtain ⟨i0, hi0, hz0, hz1, hz2⟩ := info_parts info_int
  have hpos : 0 < 1 := by omega
  unfold bodyV at CB CP ⊢
  go_enter Try.func35, Try.ntmps35
  go_wp2_with fail
  go_loopw [5, 6] (fun ov iv wr => ∃ (k : Nat) (vo : Value) (zs : List Int), vo = ov ∧ k ≤ m ∧ iv = .int .i64 (k : Int) ∧ Hid (zs.length = k ∧ Drawn zs) ∧ Hid (PuldK w0 a n cap w b base m (.slice A ls.length c) ls vo zs wr)) (fun _ iv _ => m - (intOf iv).toNat)
  case atStart => exact ⟨0, _, [], rfl, by omega, rfl, ⟨rfl, fun z hz => absurd hz (by simp)⟩, K0.out⟩
  case round =>
    clear K0
    obtain ⟨k, vo, zs, rfl, hk, rfl, HZ, HK⟩ := hrel
    obtain ⟨x0, x1⟩ := HK.out.box
    by_cases hlt : k < m
    · have hkm : (k : Int) < (m : Int) := by omega
      have hk20 : (k : Int) < 20 := by omega
      clear FX
      go_wp2_with fail
      refine (BE.out _ HK.out.st).mono ?_
      rintro e w1 ⟨x, rfl, ⟨hx0, hx1, -⟩, st1, g1⟩
      have hx40 := hx1 (by omega)
      have HK1 := Lib.hid (HK.out.draw st1 g1)
      have gw : IntKind.i64.wrap (x - 1) = x - 1 := IntWalk.i64_in _ (by omega)
      clear st1 g1 hx1 x0 x1
      go_wp2_with fail
      refine (ON.out _ HK1.out.st).mono ?_
      rintro e w2 ⟨y, rfl, st2, g2⟩
      have HK2 := Lib.hid (HK1.out.draw st2 g2)
      clear st2 g2
      have hzl := HZ.out.1
      have hmax : zs.length + 1 ≤ maxLen := by simp only [maxLen]; omega
      have hbd : (zs.length + 1) * 8 ≤ 140737488355328 := by omega
      have HZ2 := Lib.hid (fun u (h0 : -1 ≤ u) (h1 : u ≤ 38) => show (zs ++ [u]).length = k + 1 ∧ Drawn (zs ++ [u]) from ⟨by rw [List.length_append, hzl]; rfl, drawn_more HZ.out.2 h0 h1⟩)
      have hsz := HK2.out.sz
      have OUT := HK2.out.out
      have MORE := Lib.hid (fun (u : Int) w3 vo' (h1 : OwnI w3 (w.heap.size + 1) vo' (zs ++ [u])) (h2 : (w2.alloc (.cells #[.int .i64 u] 3)).grownBy w3 vo.ownBlock) => (HK2.out.alloc (.cells #[.int .i64 u] 3)).other h2 (fun k hk => (HK2.out.out.lt k hk).1) h1)
      clear hzl HZ HK HK1 HK2
      cases y with
      | true =>
        go_wp2_with (at_builtin; refine wpList_append_lies _ rfl (.tmp 24) (.tmp 26) 27 rfl (w.heap.size + 1) 3 i0 (.int .i64 0) 1 8 Try.underlying27 hi0 hz0 hz1 hz2 rfl hpos vo _ _ rfl (OUT.alloc _) ⟨w2.heap.size, 0, none⟩ 1 1 [.int .i64 (-1)] rfl rfl (cell_one_new _ _ _) ?_ hpos hmax hbd ?_ (w2.heap.size + 1) ?_ ?_; (simp [Value.oneCell']); (simp; omega); (simp); intro gg cap w3 hown1 hgrow hat hlt')
        exact ⟨⟨k + 1, _, _, rfl, by omega, by go_num, HZ2.out _ (by omega) (by omega), MORE.out _ _ _ (ownI_snoc hown1) hgrow⟩, by simp [intOf]; omega⟩
      | false =>
        go_wp2_with (at_builtin; refine wpList_append_lies _ rfl (.tmp 24) (.tmp 26) 27 rfl (w.heap.size + 1) 3 i0 (.int .i64 0) 1 8 Try.underlying27 hi0 hz0 hz1 hz2 rfl hpos vo _ _ rfl (OUT.alloc _) ⟨w2.heap.size, 0, none⟩ 1 1 [.int .i64 (x - 1)] rfl rfl (cell_one_new _ _ _) ?_ hpos hmax hbd ?_ (w2.heap.size + 1) ?_ ?_; (simp [Value.oneCell']); (simp; omega); (simp); intro gg cap w3 hown1 hgrow hat hlt')
        exact ⟨⟨k + 1, _, _, rfl, by omega, by go_num, HZ2.out _ (by omega) (by omega), MORE.out _ _ _ (ownI_snoc hown1) hgrow⟩, by simp [intOf]; omega⟩
    · obtain rfl : k = m := by omega
      obtain ⟨hzl, hzd⟩ := HZ.out
      obtain ⟨g, cv, rfl, -, -, -, -⟩ := HK.out.out.spot (k := 0) (by omega)
      have FIX := Lib.hid (FX.out zs hzl hzd)
      rw [hzl] at HK ⊢
      have hl2 : zs.length ≤ 2000000 := by omega
      have HL := Lib.hid hzl
      have hk0 : (0 : Int) < (k : Int) := by omega
      clear HZ hzd hzl FX BE ON
      go_wp2_with fail
      refine (CB.out _ HK.out.lim).mono ?_
      rintro e w1 ⟨rfl, b1⟩
      have HK1 := Lib.hid (HK.out.below b1)
      clear b1 x0 x1
      obtain ⟨x0, x1⟩ := HK1.out.box
      go_wp2_with fail
      refine (CP.out _ zs _ _ HK1.out.lim HK1.out.out hl2).mono ?_
      rintro e w2 ⟨rfl, b2⟩
      have HK2 := Lib.hid (HK1.out.below b2)
      clear b2 x0 x1 HK HK1
      cases hp : pullsOk k ls zs with
      | true =>
        have HP := Lib.hid hp
        clear hp
        go_wp2
        go_ret
        exact ⟨_, zs, rfl, HK2.out.out, HP.out, HK2.out.st, HK2.out.gr⟩
      | false =>
        obtain ⟨_, _, e1, hgB, _, z0, f0⟩ := HK2.out.out.spot (k := 0) (by rw [HL.out]; omega)
        simp only [Value.slice.injEq, Option.some.injEq, Addr.mk.injEq] at e1
        obtain ⟨⟨rfl, _⟩, em, ec⟩ := e1
        clear em ec hp
        have ST := Lib.hid (HK2.out.out.set HL.out.symm 0 10)
        have HK3 := Lib.hid (HK2.out.other ST.out.2 (fun k hk => by injection hk with hk; omega) ST.out.1)
        obtain ⟨u, hu⟩ : ∃ u, w2.cell? ⟨g, 0, none⟩ = some u := ⟨_, z0⟩
        clear z0
        go_wp2
        go_ret
        exact ⟨_, _, rfl, HK3.out.out, FIX.out, HK3.out.st, HK3.out.gr⟩

/-- What DrawHung comes to: a valid body and valid pulls, in rows of their own. -/
def HungPost (w : World) (e : Ending) (w' : World) : Prop :=
  ∃ (m : Nat) (v vp : Value) (ls : List Lb) (zs : List Int), e = .returned (.tuple #[bodyV (m : Int) v, vp]) ∧ OwnL w' w.heap.size v ls ∧ OwnI w' w.heap.size vp zs ∧ pullsOk m ls zs = true ∧ Below w.heap.size w w'
theorem own_setI {w : World} {base g o : Nat} {v u : Value} {zs : List Int} (h : OwnI w base v zs) (hg : g < base) : OwnI (w.setCell ⟨g, o, none⟩ u) base v zs :=
  h.kept (grown_cell w ⟨g, o, none⟩ u) (sep_of fun k hk e => by have := (h.lt k hk).1; have e' : g = k := Option.some.inj e; omega)

set_option maxRecDepth 100000 in
set_option maxHeartbeats 1600000 in
theorem hung_any (a : Option Addr) (n cap : Nat) (z : List Int) (w : World) (hr : IsRow .u8 w a n cap z) (hn : n ≤ 1048576) :
    Calls Try.prog 11 #[.slice a n cap] w (HungPost w) := by
  have hr0 := isRow_alloc hr (.cells #[.int .i64 0, .slice none 0 0] 26)
  have NW := Lib.hid (new_any _ a n cap z hr0 hn)
  have BD := Lib.hid (fun W b h => body_any _ a n cap z hr0 W b h)
  have PU := Lib.hid (fun m v ls base hok W b hs ho hne => puld_any _ a n cap z hr0 m v ls base hok W b hs ho hne)
  have R0 := Lib.hid (boxF_new w 0 (.slice none 0 0))
  clear hr hr0
  go_enter Try.func11, Try.ntmps11
  go_wp2_with fail
  refine NW.out.mono ?_
  rintro e w1 ⟨b, rfl, st1⟩
  have hb := st1.own
  have hb1 := st1.cur.lt
  have R1 := Lib.hid (R0.out.below st1.below)
  have B1 := Lib.hid st1.below
  have ST1 := Lib.hid st1
  simp only [World.size_alloc] at hb
  clear st1
  go_wp2_with fail
  refine (BD.out _ b ST1.out).mono ?_
  rintro e w2 ⟨J, v, ls, rfl, o2, hok, st2, g2⟩
  obtain ⟨m, rfl⟩ := Int.eq_ofNat_of_zero_le (show 0 ≤ J by have := ok_len hok; omega)
  obtain ⟨A, c, rfl⟩ := o2.slice
  have hlt2 := o2.lt
  have hsz : w.heap.size + 1 ≤ w1.heap.size := by have := B1.out.size; simpa using this
  have hsz2 : w1.heap.size ≤ w2.heap.size := g2.size
  have R3 := Lib.hid ((R1.out.grown g2 (by simp; omega)).alloc (.cells #[.int .i64 (m : Int), .slice A ls.length c] 26))
  have O3 := Lib.hid (o2.alloc (.cells #[.int .i64 (m : Int), .slice A ls.length c] 26))
  have X3 := Lib.hid (boxAt_new w2 (m : Int) (.slice A ls.length c))
  have ST3 := Lib.hid (st2.alloc (.cells #[.int .i64 (m : Int), .slice A ls.length c] 26))
  have NE := Lib.hid (fun k hk => show k ≠ b by have := (hlt2 k hk).1; omega)
  have CP := Lib.hid (fun W h1 h2 => PU.out m (.slice A ls.length c) ls w1.heap.size hok W b h1 h2 NE.out)
  clear o2 st2 g2 hok hlt2 PU BD NW R0 R1 ST1
  unfold bodyV at CP ⊢
  go_wp2_with fail
  go_region_held3 (fun w' => w'.cell? ⟨w2.heap.size, 0, none⟩ = some (.int .i64 (m : Int)) ∧ w'.cell? ⟨w2.heap.size, 1, none⟩ = some (.slice A ls.length c))
    (first | exact X3.out | exact X4.out | exact boxAt_set X4.out (by omega)) (first | (go_at_call 35; refine (CP.out _ ?_ ?_).mono ?_; (exact ST3.out.below' (Below.refl _ _).drew); (exact O3.out); rintro e w4 ⟨vp, zs, rfl, o4, hp, st4, g4'⟩; have g4 := undrewG g4'; have X4 := Lib.hid (BoxAt.grown (by exact X3.out) g4 (by simp; omega)); obtain ⟨⟨d0, d1⟩, f0, f1⟩ := BoxF.grown (by exact R3.out) g4 (by simp; omega)))
  have k0 := World.cell?_setCell_same w4 ⟨w.heap.size, 0, none⟩ (.int .i64 (m : Int)) d0
  obtain ⟨_, k1⟩ := cells_set2 (u := .int .i64 (m : Int)) (v := .slice A ls.length c) ⟨_, d0⟩ ⟨_, d1⟩
  have O4 := Lib.hid o4
  have L4 := Lib.hid (OwnL.kept (by exact O3.out) g4 (sep_of fun k hk e => NE.out k hk (Option.some.inj e).symm))
  have B4 := Lib.hid (((Below.refl w.heap.size w).alloc (Nat.le_refl _) (.cells #[.int .i64 0, .slice none 0 0] 26)).trans (st4.below.mono (by simp)))
  have HP := Lib.hid hp
  clear o4 st4 g4 g4' hp d0 d1
  go_wp2
  refine bodyPost_ret (v := .tuple #[bodyV (m : Int) (.slice A ls.length c), vp]) (by simp [results, Try.results11, go_sem, k0, k1, bodyV]) rfl ⟨m, _, _, ls, zs, rfl, ?_, ?_, HP.out, (B4.out.setCell (p := ⟨w.heap.size, 0, none⟩) (Nat.le_refl _) _).setCell (p := ⟨w.heap.size, 1, none⟩) (Nat.le_refl _) _⟩
  · exact ((L4.out.setCell_below (by show w.heap.size < _; omega) _).setCell_below (by show w.heap.size < _; omega) _).mono (by omega)
  · have h := O4.out
    simp only [World.size_drew, World.size_alloc] at h
    exact (own_setI (own_setI h (by omega)) (by omega)).mono (by omega)
end Go.Proofs.Ytblbmppbbhibeaa
