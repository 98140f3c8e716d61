/- The contracts of impl.MiddlePose, HighestPose and LowerPose, and of impl.poseOfBoth with each one's function literal (made by gen_bothI.py). Condition: both rows of numbers are rows of their own. -/
import Derived.Test.YtdbpejjbinbiiaaStpI
import Derived.Test.YtdbpejjbinbiiaaArgI
namespace Go.Proofs.Ytdbpejjbinbiiaa
set_option linter.unusedVariables false
open Go.RowKit

/-- The first k of n numbers made, the others still 0. -/
def doneTo (zs : List Int) (n k : Nat) : List Int := zs.take k ++ List.replicate (n - k) 0
theorem doneTo_len {zs : List Int} {n k : Nat} (h : zs.length = n) (hk : k ≤ n) : (doneTo zs n k).length = n := by
  unfold doneTo
  rw [List.length_append, List.length_take, List.length_replicate]
  omega
theorem doneTo_set {zs : List Int} {n k : Nat} (h : zs.length = n) (hk : k < zs.length) : (doneTo zs n k).set k zs[k] = doneTo zs n (k + 1) := by
  subst h
  exact copyI_set zs k hk
theorem doneTo_all {zs : List Int} {n : Nat} (h : zs.length = n) : doneTo zs n n = zs := by
  unfold doneTo
  rw [Nat.sub_self, ← h, List.take_length]
  simp
set_option maxHeartbeats 400000 in
theorem lit_MiddlePose (x y : Int) (hx : -2000 ≤ x ∧ x ≤ 2000) (hy : -2000 ≤ y ∧ y ≤ 2000) (w : World) :
    Calls Try.prog 47 #[.int .i64 x, .int .i64 y] w fun e w' => e = .returned (.int .i64 (mid x y)) ∧ w = w' := by
  have e1 : IntKind.i64.wrap (x + y) = x + y := IntWalk.i64_in _ (by omega)
  have e2 : IntKind.i64.wrap ((x + y) / 2) = (x + y) / 2 := IntWalk.i64_in _ (by omega)
  unfold mid
  go_enter Try.func47, Try.ntmps47
  go_wp2
  go_ret
  exact ⟨rfl, rfl⟩
set_option maxHeartbeats 400000 in
theorem lit_HighestPose (x y : Int) (_ : -2000 ≤ x ∧ x ≤ 2000) (_ : -2000 ≤ y ∧ y ≤ 2000) (w : World) :
    Calls Try.prog 45 #[.int .i64 x, .int .i64 y] w fun e w' => e = .returned (.int .i64 (max x y)) ∧ w = w' := by
  go_enter Try.func45, Try.ntmps45
  go_wp2
  · go_ret
    exact ⟨by rw [show max x y = y by omega]; rfl, rfl⟩
  · go_ret
    exact ⟨by rw [show max x y = x by omega]; rfl, rfl⟩
set_option maxHeartbeats 400000 in
theorem lit_LowerPose (x y : Int) (_ : -2000 ≤ x ∧ x ≤ 2000) (_ : -2000 ≤ y ∧ y ≤ 2000) (w : World) :
    Calls Try.prog 46 #[.int .i64 x, .int .i64 y] w fun e w' => e = .returned (.int .i64 (min x y)) ∧ w = w' := by
  go_enter Try.func46, Try.ntmps46
  go_wp2
  · go_ret
    exact ⟨by rw [show min x y = y by omega]; rfl, rfl⟩
  · go_ret
    exact ⟨by rw [show min x y = x by omega]; rfl, rfl⟩

set_option maxRecDepth 100000 in
set_option maxHeartbeats 1600000 in
theorem poseMiddlePose (v1 v2 : Value) (ps qs : List Int) (b1 b2 : Nat) (w : World) (h1 : OwnI w b1 v1 ps) (h2 : OwnI w b2 v2 qs) (hp : ps.length ≤ 2000000) (hq : qs.length ≤ 2000000) :
    Calls Try.prog 44 #[v1, v2, .func (.func 47) #[] #[]] w (IntsPost w (ofBoth mid ps qs)) := by
  have CS := Lib.hid (implStep v1 v2 ps qs b1 b2 w h1 h2 hp hq)
  obtain ⟨P, c, rfl⟩ := h1.slice
  obtain ⟨Q, d, rfl⟩ := h2.slice
  have HP := Lib.hid h1
  have HQ := Lib.hid h2
  clear h1 h2
  cases hok : pairOk ps qs with
  | false =>
    have R := Lib.hid (both_no (f := mid) hok)
    rw [step_no hok] at CS
    clear hok
    go_enter Try.func44, Try.ntmps44
    go_wp2_with (go_at_call 12; refine CS.out.mono ?_; rintro e w1 ⟨rfl, b1⟩)
    go_ret
    exact ⟨_, rfl, by rw [R.out]; exact ⟨rfl, .inl ⟨rfl, rfl⟩⟩, b1⟩
  | true =>
  obtain ⟨hl, h12, -, -⟩ := pair_parts hok
  obtain ⟨hr, -⟩ := step_none hok
  have hr : (stepSize ps qs == -1) = false := by simpa using hr
  have HO := Lib.hid hok
  have R := Lib.hid (both_yes (f := mid) hok)
  have ZL := Lib.hid (zip_len (f := mid) hok)
  have HL := Lib.hid hl
  generalize stepSize ps qs = r at CS hr
  obtain ⟨i, hi, hz, hs, hb⟩ := info_parts info_int
  clear hok hl
  go_enter Try.func44, Try.ntmps44
  go_wp2_with fail
  refine CS.out.mono ?_
  rintro e w0 ⟨rfl, b0⟩
  have B0 := Lib.hid b0
  have hs0 := b0.size
  clear b0 CS
  go_wp2_with (refine wpList_make_full _ rfl _ _ 27 rfl w0.heap.size 3 i (.int .i64 0) 1 Try.underlying27 hi hz hs .i64 .i64 _ _ ps.length rfl rfl rfl rfl (by rw [hb]; omega) (by simp only [maxLen]; omega) (by simp) ?_; intro w1 own1 grown1)
  have O0 := Lib.hid (show OwnI w1 w.heap.size (.slice (some ⟨w0.heap.size, 0, none⟩) ps.length ps.length) (doneTo (List.zipWith mid ps qs) ps.length 0) by
    rw [madeI] at own1
    have e : doneTo (List.zipWith mid ps qs) ps.length 0 = List.replicate ps.length 0 := by simp [doneTo]
    rw [e]
    have : OwnI w1 w0.heap.size (.slice (some ⟨w0.heap.size, 0, none⟩) ps.length ps.length) (List.replicate ps.length 0) := by
      unfold OwnI
      simpa using own1
    exact this.mono hs0)
  have B1 := Lib.hid (B0.out.trans ((below_of_grown grown1).mono hs0))
  clear own1 grown1
  go_loopw [18] (fun iv wr => ∃ k : Nat, k ≤ ps.length ∧ iv = .int .i64 (k : Int) ∧ Hid (OwnI wr w.heap.size (.slice (some ⟨w0.heap.size, 0, none⟩) ps.length ps.length) (doneTo (List.zipWith mid ps qs) ps.length k)) ∧ Hid (Below w.heap.size w wr)) (fun iv _ => ps.length - (intOf iv).toNat)
  case atStart => exact ⟨0, by omega, rfl, O0, B1⟩
  case round =>
    clear O0 B1
    obtain ⟨k, hk, rfl, HV, BW⟩ := hrel
    by_cases hlt : k < ps.length
    · have hlq : k < qs.length := by rw [← HL.out]; exact hlt
      have hlz : k < (List.zipWith mid ps qs).length := by rw [ZL.out]; exact hlt
      have hk0 : (0 : Int) ≤ (k : Int) := by omega
      have hk1 : (k : Int) < (ps.length : Int) := by omega
      have hk2 : (k : Int) < (qs.length : Int) := by omega
      obtain ⟨g, _, f1, _, _, z0, _⟩ := (HP.out.below BW.out).spot hlt
      simp only [Value.slice.injEq] at f1
      obtain ⟨rfl, em, rfl⟩ := f1
      clear em
      obtain ⟨gq, _, f2, _, _, z1, _⟩ := (HQ.out.below BW.out).spot hlq
      simp only [Value.slice.injEq] at f2
      obtain ⟨rfl, em, rfl⟩ := f2
      clear em
      have hlen := doneTo_len ZL.out hk
      obtain ⟨_, _, f3, hgo, lo, u0, f0⟩ := HV.out.spot (k := k) (by rw [hlen]; exact hlt)
      simp only [Value.slice.injEq, Option.some.injEq, Addr.mk.injEq] at f3
      obtain ⟨⟨rfl, _⟩, em, ec⟩ := f3
      clear em ec
      have st := HV.out.set hlen.symm k (List.zipWith mid ps qs)[k]
      rw [doneTo_set ZL.out hlz, List.getElem_zipWith] at st
      have hxr := pair_p HO.out hlt
      have hyr := pair_q HO.out hlq
      have C0 := Lib.hid (fun W => lit_MiddlePose ps[k] qs[k] hxr hyr W)
      have ST := Lib.hid (show _ ∧ Below _ _ _ from ⟨st.1, (BW.out.grown st.2 BW.out.size (by simpa using hgo))⟩)
      obtain ⟨u, hu⟩ : ∃ u, wr.cell? ⟨w0.heap.size, k, none⟩ = some u := ⟨_, u0⟩
      have gp : g < w.heap.size := (HP.out.lt g rfl).2
      have gv : gq < w.heap.size := (HQ.out.lt gq rfl).2
      have X0 := Lib.hid (And.intro z0 z1)
      have SK := Lib.hid (show ∀ v : Value, _ ∧ _ from fun v => ⟨(World.cell?_setCell_other wr ⟨w0.heap.size, k, none⟩ _ v (by intro e; have := congrArg Addr.block e; simp at this; omega)).trans z0,
        (World.cell?_setCell_other wr ⟨w0.heap.size, k, none⟩ _ v (by intro e; have := congrArg Addr.block e; simp at this; omega)).trans z1⟩)
      clear st hlen u0
      generalize ps[k] = x at z0 X0 SK C0 ST hxr
      generalize qs[k] = y at z1 X0 SK C0 ST hyr
      generalize mid x y = z at C0 ST
      clear hlt hlq hlz
      go_wp2_with fail
      go_region_held3 (fun W => W.cell? ⟨g, k, none⟩ = some (.int .i64 x) ∧ W.cell? ⟨gq, k, none⟩ = some (.int .i64 y))
        (first | exact X0.out | exact SK.out _)
        (first | (go_at_call 47; refine (C0.out _).mono ?_; rintro e w2 ⟨rfl, rfl⟩))
      go_wp2
      exact ⟨⟨k + 1, by omega, by go_num, Lib.hid (ST.out.1.below (Below.refl _ _).drew), Lib.hid ST.out.2.drew⟩, by simp [intOf]; omega⟩
    · obtain rfl : k = ps.length := by omega
      have O2 := Lib.hid (show OwnI wr w.heap.size (.slice (some ⟨w0.heap.size, 0, none⟩) ps.length ps.length) (ofBoth mid ps qs) by rw [R.out]; have := HV.out; rwa [doneTo_all ZL.out] at this)
      go_wp2
      go_ret
      exact ⟨_, rfl, O2.out, BW.out⟩

set_option maxHeartbeats 400000 in
theorem implMiddlePose (v1 v2 : Value) (ps qs : List Int) (b1 b2 : Nat) (w : World) (h1 : OwnI w b1 v1 ps) (h2 : OwnI w b2 v2 qs) (hp : ps.length ≤ 2000000) (hq : qs.length ≤ 2000000) :
    Calls Try.prog 15 #[v1, v2] w (IntsPost w (ofBoth mid ps qs)) := by
  have CS := Lib.hid (poseMiddlePose v1 v2 ps qs b1 b2 w h1 h2 hp hq)
  clear h1 h2
  go_enter Try.func15, Try.ntmps15
  go_wp2_with (go_at_call 44; refine CS.out.mono ?_; rintro e w1 ⟨v, rfl, o1, b1⟩; obtain ⟨A, n, rfl⟩ := o1.slice)
  go_ret
  exact ⟨_, rfl, o1, b1⟩

set_option maxRecDepth 100000 in
set_option maxHeartbeats 1600000 in
theorem poseHighestPose (v1 v2 : Value) (ps qs : List Int) (b1 b2 : Nat) (w : World) (h1 : OwnI w b1 v1 ps) (h2 : OwnI w b2 v2 qs) (hp : ps.length ≤ 2000000) (hq : qs.length ≤ 2000000) :
    Calls Try.prog 44 #[v1, v2, .func (.func 45) #[] #[]] w (IntsPost w (ofBoth max ps qs)) := by
  have CS := Lib.hid (implStep v1 v2 ps qs b1 b2 w h1 h2 hp hq)
  obtain ⟨P, c, rfl⟩ := h1.slice
  obtain ⟨Q, d, rfl⟩ := h2.slice
  have HP := Lib.hid h1
  have HQ := Lib.hid h2
  clear h1 h2
  cases hok : pairOk ps qs with
  | false =>
    have R := Lib.hid (both_no (f := max) hok)
    rw [step_no hok] at CS
    clear hok
    go_enter Try.func44, Try.ntmps44
    go_wp2_with (go_at_call 12; refine CS.out.mono ?_; rintro e w1 ⟨rfl, b1⟩)
    go_ret
    exact ⟨_, rfl, by rw [R.out]; exact ⟨rfl, .inl ⟨rfl, rfl⟩⟩, b1⟩
  | true =>
  obtain ⟨hl, h12, -, -⟩ := pair_parts hok
  obtain ⟨hr, -⟩ := step_none hok
  have hr : (stepSize ps qs == -1) = false := by simpa using hr
  have HO := Lib.hid hok
  have R := Lib.hid (both_yes (f := max) hok)
  have ZL := Lib.hid (zip_len (f := max) hok)
  have HL := Lib.hid hl
  generalize stepSize ps qs = r at CS hr
  obtain ⟨i, hi, hz, hs, hb⟩ := info_parts info_int
  clear hok hl
  go_enter Try.func44, Try.ntmps44
  go_wp2_with fail
  refine CS.out.mono ?_
  rintro e w0 ⟨rfl, b0⟩
  have B0 := Lib.hid b0
  have hs0 := b0.size
  clear b0 CS
  go_wp2_with (refine wpList_make_full _ rfl _ _ 27 rfl w0.heap.size 3 i (.int .i64 0) 1 Try.underlying27 hi hz hs .i64 .i64 _ _ ps.length rfl rfl rfl rfl (by rw [hb]; omega) (by simp only [maxLen]; omega) (by simp) ?_; intro w1 own1 grown1)
  have O0 := Lib.hid (show OwnI w1 w.heap.size (.slice (some ⟨w0.heap.size, 0, none⟩) ps.length ps.length) (doneTo (List.zipWith max ps qs) ps.length 0) by
    rw [madeI] at own1
    have e : doneTo (List.zipWith max ps qs) ps.length 0 = List.replicate ps.length 0 := by simp [doneTo]
    rw [e]
    have : OwnI w1 w0.heap.size (.slice (some ⟨w0.heap.size, 0, none⟩) ps.length ps.length) (List.replicate ps.length 0) := by
      unfold OwnI
      simpa using own1
    exact this.mono hs0)
  have B1 := Lib.hid (B0.out.trans ((below_of_grown grown1).mono hs0))
  clear own1 grown1
  go_loopw [18] (fun iv wr => ∃ k : Nat, k ≤ ps.length ∧ iv = .int .i64 (k : Int) ∧ Hid (OwnI wr w.heap.size (.slice (some ⟨w0.heap.size, 0, none⟩) ps.length ps.length) (doneTo (List.zipWith max ps qs) ps.length k)) ∧ Hid (Below w.heap.size w wr)) (fun iv _ => ps.length - (intOf iv).toNat)
  case atStart => exact ⟨0, by omega, rfl, O0, B1⟩
  case round =>
    clear O0 B1
    obtain ⟨k, hk, rfl, HV, BW⟩ := hrel
    by_cases hlt : k < ps.length
    · have hlq : k < qs.length := by rw [← HL.out]; exact hlt
      have hlz : k < (List.zipWith max ps qs).length := by rw [ZL.out]; exact hlt
      have hk0 : (0 : Int) ≤ (k : Int) := by omega
      have hk1 : (k : Int) < (ps.length : Int) := by omega
      have hk2 : (k : Int) < (qs.length : Int) := by omega
      obtain ⟨g, _, f1, _, _, z0, _⟩ := (HP.out.below BW.out).spot hlt
      simp only [Value.slice.injEq] at f1
      obtain ⟨rfl, em, rfl⟩ := f1
      clear em
      obtain ⟨gq, _, f2, _, _, z1, _⟩ := (HQ.out.below BW.out).spot hlq
      simp only [Value.slice.injEq] at f2
      obtain ⟨rfl, em, rfl⟩ := f2
      clear em
      have hlen := doneTo_len ZL.out hk
      obtain ⟨_, _, f3, hgo, lo, u0, f0⟩ := HV.out.spot (k := k) (by rw [hlen]; exact hlt)
      simp only [Value.slice.injEq, Option.some.injEq, Addr.mk.injEq] at f3
      obtain ⟨⟨rfl, _⟩, em, ec⟩ := f3
      clear em ec
      have st := HV.out.set hlen.symm k (List.zipWith max ps qs)[k]
      rw [doneTo_set ZL.out hlz, List.getElem_zipWith] at st
      have hxr := pair_p HO.out hlt
      have hyr := pair_q HO.out hlq
      have C0 := Lib.hid (fun W => lit_HighestPose ps[k] qs[k] hxr hyr W)
      have ST := Lib.hid (show _ ∧ Below _ _ _ from ⟨st.1, (BW.out.grown st.2 BW.out.size (by simpa using hgo))⟩)
      obtain ⟨u, hu⟩ : ∃ u, wr.cell? ⟨w0.heap.size, k, none⟩ = some u := ⟨_, u0⟩
      have gp : g < w.heap.size := (HP.out.lt g rfl).2
      have gv : gq < w.heap.size := (HQ.out.lt gq rfl).2
      have X0 := Lib.hid (And.intro z0 z1)
      have SK := Lib.hid (show ∀ v : Value, _ ∧ _ from fun v => ⟨(World.cell?_setCell_other wr ⟨w0.heap.size, k, none⟩ _ v (by intro e; have := congrArg Addr.block e; simp at this; omega)).trans z0,
        (World.cell?_setCell_other wr ⟨w0.heap.size, k, none⟩ _ v (by intro e; have := congrArg Addr.block e; simp at this; omega)).trans z1⟩)
      clear st hlen u0
      generalize ps[k] = x at z0 X0 SK C0 ST hxr
      generalize qs[k] = y at z1 X0 SK C0 ST hyr
      generalize max x y = z at C0 ST
      clear hlt hlq hlz
      go_wp2_with fail
      go_region_held3 (fun W => W.cell? ⟨g, k, none⟩ = some (.int .i64 x) ∧ W.cell? ⟨gq, k, none⟩ = some (.int .i64 y))
        (first | exact X0.out | exact SK.out _)
        (first | (go_at_call 45; refine (C0.out _).mono ?_; rintro e w2 ⟨rfl, rfl⟩))
      go_wp2
      exact ⟨⟨k + 1, by omega, by go_num, Lib.hid (ST.out.1.below (Below.refl _ _).drew), Lib.hid ST.out.2.drew⟩, by simp [intOf]; omega⟩
    · obtain rfl : k = ps.length := by omega
      have O2 := Lib.hid (show OwnI wr w.heap.size (.slice (some ⟨w0.heap.size, 0, none⟩) ps.length ps.length) (ofBoth max ps qs) by rw [R.out]; have := HV.out; rwa [doneTo_all ZL.out] at this)
      go_wp2
      go_ret
      exact ⟨_, rfl, O2.out, BW.out⟩

set_option maxHeartbeats 400000 in
theorem implHighestPose (v1 v2 : Value) (ps qs : List Int) (b1 b2 : Nat) (w : World) (h1 : OwnI w b1 v1 ps) (h2 : OwnI w b2 v2 qs) (hp : ps.length ≤ 2000000) (hq : qs.length ≤ 2000000) :
    Calls Try.prog 13 #[v1, v2] w (IntsPost w (ofBoth max ps qs)) := by
  have CS := Lib.hid (poseHighestPose v1 v2 ps qs b1 b2 w h1 h2 hp hq)
  clear h1 h2
  go_enter Try.func13, Try.ntmps13
  go_wp2_with (go_at_call 44; refine CS.out.mono ?_; rintro e w1 ⟨v, rfl, o1, b1⟩; obtain ⟨A, n, rfl⟩ := o1.slice)
  go_ret
  exact ⟨_, rfl, o1, b1⟩

set_option maxRecDepth 100000 in
set_option maxHeartbeats 1600000 in
theorem poseLowerPose (v1 v2 : Value) (ps qs : List Int) (b1 b2 : Nat) (w : World) (h1 : OwnI w b1 v1 ps) (h2 : OwnI w b2 v2 qs) (hp : ps.length ≤ 2000000) (hq : qs.length ≤ 2000000) :
    Calls Try.prog 44 #[v1, v2, .func (.func 46) #[] #[]] w (IntsPost w (ofBoth min ps qs)) := by
  have CS := Lib.hid (implStep v1 v2 ps qs b1 b2 w h1 h2 hp hq)
  obtain ⟨P, c, rfl⟩ := h1.slice
  obtain ⟨Q, d, rfl⟩ := h2.slice
  have HP := Lib.hid h1
  have HQ := Lib.hid h2
  clear h1 h2
  cases hok : pairOk ps qs with
  | false =>
    have R := Lib.hid (both_no (f := min) hok)
    rw [step_no hok] at CS
    clear hok
    go_enter Try.func44, Try.ntmps44
    go_wp2_with (go_at_call 12; refine CS.out.mono ?_; rintro e w1 ⟨rfl, b1⟩)
    go_ret
    exact ⟨_, rfl, by rw [R.out]; exact ⟨rfl, .inl ⟨rfl, rfl⟩⟩, b1⟩
  | true =>
  obtain ⟨hl, h12, -, -⟩ := pair_parts hok
  obtain ⟨hr, -⟩ := step_none hok
  have hr : (stepSize ps qs == -1) = false := by simpa using hr
  have HO := Lib.hid hok
  have R := Lib.hid (both_yes (f := min) hok)
  have ZL := Lib.hid (zip_len (f := min) hok)
  have HL := Lib.hid hl
  generalize stepSize ps qs = r at CS hr
  obtain ⟨i, hi, hz, hs, hb⟩ := info_parts info_int
  clear hok hl
  go_enter Try.func44, Try.ntmps44
  go_wp2_with fail
  refine CS.out.mono ?_
  rintro e w0 ⟨rfl, b0⟩
  have B0 := Lib.hid b0
  have hs0 := b0.size
  clear b0 CS
  go_wp2_with (refine wpList_make_full _ rfl _ _ 27 rfl w0.heap.size 3 i (.int .i64 0) 1 Try.underlying27 hi hz hs .i64 .i64 _ _ ps.length rfl rfl rfl rfl (by rw [hb]; omega) (by simp only [maxLen]; omega) (by simp) ?_; intro w1 own1 grown1)
  have O0 := Lib.hid (show OwnI w1 w.heap.size (.slice (some ⟨w0.heap.size, 0, none⟩) ps.length ps.length) (doneTo (List.zipWith min ps qs) ps.length 0) by
    rw [madeI] at own1
    have e : doneTo (List.zipWith min ps qs) ps.length 0 = List.replicate ps.length 0 := by simp [doneTo]
    rw [e]
    have : OwnI w1 w0.heap.size (.slice (some ⟨w0.heap.size, 0, none⟩) ps.length ps.length) (List.replicate ps.length 0) := by
      unfold OwnI
      simpa using own1
    exact this.mono hs0)
  have B1 := Lib.hid (B0.out.trans ((below_of_grown grown1).mono hs0))
  clear own1 grown1
  go_loopw [18] (fun iv wr => ∃ k : Nat, k ≤ ps.length ∧ iv = .int .i64 (k : Int) ∧ Hid (OwnI wr w.heap.size (.slice (some ⟨w0.heap.size, 0, none⟩) ps.length ps.length) (doneTo (List.zipWith min ps qs) ps.length k)) ∧ Hid (Below w.heap.size w wr)) (fun iv _ => ps.length - (intOf iv).toNat)
  case atStart => exact ⟨0, by omega, rfl, O0, B1⟩
  case round =>
    clear O0 B1
    obtain ⟨k, hk, rfl, HV, BW⟩ := hrel
    by_cases hlt : k < ps.length
    · have hlq : k < qs.length := by rw [← HL.out]; exact hlt
      have hlz : k < (List.zipWith min ps qs).length := by rw [ZL.out]; exact hlt
      have hk0 : (0 : Int) ≤ (k : Int) := by omega
      have hk1 : (k : Int) < (ps.length : Int) := by omega
      have hk2 : (k : Int) < (qs.length : Int) := by omega
      obtain ⟨g, _, f1, _, _, z0, _⟩ := (HP.out.below BW.out).spot hlt
      simp only [Value.slice.injEq] at f1
      obtain ⟨rfl, em, rfl⟩ := f1
      clear em
      obtain ⟨gq, _, f2, _, _, z1, _⟩ := (HQ.out.below BW.out).spot hlq
      simp only [Value.slice.injEq] at f2
      obtain ⟨rfl, em, rfl⟩ := f2
      clear em
      have hlen := doneTo_len ZL.out hk
      obtain ⟨_, _, f3, hgo, lo, u0, f0⟩ := HV.out.spot (k := k) (by rw [hlen]; exact hlt)
      simp only [Value.slice.injEq, Option.some.injEq, Addr.mk.injEq] at f3
      obtain ⟨⟨rfl, _⟩, em, ec⟩ := f3
      clear em ec
      have st := HV.out.set hlen.symm k (List.zipWith min ps qs)[k]
      rw [doneTo_set ZL.out hlz, List.getElem_zipWith] at st
      have hxr := pair_p HO.out hlt
      have hyr := pair_q HO.out hlq
      have C0 := Lib.hid (fun W => lit_LowerPose ps[k] qs[k] hxr hyr W)
      have ST := Lib.hid (show _ ∧ Below _ _ _ from ⟨st.1, (BW.out.grown st.2 BW.out.size (by simpa using hgo))⟩)
      obtain ⟨u, hu⟩ : ∃ u, wr.cell? ⟨w0.heap.size, k, none⟩ = some u := ⟨_, u0⟩
      have gp : g < w.heap.size := (HP.out.lt g rfl).2
      have gv : gq < w.heap.size := (HQ.out.lt gq rfl).2
      have X0 := Lib.hid (And.intro z0 z1)
      have SK := Lib.hid (show ∀ v : Value, _ ∧ _ from fun v => ⟨(World.cell?_setCell_other wr ⟨w0.heap.size, k, none⟩ _ v (by intro e; have := congrArg Addr.block e; simp at this; omega)).trans z0,
        (World.cell?_setCell_other wr ⟨w0.heap.size, k, none⟩ _ v (by intro e; have := congrArg Addr.block e; simp at this; omega)).trans z1⟩)
      clear st hlen u0
      generalize ps[k] = x at z0 X0 SK C0 ST hxr
      generalize qs[k] = y at z1 X0 SK C0 ST hyr
      generalize min x y = z at C0 ST
      clear hlt hlq hlz
      go_wp2_with fail
      go_region_held3 (fun W => W.cell? ⟨g, k, none⟩ = some (.int .i64 x) ∧ W.cell? ⟨gq, k, none⟩ = some (.int .i64 y))
        (first | exact X0.out | exact SK.out _)
        (first | (go_at_call 46; refine (C0.out _).mono ?_; rintro e w2 ⟨rfl, rfl⟩))
      go_wp2
      exact ⟨⟨k + 1, by omega, by go_num, Lib.hid (ST.out.1.below (Below.refl _ _).drew), Lib.hid ST.out.2.drew⟩, by simp [intOf]; omega⟩
    · obtain rfl : k = ps.length := by omega
      have O2 := Lib.hid (show OwnI wr w.heap.size (.slice (some ⟨w0.heap.size, 0, none⟩) ps.length ps.length) (ofBoth min ps qs) by rw [R.out]; have := HV.out; rwa [doneTo_all ZL.out] at this)
      go_wp2
      go_ret
      exact ⟨_, rfl, O2.out, BW.out⟩

set_option maxHeartbeats 400000 in
theorem implLowerPose (v1 v2 : Value) (ps qs : List Int) (b1 b2 : Nat) (w : World) (h1 : OwnI w b1 v1 ps) (h2 : OwnI w b2 v2 qs) (hp : ps.length ≤ 2000000) (hq : qs.length ≤ 2000000) :
    Calls Try.prog 14 #[v1, v2] w (IntsPost w (ofBoth min ps qs)) := by
  have CS := Lib.hid (poseLowerPose v1 v2 ps qs b1 b2 w h1 h2 hp hq)
  clear h1 h2
  go_enter Try.func14, Try.ntmps14
  go_wp2_with (go_at_call 44; refine CS.out.mono ?_; rintro e w1 ⟨v, rfl, o1, b1⟩; obtain ⟨A, n, rfl⟩ := o1.slice)
  go_ret
  exact ⟨_, rfl, o1, b1⟩
end Go.Proofs.Ytdbpejjbinbiiaa
