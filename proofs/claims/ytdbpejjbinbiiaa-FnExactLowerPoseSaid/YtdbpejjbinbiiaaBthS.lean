/- The contracts of spec.MiddlePose, HighestPose and LowerPose (made by gen_both.py). Condition: both rows of numbers are rows of their own. -/
import Derived.Test.YtdbpejjbinbiiaaStpS
import Derived.Deep.AppendLies
namespace Go.Proofs.Ytdbpejjbinbiiaa
set_option linter.unusedVariables false
open Go.RowKit

theorem OwnI.allocDrew {w : World} {base : Nat} {v : Value} {zs : List Int} (h : OwnI w base v zs) (o : Obj) : OwnI (w.alloc o).drew base v zs := (h.alloc o).below ((Below.refl _ _).drew)
theorem undrewR {W w2 : World} {row : Option Nat} (h : W.drew.grownBy w2 row) : W.grownBy w2 row := ⟨h.os, h.tape, h.output, h.size, fun k hk hn => h.block k hk hn⟩
theorem ifless_max (x y : Int) : (if x < y then y else x) = max x y := by split <;> omega
theorem ifless_min (x y : Int) : (if y < x then y else x) = min x y := by split <;> omega
theorem mid_quo (x y : Int) (h : 0 ≤ x + y + 4000) : Int.tdiv (x + y + 4000) 2 - 2000 = mid x y := by
  rw [Int.tdiv_eq_ediv_of_nonneg h]
  unfold mid
  omega

set_option maxRecDepth 100000 in
set_option maxHeartbeats 1600000 in
theorem specMiddlePose (v1 v2 : Value) (ps qs : List Int) (b1 b2 : Nat) (w : World) (h1 : OwnI w b1 v1 ps) (h2 : OwnI w b2 v2 qs) (hp : ps.length ≤ 2000000) (hq : qs.length ≤ 2000000) :
    Calls Try.prog 30 #[v1, v2] w (IntsPost w (ofBoth mid ps qs)) := by
  have CS := Lib.hid (fun W h1 h2 => specStep v1 v2 ps qs b1 b2 W h1 h2 hp hq)
  obtain ⟨P, c, rfl⟩ := h1.slice
  obtain ⟨Q, d, rfl⟩ := h2.slice
  have HP := Lib.hid h1
  have HQ := Lib.hid h2
  clear h1 h2
  have O0 := Lib.hid (ownI_empty w w.heap.size w.heap.size #[] rfl (Nat.le_refl _) rfl)
  cases hok : pairOk ps qs with
  | false =>
    have R := Lib.hid (both_no (f := mid) hok)
    rw [step_no hok] at CS
    clear hok
    go_enter Try.func30, Try.ntmps30
    go_wp2_with fail
    go_loopw [5, 6] (fun ov iv wr => ∃ vo, vo = ov ∧ iv = .int .i64 0 ∧ OwnI wr w.heap.size vo [] ∧ Hid (Below w.heap.size w wr)) (fun _ iv _ => 0)
    case atStart => exact ⟨_, rfl, rfl, O0.out, Lib.hid ((Below.refl w.heap.size w).alloc (Nat.le_refl _) _)⟩
    case round =>
      obtain ⟨vo, rfl, rfl, hown, BW⟩ := hrel
      have O := Lib.hid hown
      clear hown
      by_cases h0 : ps.length = 0
      · have hk1 : ¬ (0 : Int) < (ps.length : Int) := by omega
        clear h0
        go_wp2
        go_ret
        exact ⟨_, rfl, by rw [R.out]; exact O.out, BW.out⟩
      · have hk1 : (0 : Int) < (ps.length : Int) := by omega
        have CW := Lib.hid (CS.out _ (HP.out.below BW.out) (HQ.out.below BW.out))
        clear h0
        go_wp2_with (go_at_call 20; refine CW.out.mono ?_; rintro e w1 ⟨rfl, b1⟩)
        go_ret
        exact ⟨_, rfl, by rw [R.out]; exact O.out.below b1, BW.out.trans (b1.mono BW.out.size)⟩
  | true =>
  obtain ⟨hl, h12, -, -⟩ := pair_parts hok
  obtain ⟨-, hr⟩ := step_none hok
  have HO := Lib.hid hok
  have R := Lib.hid (both_yes (f := mid) hok)
  have ZL := Lib.hid (zip_len (f := mid) hok)
  have HL := Lib.hid hl
  generalize stepSize ps qs = r at CS hr
  obtain ⟨i0, hi0, hz0, hz1, hz2⟩ := info_parts info_int
  have hpos : 0 < 1 := by omega
  clear hok hl
  go_enter Try.func30, Try.ntmps30
  go_wp2_with fail
  go_loopw [5, 6] (fun ov iv wr => ∃ (k : Nat) (vo : Value), vo = ov ∧ k ≤ ps.length ∧ iv = .int .i64 (k : Int) ∧ Hid (OwnI wr w.heap.size vo ((List.zipWith mid ps qs).take k)) ∧ Hid (Below w.heap.size w wr)) (fun _ iv _ => ps.length - (intOf iv).toNat)
  case atStart => exact ⟨0, _, rfl, by omega, rfl, Lib.hid O0.out, Lib.hid ((Below.refl w.heap.size w).alloc (Nat.le_refl _) _)⟩
  case round =>
    obtain ⟨k, vo, rfl, hk, rfl, HV, BW⟩ := hrel
    by_cases hlt : k < ps.length
    · have hlq : k < qs.length := by rw [← HL.out]; exact hlt
      have hk0 : (0 : Int) ≤ (k : Int) := by omega
      have hk1 : (k : Int) < (ps.length : Int) := by omega
      have hk2 : (k : Int) < (qs.length : Int) := by omega
      have CW := Lib.hid (CS.out _ (HP.out.below BW.out) (HQ.out.below BW.out))
      go_wp2_with (go_at_call 20; refine CW.out.mono ?_; rintro e w1 ⟨rfl, b1⟩)
      have B1 := Lib.hid (BW.out.trans (b1.mono BW.out.size))
      have V1 := Lib.hid (HV.out.below b1)
      clear b1 CW BW HV
      obtain ⟨g, _, f1, _, _, z0, _⟩ := (HP.out.below B1.out).spot hlt
      simp only [Value.slice.injEq] at f1
      obtain ⟨rfl, em, rfl⟩ := f1
      clear em
      obtain ⟨gq, _, f2, _, _, z1, _⟩ := (HQ.out.below B1.out).spot hlq
      simp only [Value.slice.injEq] at f2
      obtain ⟨rfl, em, rfl⟩ := f2
      clear em
      have hxr := pair_p HO.out hlt
      have hyr := pair_q HO.out hlq
      have ZM := Lib.hid (zip_more (f := mid) hlt hlq)
      have hml : ((List.zipWith mid ps qs).take k).length = k := by rw [List.length_take, ZL.out]; omega
      generalize ps[k] = x at z0 hxr ZM
      generalize qs[k] = y at z1 hyr ZM
      generalize (List.zipWith mid ps qs).take k = ts at V1 ZM hml
      clear hlt hlq
      have NE := Lib.hid (show some g ≠ vo.ownBlock ∧ some gq ≠ vo.ownBlock from ⟨fun e => by have := (V1.out.lt _ e.symm).1; have := (HP.out.lt g rfl).2; omega, fun e => by have := (V1.out.lt _ e.symm).1; have := (HQ.out.lt gq rfl).2; omega⟩)
      have hmax : ts.length + 1 ≤ maxLen := by simp only [maxLen]; omega
      have hbd : (ts.length + 1) * 8 ≤ 140737488355328 := by omega
      have hown := V1.out
      have hsz := B1.out.size
      have X0 := Lib.hid (And.intro z0 z1)
      have ML := Lib.hid hml
      have e1 : IntKind.i64.wrap (x + y) = x + y := IntWalk.i64_in _ (by omega)
      have e2 : IntKind.i64.wrap (x + y + 4000) = x + y + 4000 := IntWalk.i64_in _ (by omega)
      have e4 : IntKind.i64.wrap (Int.tdiv (x + y + 4000) 2) = Int.tdiv (x + y + 4000) 2 := IntWalk.i64_in _ (by rw [Int.tdiv_eq_ediv_of_nonneg (by omega)]; omega)
      have e3 : IntKind.i64.wrap (Int.tdiv (x + y + 4000) 2 - 2000) = Int.tdiv (x + y + 4000) 2 - 2000 := IntWalk.i64_in _ (by rw [Int.tdiv_eq_ediv_of_nonneg (by omega)]; omega)
      have FV := Lib.hid (mid_quo x y (by omega))
      clear z0 z1 hml
      go_wp2_with fail
      go_region_held3 (fun W => W.cell? ⟨g, k, none⟩ = some (.int .i64 x) ∧ W.cell? ⟨gq, k, none⟩ = some (.int .i64 y))
        (first | exact X0.out | exact ⟨(elder X0.out.1).1 _, (elder X0.out.2).1 _⟩ | exact ⟨hgrow.cell ((elder X0.out.1).1 _) NE.out.1, hgrow.cell ((elder X0.out.2).1 _) NE.out.2⟩)
        (first | (refine step_append_lies _ (by rfl) (.tmp 20) (.tmp 33) 27 (by rfl) w.heap.size 3 i0 (.int .i64 0) 1 8 Try.underlying27 hi0 hz0 hz1 hz2 (by rfl) hpos vo _ _ (by rfl) (hown.allocDrew _) ⟨w1.heap.size, 0, none⟩ 1 1 [.int .i64 (Int.tdiv (x + y + 4000) 2 - 2000)] (by rfl) (by rfl) (World.news_of_block (heap_alloc_new w1 _)) ?_ hpos hmax hbd ?_ (w1.heap.size + 1) ?_ ?_; (simp [Value.oneCell']); (simp; omega); (simp); intro gg cap w2 hown1 hgrow hat hlt'))
      have O2 := Lib.hid (ownI_snoc hown1)
      rw [FV.out, ← ZM.out] at O2
      have B2 := Lib.hid (ints_snoc_below B1.out B1.out.size hown (undrewR hgrow))
      go_wp2
      exact ⟨⟨k + 1, _, rfl, by omega, by go_num, O2, B2⟩, by simp [intOf]; omega⟩
    · obtain rfl : k = ps.length := by omega
      have O2 := Lib.hid (show OwnI wr w.heap.size vo (ofBoth mid ps qs) by rw [R.out]; have := HV.out; rwa [← ZL.out, List.take_length] at this)
      go_wp2
      go_ret
      exact ⟨_, rfl, O2.out, BW.out⟩

set_option maxRecDepth 100000 in
set_option maxHeartbeats 1600000 in
theorem specHighestPose (v1 v2 : Value) (ps qs : List Int) (b1 b2 : Nat) (w : World) (h1 : OwnI w b1 v1 ps) (h2 : OwnI w b2 v2 qs) (hp : ps.length ≤ 2000000) (hq : qs.length ≤ 2000000) :
    Calls Try.prog 37 #[v1, v2] w (IntsPost w (ofBoth max ps qs)) := by
  have CS := Lib.hid (fun W h1 h2 => specStep v1 v2 ps qs b1 b2 W h1 h2 hp hq)
  obtain ⟨P, c, rfl⟩ := h1.slice
  obtain ⟨Q, d, rfl⟩ := h2.slice
  have HP := Lib.hid h1
  have HQ := Lib.hid h2
  clear h1 h2
  have O0 := Lib.hid (ownI_empty w w.heap.size w.heap.size #[] rfl (Nat.le_refl _) rfl)
  cases hok : pairOk ps qs with
  | false =>
    have R := Lib.hid (both_no (f := max) hok)
    rw [step_no hok] at CS
    clear hok
    go_enter Try.func37, Try.ntmps37
    go_wp2_with fail
    go_loopw [5, 6] (fun ov iv wr => ∃ vo, vo = ov ∧ iv = .int .i64 0 ∧ OwnI wr w.heap.size vo [] ∧ Hid (Below w.heap.size w wr)) (fun _ iv _ => 0)
    case atStart => exact ⟨_, rfl, rfl, O0.out, Lib.hid ((Below.refl w.heap.size w).alloc (Nat.le_refl _) _)⟩
    case round =>
      obtain ⟨vo, rfl, rfl, hown, BW⟩ := hrel
      have O := Lib.hid hown
      clear hown
      by_cases h0 : ps.length = 0
      · have hk1 : ¬ (0 : Int) < (ps.length : Int) := by omega
        clear h0
        go_wp2
        go_ret
        exact ⟨_, rfl, by rw [R.out]; exact O.out, BW.out⟩
      · have hk1 : (0 : Int) < (ps.length : Int) := by omega
        have CW := Lib.hid (CS.out _ (HP.out.below BW.out) (HQ.out.below BW.out))
        clear h0
        go_wp2_with (go_at_call 20; refine CW.out.mono ?_; rintro e w1 ⟨rfl, b1⟩)
        go_ret
        exact ⟨_, rfl, by rw [R.out]; exact O.out.below b1, BW.out.trans (b1.mono BW.out.size)⟩
  | true =>
  obtain ⟨hl, h12, -, -⟩ := pair_parts hok
  obtain ⟨-, hr⟩ := step_none hok
  have HO := Lib.hid hok
  have R := Lib.hid (both_yes (f := max) hok)
  have ZL := Lib.hid (zip_len (f := max) hok)
  have HL := Lib.hid hl
  generalize stepSize ps qs = r at CS hr
  obtain ⟨i0, hi0, hz0, hz1, hz2⟩ := info_parts info_int
  have hpos : 0 < 1 := by omega
  clear hok hl
  go_enter Try.func37, Try.ntmps37
  go_wp2_with fail
  go_loopw [5, 6] (fun ov iv wr => ∃ (k : Nat) (vo : Value), vo = ov ∧ k ≤ ps.length ∧ iv = .int .i64 (k : Int) ∧ Hid (OwnI wr w.heap.size vo ((List.zipWith max ps qs).take k)) ∧ Hid (Below w.heap.size w wr)) (fun _ iv _ => ps.length - (intOf iv).toNat)
  case atStart => exact ⟨0, _, rfl, by omega, rfl, Lib.hid O0.out, Lib.hid ((Below.refl w.heap.size w).alloc (Nat.le_refl _) _)⟩
  case round =>
    obtain ⟨k, vo, rfl, hk, rfl, HV, BW⟩ := hrel
    by_cases hlt : k < ps.length
    · have hlq : k < qs.length := by rw [← HL.out]; exact hlt
      have hk0 : (0 : Int) ≤ (k : Int) := by omega
      have hk1 : (k : Int) < (ps.length : Int) := by omega
      have hk2 : (k : Int) < (qs.length : Int) := by omega
      have CW := Lib.hid (CS.out _ (HP.out.below BW.out) (HQ.out.below BW.out))
      go_wp2_with (go_at_call 20; refine CW.out.mono ?_; rintro e w1 ⟨rfl, b1⟩)
      have B1 := Lib.hid (BW.out.trans (b1.mono BW.out.size))
      have V1 := Lib.hid (HV.out.below b1)
      clear b1 CW BW HV
      obtain ⟨g, _, f1, _, _, z0, _⟩ := (HP.out.below B1.out).spot hlt
      simp only [Value.slice.injEq] at f1
      obtain ⟨rfl, em, rfl⟩ := f1
      clear em
      obtain ⟨gq, _, f2, _, _, z1, _⟩ := (HQ.out.below B1.out).spot hlq
      simp only [Value.slice.injEq] at f2
      obtain ⟨rfl, em, rfl⟩ := f2
      clear em
      have hxr := pair_p HO.out hlt
      have hyr := pair_q HO.out hlq
      have ZM := Lib.hid (zip_more (f := max) hlt hlq)
      have hml : ((List.zipWith max ps qs).take k).length = k := by rw [List.length_take, ZL.out]; omega
      generalize ps[k] = x at z0 hxr ZM
      generalize qs[k] = y at z1 hyr ZM
      generalize (List.zipWith max ps qs).take k = ts at V1 ZM hml
      clear hlt hlq
      have NE := Lib.hid (show some g ≠ vo.ownBlock ∧ some gq ≠ vo.ownBlock from ⟨fun e => by have := (V1.out.lt _ e.symm).1; have := (HP.out.lt g rfl).2; omega, fun e => by have := (V1.out.lt _ e.symm).1; have := (HQ.out.lt gq rfl).2; omega⟩)
      have hmax : ts.length + 1 ≤ maxLen := by simp only [maxLen]; omega
      have hbd : (ts.length + 1) * 8 ≤ 140737488355328 := by omega
      have hown := V1.out
      have hsz := B1.out.size
      have X0 := Lib.hid (And.intro z0 z1)
      have ML := Lib.hid hml
      by_cases hc : x < y
      · have FV := Lib.hid (show y = max x y by omega)
        clear z0 z1 hml
        go_wp2_with fail
        go_region_held3 (fun W => W.cell? ⟨g, k, none⟩ = some (.int .i64 x) ∧ W.cell? ⟨gq, k, none⟩ = some (.int .i64 y))
          (first | exact X0.out | exact ⟨(elder X0.out.1).1 _, (elder X0.out.2).1 _⟩ | exact ⟨hgrow.cell ((elder X0.out.1).1 _) NE.out.1, hgrow.cell ((elder X0.out.2).1 _) NE.out.2⟩)
          (first | (refine step_append_lies _ (by rfl) (.tmp 20) (.tmp 30) 27 (by rfl) w.heap.size 3 i0 (.int .i64 0) 1 8 Try.underlying27 hi0 hz0 hz1 hz2 (by rfl) hpos vo _ _ (by rfl) (hown.allocDrew _) ⟨w1.heap.size, 0, none⟩ 1 1 [.int .i64 (y)] (by rfl) (by rfl) (World.news_of_block (heap_alloc_new w1 _)) ?_ hpos hmax hbd ?_ (w1.heap.size + 1) ?_ ?_; (simp [Value.oneCell']); (simp; omega); (simp); intro gg cap w2 hown1 hgrow hat hlt'))
        have O2 := Lib.hid (ownI_snoc hown1)
        rw [FV.out, ← ZM.out] at O2
        have B2 := Lib.hid (ints_snoc_below B1.out B1.out.size hown (undrewR hgrow))
        go_wp2
        exact ⟨⟨k + 1, _, rfl, by omega, by go_num, O2, B2⟩, by simp [intOf]; omega⟩
      have FV := Lib.hid (ifless_max x y)
      clear z0 z1 hml
      go_wp2_with fail
      go_region_held3 (fun W => W.cell? ⟨g, k, none⟩ = some (.int .i64 x) ∧ W.cell? ⟨gq, k, none⟩ = some (.int .i64 y))
        (first | exact X0.out | exact ⟨(elder X0.out.1).1 _, (elder X0.out.2).1 _⟩ | exact ⟨hgrow.cell ((elder X0.out.1).1 _) NE.out.1, hgrow.cell ((elder X0.out.2).1 _) NE.out.2⟩)
        (first | (refine step_append_lies _ (by rfl) (.tmp 20) (.tmp 30) 27 (by rfl) w.heap.size 3 i0 (.int .i64 0) 1 8 Try.underlying27 hi0 hz0 hz1 hz2 (by rfl) hpos vo _ _ (by rfl) (hown.allocDrew _) ⟨w1.heap.size, 0, none⟩ 1 1 [.int .i64 (if x < y then y else x)] (by rfl) (by rfl) (World.news_of_block (heap_alloc_new w1 _)) ?_ hpos hmax hbd ?_ (w1.heap.size + 1) ?_ ?_; (simp [Value.oneCell']); (simp; omega); (simp); intro gg cap w2 hown1 hgrow hat hlt'))
      have O2 := Lib.hid (ownI_snoc hown1)
      rw [FV.out, ← ZM.out] at O2
      have B2 := Lib.hid (ints_snoc_below B1.out B1.out.size hown (undrewR hgrow))
      go_wp2
      exact ⟨⟨k + 1, _, rfl, by omega, by go_num, O2, B2⟩, by simp [intOf]; omega⟩
    · obtain rfl : k = ps.length := by omega
      have O2 := Lib.hid (show OwnI wr w.heap.size vo (ofBoth max ps qs) by rw [R.out]; have := HV.out; rwa [← ZL.out, List.take_length] at this)
      go_wp2
      go_ret
      exact ⟨_, rfl, O2.out, BW.out⟩

set_option maxRecDepth 100000 in
set_option maxHeartbeats 1600000 in
theorem specLowerPose (v1 v2 : Value) (ps qs : List Int) (b1 b2 : Nat) (w : World) (h1 : OwnI w b1 v1 ps) (h2 : OwnI w b2 v2 qs) (hp : ps.length ≤ 2000000) (hq : qs.length ≤ 2000000) :
    Calls Try.prog 38 #[v1, v2] w (IntsPost w (ofBoth min ps qs)) := by
  have CS := Lib.hid (fun W h1 h2 => specStep v1 v2 ps qs b1 b2 W h1 h2 hp hq)
  obtain ⟨P, c, rfl⟩ := h1.slice
  obtain ⟨Q, d, rfl⟩ := h2.slice
  have HP := Lib.hid h1
  have HQ := Lib.hid h2
  clear h1 h2
  have O0 := Lib.hid (ownI_empty w w.heap.size w.heap.size #[] rfl (Nat.le_refl _) rfl)
  cases hok : pairOk ps qs with
  | false =>
    have R := Lib.hid (both_no (f := min) hok)
    rw [step_no hok] at CS
    clear hok
    go_enter Try.func38, Try.ntmps38
    go_wp2_with fail
    go_loopw [5, 6] (fun ov iv wr => ∃ vo, vo = ov ∧ iv = .int .i64 0 ∧ OwnI wr w.heap.size vo [] ∧ Hid (Below w.heap.size w wr)) (fun _ iv _ => 0)
    case atStart => exact ⟨_, rfl, rfl, O0.out, Lib.hid ((Below.refl w.heap.size w).alloc (Nat.le_refl _) _)⟩
    case round =>
      obtain ⟨vo, rfl, rfl, hown, BW⟩ := hrel
      have O := Lib.hid hown
      clear hown
      by_cases h0 : ps.length = 0
      · have hk1 : ¬ (0 : Int) < (ps.length : Int) := by omega
        clear h0
        go_wp2
        go_ret
        exact ⟨_, rfl, by rw [R.out]; exact O.out, BW.out⟩
      · have hk1 : (0 : Int) < (ps.length : Int) := by omega
        have CW := Lib.hid (CS.out _ (HP.out.below BW.out) (HQ.out.below BW.out))
        clear h0
        go_wp2_with (go_at_call 20; refine CW.out.mono ?_; rintro e w1 ⟨rfl, b1⟩)
        go_ret
        exact ⟨_, rfl, by rw [R.out]; exact O.out.below b1, BW.out.trans (b1.mono BW.out.size)⟩
  | true =>
  obtain ⟨hl, h12, -, -⟩ := pair_parts hok
  obtain ⟨-, hr⟩ := step_none hok
  have HO := Lib.hid hok
  have R := Lib.hid (both_yes (f := min) hok)
  have ZL := Lib.hid (zip_len (f := min) hok)
  have HL := Lib.hid hl
  generalize stepSize ps qs = r at CS hr
  obtain ⟨i0, hi0, hz0, hz1, hz2⟩ := info_parts info_int
  have hpos : 0 < 1 := by omega
  clear hok hl
  go_enter Try.func38, Try.ntmps38
  go_wp2_with fail
  go_loopw [5, 6] (fun ov iv wr => ∃ (k : Nat) (vo : Value), vo = ov ∧ k ≤ ps.length ∧ iv = .int .i64 (k : Int) ∧ Hid (OwnI wr w.heap.size vo ((List.zipWith min ps qs).take k)) ∧ Hid (Below w.heap.size w wr)) (fun _ iv _ => ps.length - (intOf iv).toNat)
  case atStart => exact ⟨0, _, rfl, by omega, rfl, Lib.hid O0.out, Lib.hid ((Below.refl w.heap.size w).alloc (Nat.le_refl _) _)⟩
  case round =>
    obtain ⟨k, vo, rfl, hk, rfl, HV, BW⟩ := hrel
    by_cases hlt : k < ps.length
    · have hlq : k < qs.length := by rw [← HL.out]; exact hlt
      have hk0 : (0 : Int) ≤ (k : Int) := by omega
      have hk1 : (k : Int) < (ps.length : Int) := by omega
      have hk2 : (k : Int) < (qs.length : Int) := by omega
      have CW := Lib.hid (CS.out _ (HP.out.below BW.out) (HQ.out.below BW.out))
      go_wp2_with (go_at_call 20; refine CW.out.mono ?_; rintro e w1 ⟨rfl, b1⟩)
      have B1 := Lib.hid (BW.out.trans (b1.mono BW.out.size))
      have V1 := Lib.hid (HV.out.below b1)
      clear b1 CW BW HV
      obtain ⟨g, _, f1, _, _, z0, _⟩ := (HP.out.below B1.out).spot hlt
      simp only [Value.slice.injEq] at f1
      obtain ⟨rfl, em, rfl⟩ := f1
      clear em
      obtain ⟨gq, _, f2, _, _, z1, _⟩ := (HQ.out.below B1.out).spot hlq
      simp only [Value.slice.injEq] at f2
      obtain ⟨rfl, em, rfl⟩ := f2
      clear em
      have hxr := pair_p HO.out hlt
      have hyr := pair_q HO.out hlq
      have ZM := Lib.hid (zip_more (f := min) hlt hlq)
      have hml : ((List.zipWith min ps qs).take k).length = k := by rw [List.length_take, ZL.out]; omega
      generalize ps[k] = x at z0 hxr ZM
      generalize qs[k] = y at z1 hyr ZM
      generalize (List.zipWith min ps qs).take k = ts at V1 ZM hml
      clear hlt hlq
      have NE := Lib.hid (show some g ≠ vo.ownBlock ∧ some gq ≠ vo.ownBlock from ⟨fun e => by have := (V1.out.lt _ e.symm).1; have := (HP.out.lt g rfl).2; omega, fun e => by have := (V1.out.lt _ e.symm).1; have := (HQ.out.lt gq rfl).2; omega⟩)
      have hmax : ts.length + 1 ≤ maxLen := by simp only [maxLen]; omega
      have hbd : (ts.length + 1) * 8 ≤ 140737488355328 := by omega
      have hown := V1.out
      have hsz := B1.out.size
      have X0 := Lib.hid (And.intro z0 z1)
      have ML := Lib.hid hml
      by_cases hc : y < x
      · have FV := Lib.hid (show y = min x y by omega)
        clear z0 z1 hml
        go_wp2_with fail
        go_region_held3 (fun W => W.cell? ⟨g, k, none⟩ = some (.int .i64 x) ∧ W.cell? ⟨gq, k, none⟩ = some (.int .i64 y))
          (first | exact X0.out | exact ⟨(elder X0.out.1).1 _, (elder X0.out.2).1 _⟩ | exact ⟨hgrow.cell ((elder X0.out.1).1 _) NE.out.1, hgrow.cell ((elder X0.out.2).1 _) NE.out.2⟩)
          (first | (refine step_append_lies _ (by rfl) (.tmp 20) (.tmp 30) 27 (by rfl) w.heap.size 3 i0 (.int .i64 0) 1 8 Try.underlying27 hi0 hz0 hz1 hz2 (by rfl) hpos vo _ _ (by rfl) (hown.allocDrew _) ⟨w1.heap.size, 0, none⟩ 1 1 [.int .i64 (y)] (by rfl) (by rfl) (World.news_of_block (heap_alloc_new w1 _)) ?_ hpos hmax hbd ?_ (w1.heap.size + 1) ?_ ?_; (simp [Value.oneCell']); (simp; omega); (simp); intro gg cap w2 hown1 hgrow hat hlt'))
        have O2 := Lib.hid (ownI_snoc hown1)
        rw [FV.out, ← ZM.out] at O2
        have B2 := Lib.hid (ints_snoc_below B1.out B1.out.size hown (undrewR hgrow))
        go_wp2
        exact ⟨⟨k + 1, _, rfl, by omega, by go_num, O2, B2⟩, by simp [intOf]; omega⟩
      have FV := Lib.hid (ifless_min x y)
      clear z0 z1 hml
      go_wp2_with fail
      go_region_held3 (fun W => W.cell? ⟨g, k, none⟩ = some (.int .i64 x) ∧ W.cell? ⟨gq, k, none⟩ = some (.int .i64 y))
        (first | exact X0.out | exact ⟨(elder X0.out.1).1 _, (elder X0.out.2).1 _⟩ | exact ⟨hgrow.cell ((elder X0.out.1).1 _) NE.out.1, hgrow.cell ((elder X0.out.2).1 _) NE.out.2⟩)
        (first | (refine step_append_lies _ (by rfl) (.tmp 20) (.tmp 30) 27 (by rfl) w.heap.size 3 i0 (.int .i64 0) 1 8 Try.underlying27 hi0 hz0 hz1 hz2 (by rfl) hpos vo _ _ (by rfl) (hown.allocDrew _) ⟨w1.heap.size, 0, none⟩ 1 1 [.int .i64 (if y < x then y else x)] (by rfl) (by rfl) (World.news_of_block (heap_alloc_new w1 _)) ?_ hpos hmax hbd ?_ (w1.heap.size + 1) ?_ ?_; (simp [Value.oneCell']); (simp; omega); (simp); intro gg cap w2 hown1 hgrow hat hlt'))
      have O2 := Lib.hid (ownI_snoc hown1)
      rw [FV.out, ← ZM.out] at O2
      have B2 := Lib.hid (ints_snoc_below B1.out B1.out.size hown (undrewR hgrow))
      go_wp2
      exact ⟨⟨k + 1, _, rfl, by omega, by go_num, O2, B2⟩, by simp [intOf]; omega⟩
    · obtain rfl : k = ps.length := by omega
      have O2 := Lib.hid (show OwnI wr w.heap.size vo (ofBoth min ps qs) by rw [R.out]; have := HV.out; rwa [← ZL.out, List.take_length] at this)
      go_wp2
      go_ret
      exact ⟨_, rfl, O2.out, BW.out⟩
end Go.Proofs.Ytdbpejjbinbiiaa
