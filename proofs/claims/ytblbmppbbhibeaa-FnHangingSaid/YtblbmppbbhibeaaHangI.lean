/- The contracts of impl.SlackStrings, IsHeld and LowestPoint: they answer as the model does. Condition: the limbs and the numbers lie in rows of their own. -/
import Derived.Test.YtblbmppbbhibeaaHangG
import Derived.Test.YtblbmppbbhibeaaHangP
import Derived.Test.YtblbmppbbhibeaaSlcMin
namespace Go.Proofs.Ytblbmppbbhibeaa
set_option linter.unusedVariables false
set_option linter.unusedSimpArgs false
open Go.RowKit

theorem filter_more {p : Int → Bool} {ss : List Int} {k : Nat} (h : k < ss.length) : (ss.take (k + 1)).filter p = (ss.take k).filter p ++ if p ss[k] = true then [ss[k]] else [] := by
  rw [List.take_succ_eq_append_getElem h, List.filter_append]
  congr 1
  cases hp : p ss[k] with
  | true => rw [List.filter_cons_of_pos hp, if_pos rfl]; rfl
  | false => rw [List.filter_cons_of_neg (by rw [hp]; simp), if_neg (by simp)]; rfl
theorem low_least {hs : List Int} {k : Nat} : leastTo hs (k + 1) = lowTo hs k := by
  induction k with
  | zero =>
    show min (hs.getD 0 0) (hs.getD 0 0) = hs.getD 0 0
    omega
  | succ k ih =>
    show min (leastTo hs (k + 1)) (hs.getD (k + 1) 0) = min (lowTo hs k) (hs.getD (k + 1) 0)
    rw [ih]

set_option maxRecDepth 100000 in
set_option maxHeartbeats 800000 in
theorem implSlack_no (J : Int) (v vp : Value) (ls : List Lb) (zs : List Int) (base b2 : Nat) (w : World) (hown : OwnL w base v ls) (hp : OwnI w b2 vp zs) (hl : ls.length ≤ 2000000) (hlz : zs.length ≤ 2000000) (h : pullsOk J ls zs = false) :
    Calls Try.prog 15 #[bodyV J v, vp] w (IntsPost w []) := by
  have CS := Lib.hid (fun W h1 h2 => h ▸ implPulls J v vp ls zs base b2 W h1 h2 hl hlz)
  obtain ⟨A, c, e⟩ := hown.slice
  subst e
  have OWN := Lib.hid hown
  have HP := Lib.hid hp
  have BX := Lib.hid (box_facts (J := J) hown)
  clear hown hp h
  unfold bodyV at CS ⊢
  go_enter Try.func15, Try.ntmps15
  go_wp2_with fail
  refine (CS.out _ (OWN.out.alloc _) (HP.out.alloc _)).mono ?_
  rintro e w1 ⟨rfl, b1⟩
  simp only [World.size_alloc] at b1
  obtain ⟨x0, x1, -, bw⟩ := BX.out w1 b1
  clear b1
  go_wp2
  go_ret
  exact ⟨_, rfl, ⟨rfl, .inl ⟨rfl, rfl⟩⟩, bw⟩

set_option maxRecDepth 100000 in
set_option maxHeartbeats 1600000 in
theorem implSlack_yes (m : Nat) (v vp : Value) (ls : List Lb) (zs : List Int) (base b2 : Nat) (w : World) (hown : OwnL w base v ls) (hp : OwnI w b2 vp zs) (h : pullsOk m ls zs = true) :
    Calls Try.prog 15 #[bodyV (m : Int) v, vp] w (IntsPost w (slacks m ls zs)) := by
  obtain ⟨hok, hzl, hzr, -⟩ := pulls_parts h
  obtain ⟨-, hlm, hm12, -⟩ := ok_parts' hok
  have hzm : zs.length = m := by omega
  have CS := Lib.hid (fun W h1 h2 => h ▸ implPulls m v vp ls zs base b2 W h1 h2 (by omega) (by omega))
  have CH := Lib.hid (fun W h1 h2 => implHang_yes m v vp ls zs base b2 W h1 h2 h)
  have CT := Lib.hid (fun W h => strings_any vp zs b2 W h (by omega))
  have R := Lib.hid (show slacks m ls zs = (strs zs).filter (looseB zs (hangs m ls zs)) by
    unfold slacks
    rw [show hangPose m ls zs = hangs m ls zs by unfold hangPose; rw [h, Int.toNat_natCast]; rfl, hangs_len, slack_strs (fun j hj => (hzr j (by omega)).1), ← hzm]
    rfl)
  obtain ⟨A, c, e⟩ := hown.slice
  subst e
  obtain ⟨P, d, e⟩ := hp.slice
  subst e
  have OWN := Lib.hid hown
  have HP := Lib.hid hp
  have BX := Lib.hid (box_facts (J := (m : Int)) hown)
  have SA := Lib.hid (fun r (h : r < (strs zs).length) => strs_at h)
  have hsl : (strs zs).length ≤ 12 := Nat.le_trans (strsTo_len _ _) (by omega)
  have HL := Lib.hid (And.intro hzm (hangs_len m ls zs))
  obtain ⟨i0, hi0, hz0, hz1, hz2⟩ := info_parts info_int
  have hpos : 0 < 1 := by omega
  clear hown hp h hok hlm hzl hzr
  unfold bodyV at CS CH ⊢
  rw [R.out]
  rw [hzm] at CS CH CT ⊢
  clear R hzm
  generalize hangs m ls zs = hs at CH HL ⊢
  generalize strs zs = ss at CT SA hsl ⊢
  go_enter Try.func15, Try.ntmps15
  go_wp2_with fail
  refine (CS.out _ (OWN.out.alloc _) (HL.out.1 ▸ HP.out.alloc _)).mono ?_
  rintro e w1 ⟨rfl, b1⟩
  simp only [World.size_alloc] at b1
  have B1 := Lib.hid b1
  have hs1 := b1.size
  simp only [World.size_alloc] at hs1
  obtain ⟨x0, x1, o1, bw⟩ := BX.out w1 b1
  have P1 := Lib.hid (HP.out.below bw)
  clear b1 bw
  rw [HL.out.1] at P1
  go_wp2_with fail
  refine (CH.out _ o1 P1.out).mono ?_
  rintro e w2 ⟨vh, rfl, oh, b2'⟩
  obtain ⟨H, ch, rfl⟩ := oh.slice
  have OH := Lib.hid oh
  have P2 := Lib.hid (P1.out.below b2')
  have B2 := Lib.hid (B1.out.trans (b2'.mono hs1))
  have hs2 := B2.out.size
  simp only [World.size_alloc] at hs2
  clear b2' x0 x1 o1 oh P1
  go_wp2_with fail
  refine (CT.out _ P2.out).mono ?_
  rintro e w3 ⟨vs, rfl, o3, b3⟩
  obtain ⟨S, cs, rfl⟩ := o3.slice
  have O3 := Lib.hid o3
  have P3 := Lib.hid (P2.out.below b3)
  have H3 := Lib.hid (OH.out.below b3)
  have B3 := Lib.hid (B2.out.trans (b3.mono hs2))
  obtain ⟨-, -, -, bw⟩ := BX.out w3 B3.out
  have BW := Lib.hid bw
  clear b3 o3 bw OH P2
  go_wp2_with fail
  go_loopw [6, 19] (fun ov iv wr => ∃ (k : Nat) (vo : Value), vo = ov ∧ k ≤ ss.length ∧ iv = .int .i64 (k : Int) ∧ Hid (OwnI wr w3.heap.size vo ((ss.take k).filter (looseB zs hs))) ∧ Hid (Below w3.heap.size w3 wr)) (fun _ iv _ => ss.length - (intOf iv).toNat)
  case atStart => exact ⟨0, _, rfl, by omega, rfl, Lib.hid ⟨rfl, .inl ⟨rfl, rfl⟩⟩, Lib.hid (Below.refl _ _)⟩
  case round =>
    obtain ⟨k, vo, rfl, hk, rfl, HO, HB⟩ := hrel
    have hsz := HB.out.size
    by_cases hlt : k < ss.length
    · obtain ⟨j, hj, hjz, -⟩ := SA.out k hlt
      have hjh : j < hs.length := by have := HL.out; omega
      obtain ⟨gs, _, e1, _, _, r0, _⟩ := (O3.out.below HB.out).spot hlt
      simp only [Value.slice.injEq] at e1
      obtain ⟨rfl, em, rfl⟩ := e1
      clear em
      obtain ⟨gp, _, e1, _, _, z0, _⟩ := (P3.out.below HB.out).spot hjz
      rw [HL.out.1] at e1
      simp only [Value.slice.injEq] at e1
      obtain ⟨rfl, em, rfl⟩ := e1
      clear em
      obtain ⟨gh, _, e1, _, _, z1, _⟩ := (H3.out.below HB.out).spot hjh
      simp only [Value.slice.injEq] at e1
      obtain ⟨rfl, em, rfl⟩ := e1
      clear em
      have SM := Lib.hid (filter_more (p := looseB zs hs) hlt)
      have LB := Lib.hid (show looseB zs hs ss[k] = decide (zs[j] < hs[j]) by unfold looseB; rw [hj, Int.toNat_natCast, getD_of hjz, getD_of hjh])
      rw [LB.out, hj] at SM
      rw [hj] at r0
      have hfl : ((ss.take k).filter (looseB zs hs)).length ≤ 12 := Nat.le_trans (List.length_filter_le _ _) (by rw [List.length_take]; omega)
      have hk0 : (0 : Int) ≤ (k : Int) := by omega
      have hk1 : (k : Int) < (ss.length : Int) := by omega
      have hj0 : (0 : Int) ≤ (j : Int) := by omega
      have hj1 : (j : Int) < (m : Int) := by have := HL.out; omega
      have hj2 : (j : Int) < (hs.length : Int) := by omega
      clear LB hj
      generalize zs[j] = x at z0 SM
      generalize hs[j] = y at z1 SM
      by_cases hx : x < y
      · have SM2 := Lib.hid (show (ss.take (k + 1)).filter (looseB zs hs) = (ss.take k).filter (looseB zs hs) ++ [(j : Int)] by rw [SM.out, if_pos (decide_eq_true hx)])
        generalize (ss.take k).filter (looseB zs hs) = ts at HO SM2 hfl
        have hmax : ts.length + 1 ≤ maxLen := by simp only [maxLen]; omega
        have hbd : (ts.length + 1) * 8 ≤ 140737488355328 := by omega
        clear SM hfl hjh
        go_wp2
        go_quiet (fail)
        have HOz := Lib.hid (HO.out.below (below_drewN (Below.refl _ wr) nq))
        have HBz := Lib.hid (HB.out.trans ((below_drewN (Below.refl _ wr) nq).mono hsz))
        clear r0 z0 z1 HO HB hsz
        generalize wr.drewN nq = wz at HOz HBz ⊢
        have hown := HOz.out
        have hszz := HBz.out.size
        go_wp2_with (at_builtin; refine wpList_append_lies _ rfl (.tmp 32) (.tmp 34) 27 rfl w3.heap.size 3 i0 (.int .i64 0) 1 8 Try.underlying27 hi0 hz0 hz1 hz2 rfl hpos vo _ _ rfl (hown.alloc _) ⟨wz.heap.size, 0, none⟩ 1 1 [.int .i64 (j : Int)] rfl rfl (cell_one_new _ _ _) ?_ hpos hmax hbd ?_ (wz.heap.size + 1) ?_ ?_; (simp [Value.oneCell']); (simp; omega); (simp); intro gg cap w4 hown1 hgrow hat hlt')
        exact ⟨⟨k + 1, _, rfl, by omega, by go_num, Lib.hid (by rw [SM2.out]; exact ownI_snoc hown1), Lib.hid (ints_snoc_below HBz.out hszz HOz.out hgrow)⟩, by simp [intOf]; omega⟩
      · have SM2 := Lib.hid (show (ss.take (k + 1)).filter (looseB zs hs) = (ss.take k).filter (looseB zs hs) by rw [SM.out, if_neg (by simp; omega), List.append_nil])
        clear SM hfl hjh
        go_wp2
        go_quiet (fail)
        go_wp2
        exact ⟨⟨k + 1, _, rfl, by omega, by go_num, Lib.hid (by rw [SM2.out]; exact HO.out.below (below_drewN (Below.refl _ _) _)), Lib.hid (HB.out.trans ((below_drewN (Below.refl _ _) _).mono hsz))⟩, by simp [intOf]; omega⟩
    · obtain rfl : k = ss.length := by omega
      rw [List.take_length] at HO
      have HO2 := Lib.hid (HO.out.mono (b := w.heap.size) (by have := BW.out.size; omega))
      have BR := Lib.hid (BW.out.trans (HB.out.mono BW.out.size))
      go_wp2
      go_ret
      exact ⟨_, rfl, HO2.out, BR.out⟩

theorem implSlack (J : Int) (v vp : Value) (ls : List Lb) (zs : List Int) (base b2 : Nat) (w : World) (hown : OwnL w base v ls) (hp : OwnI w b2 vp zs) (hl : ls.length ≤ 2000000) (hlz : zs.length ≤ 2000000) :
    Calls Try.prog 15 #[bodyV J v, vp] w (IntsPost w (slacks J ls zs)) := by
  cases h : pullsOk J ls zs with
  | false =>
    rw [show slacks J ls zs = [] by unfold slacks hangPose; rw [h]; rfl]
    exact implSlack_no J v vp ls zs base b2 w hown hp hl hlz h
  | true =>
    obtain ⟨m, rfl⟩ := Int.eq_ofNat_of_zero_le (show 0 ≤ J by have := ok_len (pulls_parts h).1; omega)
    exact implSlack_yes m v vp ls zs base b2 w hown hp h

set_option maxRecDepth 100000 in
set_option maxHeartbeats 1600000 in
theorem implHeld_yes (m : Nat) (v vp vh : Value) (ls : List Lb) (zs hs : List Int) (base b2 b3 : Nat) (w : World) (hown : OwnL w base v ls) (hp : OwnI w b2 vp zs) (hh : OwnI w b3 vh hs) (h : pullsOk m ls zs = true) (h' : poseOk m ls hs = true) :
    Calls Try.prog 14 #[bodyV (m : Int) v, vp, vh] w fun e w' => e = .returned (.bool ((strs zs).all (holdsB zs hs))) ∧ Below w.heap.size w w' := by
  obtain ⟨hok, hzl, -, -⟩ := pulls_parts h
  obtain ⟨-, hhl, -, -⟩ := pose_parts.1 h'
  obtain ⟨-, hlm, hm12, -⟩ := ok_parts' hok
  have hzm : zs.length = m := by omega
  have hhm : hs.length = m := by omega
  have CS := Lib.hid (fun W h1 h2 => h ▸ implPulls m v vp ls zs base b2 W h1 h2 (by omega) (by omega))
  have CQ := Lib.hid (fun W h1 h2 => h' ▸ implPose m v vh ls hs base b3 W h1 h2 (by omega) (by omega))
  have CT := Lib.hid (fun W h => strings_any vp zs b2 W h (by omega))
  obtain ⟨A, c, e⟩ := hown.slice
  subst e
  obtain ⟨P, d, e⟩ := hp.slice
  subst e
  obtain ⟨H, dh, e⟩ := hh.slice
  subst e
  have OWN := Lib.hid hown
  have HP := Lib.hid hp
  have HH := Lib.hid hh
  have BX := Lib.hid (box_facts (J := (m : Int)) hown)
  have SA := Lib.hid (fun r (h : r < (strs zs).length) => strs_at h)
  have hsl : (strs zs).length ≤ 12 := Nat.le_trans (strsTo_len _ _) (by omega)
  have HL := Lib.hid (And.intro hzm hhm)
  clear hown hp hh h h' hok hlm hzl hhl hzm hhm
  unfold bodyV at CS CQ ⊢
  generalize strs zs = ss at CT SA hsl ⊢
  go_enter Try.func14, Try.ntmps14
  go_wp2_with fail
  refine (CS.out _ (OWN.out.alloc _) (HP.out.alloc _)).mono ?_
  rintro e w1 ⟨rfl, b1⟩
  simp only [World.size_alloc] at b1
  have B1 := Lib.hid b1
  have hs1 := b1.size
  simp only [World.size_alloc] at hs1
  obtain ⟨x0, x1, o1, bw⟩ := BX.out w1 b1
  have P1 := Lib.hid (HP.out.below bw)
  have H1 := Lib.hid (HH.out.below bw)
  clear b1 bw
  go_wp2_with fail
  refine (CQ.out _ o1 H1.out).mono ?_
  rintro e w2 ⟨rfl, b2'⟩
  have P2 := Lib.hid (P1.out.below b2')
  have H2 := Lib.hid (H1.out.below b2')
  have B2 := Lib.hid (B1.out.trans (b2'.mono hs1))
  have hs2 := B2.out.size
  simp only [World.size_alloc] at hs2
  clear b2' x0 x1 o1 P1 H1
  go_wp2_with fail
  refine (CT.out _ P2.out).mono ?_
  rintro e w3 ⟨vs, rfl, o3, b3'⟩
  obtain ⟨S, cs, rfl⟩ := o3.slice
  have O3 := Lib.hid o3
  have P3 := Lib.hid (P2.out.below b3')
  have H3 := Lib.hid (H2.out.below b3')
  have B3 := Lib.hid (B2.out.trans (b3'.mono hs2))
  obtain ⟨-, -, -, bw⟩ := BX.out w3 B3.out
  have BW := Lib.hid bw
  clear b3' o3 bw P2 H2
  go_wp2_with fail
  go_loopw [22] (fun iv wr => ∃ k : Nat, k ≤ ss.length ∧ iv = .int .i64 (k : Int) ∧ Hid ((ss.take k).all (holdsB zs hs) = true) ∧ Hid (Below w3.heap.size w3 wr)) (fun iv _ => ss.length - (intOf iv).toNat)
  case atStart => exact ⟨0, by omega, rfl, rfl, Lib.hid (Below.refl _ _)⟩
  case round =>
    obtain ⟨k, hk, rfl, HA, HB⟩ := hrel
    have hsz := HB.out.size
    by_cases hlt : k < ss.length
    · obtain ⟨j, hj, hjz, -⟩ := SA.out k hlt
      have hjh : j < hs.length := by have := HL.out; omega
      obtain ⟨gs, _, e1, _, _, r0, _⟩ := (O3.out.below HB.out).spot hlt
      simp only [Value.slice.injEq] at e1
      obtain ⟨rfl, em, rfl⟩ := e1
      clear em
      obtain ⟨gp, _, e1, _, _, z0, _⟩ := (P3.out.below HB.out).spot hjz
      simp only [Value.slice.injEq] at e1
      obtain ⟨rfl, em, rfl⟩ := e1
      clear em
      obtain ⟨gh, _, e1, _, _, z1, _⟩ := (H3.out.below HB.out).spot hjh
      simp only [Value.slice.injEq] at e1
      obtain ⟨rfl, em, rfl⟩ := e1
      clear em
      have AM := Lib.hid (all_more (p := holdsB zs hs) hlt)
      have NO := Lib.hid (fun hx => all_not (p := holdsB zs hs) (List.getElem_mem hlt) hx)
      have LB := Lib.hid (show holdsB zs hs ss[k] = !decide (hs[j] < zs[j]) by unfold holdsB; rw [hj, Int.toNat_natCast, getD_of hjz, getD_of hjh])
      rw [hj] at r0
      have hk0 : (0 : Int) ≤ (k : Int) := by omega
      have hk1 : (k : Int) < (ss.length : Int) := by omega
      have hj0 : (0 : Int) ≤ (j : Int) := by omega
      have hj1 : (j : Int) < (zs.length : Int) := by omega
      have hj2 : (j : Int) < (hs.length : Int) := by omega
      clear hj
      generalize zs[j] = x at z0 LB
      generalize hs[j] = y at z1 LB
      by_cases hy : y < x
      · have NO2 := Lib.hid (NO.out (by rw [LB.out, decide_eq_true hy]; rfl))
        clear NO AM LB
        go_wp2
        go_quiet (fail)
        go_wp2
        go_ret
        exact ⟨by rw [NO2.out]; rfl, BW.out.trans ((HB.out.trans ((below_drewN (Below.refl _ _) _).mono hsz)).mono BW.out.size)⟩
      · have AM2 := Lib.hid (show (ss.take (k + 1)).all (holdsB zs hs) = true by rw [AM.out, HA.out, LB.out, decide_eq_false hy]; rfl)
        clear NO AM LB
        go_wp2
        go_quiet (fail)
        go_wp2
        exact ⟨⟨k + 1, by omega, by go_num, AM2, Lib.hid (HB.out.trans ((below_drewN (Below.refl _ _) _).mono hsz))⟩, by simp [intOf]; omega⟩
    · obtain rfl : k = ss.length := by omega
      have HA2 := Lib.hid (show ss.all (holdsB zs hs) = true by have := HA.out; rwa [List.take_length] at this)
      have BR := Lib.hid (BW.out.trans (HB.out.mono BW.out.size))
      go_wp2
      go_ret
      exact ⟨by rw [HA2.out]; rfl, BR.out⟩

set_option maxRecDepth 100000 in
set_option maxHeartbeats 800000 in
theorem implHeld (J : Int) (v vp vh : Value) (ls : List Lb) (zs hs : List Int) (base b2 b3 : Nat) (w : World) (hown : OwnL w base v ls) (hp : OwnI w b2 vp zs) (hh : OwnI w b3 vh hs) (hl : ls.length ≤ 2000000) (hlz : zs.length ≤ 2000000) (hlh : hs.length ≤ 2000000) :
    Calls Try.prog 14 #[bodyV J v, vp, vh] w fun e w' => e = .returned (.bool (isHeld J ls zs hs)) ∧ Below w.heap.size w w' := by
  by_cases h : pullsOk J ls zs = true ∧ poseOk J ls hs = true
  · obtain ⟨-, hzl, hzr, -⟩ := pulls_parts h.1
    obtain ⟨m, rfl⟩ := Int.eq_ofNat_of_zero_le (show 0 ≤ J by have := ok_len (pulls_parts h.1).1; omega)
    have hzm : zs.length = m := by omega
    rw [show isHeld m ls zs hs = (strs zs).all (holdsB zs hs) by
      unfold isHeld
      rw [h.1, h.2, Int.toNat_natCast, held_strs (fun j hj => (hzr j (by omega)).1), ← hzm]
      rfl]
    exact implHeld_yes m v vp vh ls zs hs base b2 b3 w hown hp hh h.1 h.2
  · have CP := Lib.hid (fun W h1 h2 => implPulls J v vp ls zs base b2 W h1 h2 hl hlz)
    have CQ := Lib.hid (fun W h1 h2 => implPose J v vh ls hs base b3 W h1 h2 hl hlh)
    obtain ⟨A, c, e⟩ := hown.slice
    subst e
    have OWN := Lib.hid hown
    have HP := Lib.hid hp
    have HH := Lib.hid hh
    have BX := Lib.hid (box_facts (J := J) hown)
    clear hown hp hh
    unfold bodyV at CP CQ ⊢
    unfold isHeld
    cases h1 : pullsOk J ls zs with
    | false =>
      rw [h1] at CP
      clear h h1
      go_enter Try.func14, Try.ntmps14
      go_wp2_with fail
      refine (CP.out _ (OWN.out.alloc _) (HP.out.alloc _)).mono ?_
      rintro e w1 ⟨rfl, b1⟩
      simp only [World.size_alloc] at b1
      obtain ⟨x0, x1, -, bw⟩ := BX.out w1 b1
      clear b1
      go_wp2
      go_ret
      exact ⟨rfl, bw⟩
    | true =>
      have h2 : poseOk J ls hs = false := by
        cases h2 : poseOk J ls hs with
        | false => rfl
        | true => exact absurd ⟨h1, h2⟩ h
      rw [h1] at CP
      rw [h2] at CQ ⊢
      clear h h1 h2
      go_enter Try.func14, Try.ntmps14
      go_wp2_with fail
      refine (CP.out _ (OWN.out.alloc _) (HP.out.alloc _)).mono ?_
      rintro e w1 ⟨rfl, b1⟩
      simp only [World.size_alloc] at b1
      have B1 := Lib.hid b1
      obtain ⟨x0, x1, o1, bw⟩ := BX.out w1 b1
      have H1 := Lib.hid (HH.out.below bw)
      clear b1 bw
      go_wp2_with fail
      refine (CQ.out _ o1 H1.out).mono ?_
      rintro e w2 ⟨rfl, b2'⟩
      have hs1 := B1.out.size
      simp only [World.size_alloc] at hs1
      have B2 := Lib.hid (B1.out.trans (b2'.mono hs1))
      clear b2' x0 x1 o1
      obtain ⟨x0, x1, -, bw⟩ := BX.out w2 B2.out
      go_wp2
      go_ret
      exact ⟨rfl, bw⟩

set_option maxRecDepth 100000 in
set_option maxHeartbeats 800000 in
theorem implLow (J : Int) (v vp : Value) (ls : List Lb) (zs : List Int) (base b2 : Nat) (w : World) (hown : OwnL w base v ls) (hp : OwnI w b2 vp zs) (hl : ls.length ≤ 2000000) (hlz : zs.length ≤ 2000000) :
    Calls Try.prog 17 #[bodyV J v, vp] w fun e w' => e = .returned (.int .i64 (lowest J ls zs)) ∧ Below w.heap.size w w' := by
  have CS := Lib.hid (fun W h1 h2 => implPulls J v vp ls zs base b2 W h1 h2 hl hlz)
  have CH := Lib.hid (fun W h1 h2 => implHang J v vp ls zs base b2 W h1 h2 hl hlz)
  obtain ⟨A, c, e⟩ := hown.slice
  subst e
  have OWN := Lib.hid hown
  have HP := Lib.hid hp
  have BX := Lib.hid (box_facts (J := J) hown)
  clear hown hp
  unfold bodyV at CS CH ⊢
  unfold lowest
  cases h : pullsOk J ls zs with
  | false =>
    rw [h] at CS
    rw [if_neg (by simp)]
    clear h CH
    go_enter Try.func17, Try.ntmps17
    go_wp2_with fail
    refine (CS.out _ (OWN.out.alloc _) (HP.out.alloc _)).mono ?_
    rintro e w1 ⟨rfl, b1⟩
    simp only [World.size_alloc] at b1
    obtain ⟨x0, x1, -, bw⟩ := BX.out w1 b1
    clear b1
    go_wp2
    go_ret
    exact ⟨rfl, bw⟩
  | true =>
    have hok := ok_len (pulls_parts h).1
    obtain ⟨m, rfl⟩ := Int.eq_ofNat_of_zero_le (show 0 ≤ J by omega)
    rw [show hangPose m ls zs = hangs m ls zs by unfold hangPose; rw [h, Int.toNat_natCast]; rfl] at CH
    rw [h] at CS
    rw [if_pos rfl, Int.toNat_natCast]
    have hhl := hangs_len m ls zs
    generalize hangs m ls zs = hs at CH hhl ⊢
    have hm1 : 1 ≤ m := by omega
    have hm2 : m ≤ 12 := by omega
    have E := Lib.hid (show leastTo hs m = lowTo hs (hs.length - 1) by rw [hhl, ← low_least]; congr 1; omega)
    rw [E.out]
    clear h hok E
    go_enter Try.func17, Try.ntmps17
    go_wp2_with fail
    refine (CS.out _ (OWN.out.alloc _) (HP.out.alloc _)).mono ?_
    rintro e w1 ⟨rfl, b1⟩
    simp only [World.size_alloc] at b1
    have B1 := Lib.hid b1
    have hs1 := b1.size
    simp only [World.size_alloc] at hs1
    obtain ⟨x0, x1, o1, bw⟩ := BX.out w1 b1
    have P1 := Lib.hid (HP.out.below bw)
    clear b1 bw
    go_wp2_with fail
    refine (CH.out _ o1 P1.out).mono ?_
    rintro e w2 ⟨vh, rfl, oh, b2'⟩
    have HM := Lib.hid (min_any vh hs _ w2 oh (by omega) (by omega))
    have B2 := Lib.hid (B1.out.trans (b2'.mono hs1))
    obtain ⟨H, ch, rfl⟩ := oh.slice
    obtain ⟨-, -, -, bw⟩ := BX.out w2 B2.out
    clear b2' x0 x1 o1 oh hhl
    go_wp2_with fail
    refine HM.out.mono ?_
    rintro e w3 ⟨rfl, rfl⟩
    go_wp2
    go_ret
    exact ⟨rfl, bw⟩
end Go.Proofs.Ytblbmppbbhibeaa
