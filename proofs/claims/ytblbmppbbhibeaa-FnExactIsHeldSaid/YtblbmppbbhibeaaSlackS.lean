/- The contracts of spec.SlackStrings, spec.IsHeld and spec.LowestPoint. Condition: the limbs and the numbers lie in rows of their own. -/
import Derived.Test.YtblbmppbbhibeaaHangS
namespace Go.Proofs.Ytblbmppbbhibeaa
set_option linter.unusedVariables false
set_option linter.unusedSimpArgs false
open Go.RowKit

theorem slacks_yes {J : Int} {ls : List Lb} {zs : List Int} {n : Nat} (h : (hangPose J ls zs).length = n) : slacks J ls zs = slackTo zs (hangPose J ls zs) n := by
  unfold slacks
  rw [h]
theorem hang_zs {J : Int} {ls : List Lb} {zs : List Int} {k : Nat} (h : k < (hangPose J ls zs).length) : k < zs.length ∧ -1 ≤ zs.getD k 0 ∧ zs.getD k 0 ≤ 500 := by
  unfold hangPose at h
  split at h
  · rename_i hp
    obtain ⟨_, h2, h3, _⟩ := pulls_parts hp
    rw [hangs_len] at h
    have : k < zs.length := by omega
    exact ⟨this, h3 k this⟩
  · simp at h

set_option maxRecDepth 100000 in
set_option maxHeartbeats 1600000 in
theorem specSlack (J : Int) (v vp : Value) (ls : List Lb) (zs : List Int) (base b2 : Nat) (w : World) (hown : OwnL w base v ls) (hp : OwnI w b2 vp zs) (hlz : zs.length ≤ 2000000) :
    Calls Try.prog 30 #[bodyV J v, vp] w (IntsPost w (slacks J ls zs)) := by
  have CH := Lib.hid (fun W h1 h2 => specHang J v vp ls zs base b2 W h1 h2 hlz)
  obtain ⟨A, c, e⟩ := hown.slice
  subst e
  obtain ⟨P, d, e⟩ := hp.slice
  subst e
  have OWN := Lib.hid hown
  have HP := Lib.hid hp
  have BX := Lib.hid (box_facts (J := J) hown)
  have hln := hangPose_len J ls zs
  have HZ := Lib.hid (fun k (h : k < (hangPose J ls zs).length) => hang_zs h)
  have SE := Lib.hid (show slacks J ls zs = slackTo zs (hangPose J ls zs) (hangPose J ls zs).length from rfl)
  obtain ⟨i0, hi0, hz0, hz1, hz2⟩ := info_parts info_int
  have hpos : 0 < 1 := by omega
  clear hown hp
  unfold bodyV at CH ⊢
  rw [SE.out]
  clear SE
  have O0 := Lib.hid (ownI_empty (w.alloc (.cells #[.int .i64 J, .slice A ls.length c] 26)) (w.heap.size + 1) (w.heap.size + 1) #[] (by simp) (by omega) rfl)
  generalize hangPose J ls zs = hs at CH hln HZ ⊢
  go_enter Try.func30, Try.ntmps30
  go_wp2_with fail
  refine (CH.out _ ((OWN.out.alloc _).alloc _) ((HP.out.alloc _).alloc _)).mono ?_
  rintro e w1 ⟨vh, rfl, oh, b1⟩
  obtain ⟨H, ch, rfl⟩ := oh.slice
  have O1 := Lib.hid (O0.out.moved b1)
  have B1 := Lib.hid (specAt_world b1)
  have OH := Lib.hid oh
  obtain ⟨-, -, -, bw⟩ := BX.out w1 B1.out
  have P1 := Lib.hid (HP.out.below bw)
  have hs1 := b1.size
  simp only [World.size_alloc] at hs1
  have hs2 : w.heap.size + 1 ≤ w1.heap.size := by omega
  clear b1 oh bw
  go_wp2_with fail
  have LH := Lib.hid (fun x h => OH.out.lt x h)
  go_loopw [5, 7] (fun ov iv wr => ∃ (k : Nat) (vo : Value), vo = ov ∧ k ≤ hs.length ∧ iv = .int .i64 (k : Int) ∧ OwnI wr (w.heap.size + 1) vo (slackTo zs hs k) ∧ Hid (∀ x, vo.ownBlock = some x → x = w.heap.size + 1 ∨ w1.heap.size ≤ x) ∧ Hid (Below (w.heap.size + 1) (w.alloc (.cells #[.int .i64 J, .slice A ls.length c] 26)) wr) ∧ Hid (OwnI wr ((w.alloc (.cells #[.int .i64 J, .slice A ls.length c] 26)).alloc (.cells #[] 3)).heap.size (.slice H hs.length ch) hs ∧ w1.heap.size ≤ wr.heap.size)) (fun _ iv _ => hs.length - (intOf iv).toNat)
  case atStart => exact ⟨0, _, rfl, by omega, rfl, O1.out, Lib.hid (fun x h => .inl (by have e : w.heap.size + 1 = x := Option.some.inj h; omega)), B1, Lib.hid ⟨OH.out, Nat.le_refl _⟩⟩
  case round =>
    clear O1 B1 OH P1
    obtain ⟨k, vo, rfl, hk, rfl, hown, HV, HB, HH⟩ := hrel
    obtain ⟨-, -, -, bw⟩ := BX.out wr HB.out
    have hsz := HH.out.2
    by_cases hlt : k < hs.length
    · obtain ⟨hkz, hx0, hx1⟩ := HZ.out k hlt
      obtain ⟨gp, _, e1, _, _, z0, _⟩ := (HP.out.below bw).spot (k := k) hkz
      simp only [Value.slice.injEq] at e1
      obtain ⟨rfl, em, rfl⟩ := e1
      clear em
      obtain ⟨gh, _, e1, _, _, z1, _⟩ := HH.out.1.spot (k := k) hlt
      simp only [Value.slice.injEq] at e1
      obtain ⟨rfl, em, rfl⟩ := e1
      clear em
      have GZ := Lib.hid (getD_of hkz)
      have SM := Lib.hid (show slackTo zs hs (k + 1) = slackTo zs hs k ++ if decide (0 ≤ zs[k] ∧ zs[k] < hs[k]) = true then [(k : Int)] else [] by rw [← getD_of hkz, ← getD_of hlt]; rfl)
      rw [GZ.out] at hx0 hx1
      have hkzI : (k : Int) < (zs.length : Int) := by omega
      have hlI : (k : Int) < (hs.length : Int) := by omega
      have hk0 : (0 : Int) ≤ (k : Int) := by omega
      have hsl := slackTo_len zs hs k
      have HO := Lib.hid hown
      clear GZ bw
      generalize zs[k] = x at z0 SM hx0 hx1
      generalize hs[k] = y at z1 SM
      by_cases hx : 0 ≤ x
      · have dx : decide (0 ≤ x) = true := decide_eq_true hx
        by_cases hy : x < y
        · have dy : decide (x < y) = true := decide_eq_true hy
          have SM2 := Lib.hid (show slackTo zs hs (k + 1) = slackTo zs hs k ++ [(k : Int)] by rw [SM.out, if_pos (decide_eq_true ⟨hx, hy⟩)])
          have hmax : (slackTo zs hs k).length + 1 ≤ maxLen := by simp only [maxLen]; omega
          have hbd : ((slackTo zs hs k).length + 1) * 8 ≤ 140737488355328 := by omega
          clear SM hx hy hx0 hx1
          go_wp2
          go_quiet (fail)
          have HOz := Lib.hid (HO.out.below (below_drewN (Below.refl _ wr) nq))
          have HBz := Lib.hid (HB.out.trans (below_drewN (Below.refl _ wr) nq))
          have HHz := Lib.hid (show _ ∧ w1.heap.size ≤ (wr.drewN nq).heap.size from ⟨HH.out.1.below (below_drewN (Below.refl _ wr) nq), by simpa using HH.out.2⟩)
          clear hown z0 z1 HO HB HH hsz
          generalize wr.drewN nq = wz at HOz HBz HHz ⊢
          have hown := HOz.out
          have hsz := HHz.out.2
          have hhb := (HHz.out.1.lt gh rfl)
          have NE := Lib.hid (show (Value.slice (some ⟨gh, 0, none⟩) hs.length ch).ownBlock = none ∨ (Value.slice (some ⟨gh, 0, none⟩) hs.length ch).ownBlock ≠ vo.ownBlock from .inr fun e => by
            have h1 := LH.out gh rfl
            rcases HV.out gh e.symm with h2 | h2
            · simp only [World.size_alloc] at h1
              omega
            · omega)
          generalize slackTo zs hs k = ts at hown HOz SM2 hmax hbd
          go_wp2_with (at_builtin; refine wpList_append_lies _ rfl (.tmp 34) (.tmp 36) 27 rfl (w.heap.size + 1) 3 i0 (.int .i64 0) 1 8 Try.underlying27 hi0 hz0 hz1 hz2 rfl hpos vo _ _ rfl (hown.alloc _) ⟨wz.heap.size, 0, none⟩ 1 1 [.int .i64 (k : Int)] rfl rfl (cell_one_new _ _ _) ?_ hpos hmax hbd ?_ (wz.heap.size + 1) ?_ ?_; (simp [Value.oneCell']); (simp; omega); (simp); intro gg cap w3 hown1 hgrow hat hlt')
          have G3 := (World.grownBy_alloc wz (.cells #[.int .i64 (k : Int)] 3) vo.ownBlock).trans hgrow
          exact ⟨⟨k + 1, _, rfl, by omega, by go_num, (by rw [SM2.out]; exact ownI_snoc hown1), Lib.hid (fun x h => by
            have e : gg = x := Option.some.inj h
            rcases hat with h1 | h1
            · exact HV.out x (by rw [h1, e])
            · exact .inr (by omega)), Lib.hid (ints_snoc_below HBz.out (by omega) HOz.out hgrow), Lib.hid ⟨HHz.out.1.kept G3 NE.out, Nat.le_trans hsz G3.size⟩⟩, by simp [intOf]; omega⟩
        · have dy : decide (x < y) = false := decide_eq_false hy
          have SM2 := Lib.hid (show slackTo zs hs (k + 1) = slackTo zs hs k by rw [SM.out, if_neg (by simp; omega), List.append_nil])
          clear SM hown hx hy hx0 hx1
          go_wp2
          go_quiet (fail)
          go_wp2
          exact ⟨⟨k + 1, _, rfl, by omega, by go_num, by rw [SM2.out]; exact HO.out.below (below_drewN (Below.refl _ _) _), HV, Lib.hid (HB.out.trans (below_drewN (Below.refl _ _) _)), Lib.hid ⟨HH.out.1.below (below_drewN (Below.refl _ _) _), by simpa using HH.out.2⟩⟩, by simp [intOf]; omega⟩
      · have dx : decide (0 ≤ x) = false := decide_eq_false hx
        have SM2 := Lib.hid (show slackTo zs hs (k + 1) = slackTo zs hs k by rw [SM.out, if_neg (by simp; omega), List.append_nil])
        clear SM hown hx hx0 hx1
        go_wp2
        go_quiet (fail)
        go_wp2
        exact ⟨⟨k + 1, _, rfl, by omega, by go_num, by rw [SM2.out]; exact HO.out.below (below_drewN (Below.refl _ _) _), HV, Lib.hid (HB.out.trans (below_drewN (Below.refl _ _) _)), Lib.hid ⟨HH.out.1.below (below_drewN (Below.refl _ _) _), by simpa using HH.out.2⟩⟩, by simp [intOf]; omega⟩
    · obtain rfl : k = hs.length := by omega
      have HO := Lib.hid (hown.mono (b := w.heap.size) (by omega))
      clear hown
      go_wp2
      go_ret
      exact ⟨_, rfl, HO.out, bw⟩

theorem heldAt_eq {zs hs : List Int} {k : Nat} (h1 : k < zs.length) (h2 : k < hs.length) : heldAt zs hs k = !(decide (hs[k] < zs[k]) && decide (0 ≤ zs[k])) := by
  unfold heldAt pulled
  rw [getD_of h1, getD_of h2]
theorem range_all_more {p : Nat → Bool} {k : Nat} : (List.range (k + 1)).all p = ((List.range k).all p && p k) := by
  rw [List.range_succ, List.all_append]
  simp

set_option maxRecDepth 100000 in
set_option maxHeartbeats 1600000 in
theorem specHeld_yes (m : Nat) (v vp vh : Value) (ls : List Lb) (zs hs : List Int) (base b2 b3 : Nat) (w : World) (hown : OwnL w base v ls) (hp : OwnI w b2 vp zs) (hh : OwnI w b3 vh hs) (h : pullsOk m ls zs = true) (h' : poseOk m ls hs = true) :
    Calls Try.prog 31 #[bodyV (m : Int) v, vp, vh] w fun e w' => e = .returned (.bool ((List.range m).all (heldAt zs hs))) ∧ Below w.heap.size w w' := by
  obtain ⟨hok, hzl, -, -⟩ := pulls_parts h
  obtain ⟨-, hhl, -, -⟩ := pose_parts.1 h'
  have hm12 := (ok_parts' hok).2.2.1
  have hzm : zs.length = m := by omega
  have hhm : hs.length = m := by omega
  have CP := Lib.hid (fun W h1 h2 => h ▸ specPulls m v vp ls zs base b2 W h1 h2 (by omega))
  have CQ := Lib.hid (show ∀ W, OwnL W base v ls → OwnI W b3 vh hs → Calls Try.prog 25 #[bodyV (m : Int) v, vh] W fun e w' => e = .returned (.bool true) ∧ Below W.heap.size W w' from fun W h1 h2 => by have := specPose m v vh ls hs base b3 W h1 h2; rwa [h'] at this)
  obtain ⟨A, c, e⟩ := hown.slice
  subst e
  obtain ⟨P, d, e⟩ := hp.slice
  subst e
  obtain ⟨H, dh, e⟩ := hh.slice
  subst e
  have OWN := Lib.hid hown
  have HP := Lib.hid hp
  have HH := Lib.hid hh
  have BX := Lib.hid (box_facts (J := (m : Int)) hown)
  have HE := Lib.hid (fun (k : Nat) (h1 : k < zs.length) (h2 : k < hs.length) => heldAt_eq h1 h2)
  have HL := Lib.hid (And.intro hzm hhm)
  clear hown hp hh h h' hok hzl hhl hzm hhm
  unfold bodyV at CP CQ ⊢
  go_enter Try.func31, Try.ntmps31
  go_wp2_with fail
  refine (CP.out _ (OWN.out.alloc _) (HP.out.alloc _)).mono ?_
  rintro e w1 ⟨rfl, b1⟩
  simp only [World.size_alloc] at b1
  have B1 := Lib.hid b1
  obtain ⟨x0, x1, o1, bw⟩ := BX.out w1 b1
  have H1 := Lib.hid (HH.out.below bw)
  clear b1 bw
  go_wp2_with fail
  refine (CQ.out _ o1 H1.out).mono ?_
  rintro e w2 ⟨rfl, b2'⟩
  have hs1 := B1.out.size
  simp only [World.size_alloc] at hs1
  have B2 := Lib.hid (B1.out.trans (b2'.mono hs1))
  clear b2' x0 x1 o1
  obtain ⟨x0, x1, -, -⟩ := BX.out w2 B2.out
  go_wp2_with fail
  clear x0 x1
  go_loopw [7] (fun iv wr => ∃ k : Nat, k ≤ m ∧ iv = .int .i64 (k : Int) ∧ Hid ((List.range k).all (heldAt zs hs) = true) ∧ Hid (Below (w.heap.size + 1) (w.alloc (.cells #[.int .i64 (m : Int), .slice A ls.length c] 26)) wr)) (fun iv _ => m - (intOf iv).toNat)
  case atStart => exact ⟨0, by omega, rfl, Lib.hid rfl, B2⟩
  case round =>
    obtain ⟨k, hk, rfl, HA, HB⟩ := hrel
    obtain ⟨x0, x1, -, bw⟩ := BX.out _ HB.out
    by_cases hlt : k < m
    · obtain ⟨gp, _, e1, _, _, z0, _⟩ := (HP.out.below bw).spot (k := k) (by rw [HL.out.1]; exact hlt)
      simp only [Value.slice.injEq] at e1
      obtain ⟨rfl, em, rfl⟩ := e1
      clear em
      obtain ⟨gh, _, e1, _, _, z1, _⟩ := (HH.out.below bw).spot (k := k) (by rw [HL.out.2]; exact hlt)
      simp only [Value.slice.injEq] at e1
      obtain ⟨rfl, em, rfl⟩ := e1
      clear em
      have HEk := Lib.hid (HE.out k (by rw [HL.out.1]; exact hlt) (by rw [HL.out.2]; exact hlt))
      have hk0 : (0 : Int) ≤ (k : Int) := by omega
      have hk1 : (k : Int) < (m : Int) := by omega
      have hk2 : (k : Int) < (zs.length : Int) := by have := HL.out.1; omega
      have hk3 : (k : Int) < (hs.length : Int) := by have := HL.out.2; omega
      have BW := Lib.hid bw
      clear bw
      generalize zs[k]'(by rw [HL.out.1]; exact hlt) = x at z0 HEk
      generalize hs[k]'(by rw [HL.out.2]; exact hlt) = y at z1 HEk
      have AM := Lib.hid (range_all_more (p := heldAt zs hs) (k := k))
      have NO := Lib.hid (fun (h : heldAt zs hs k = false) => all_not (p := heldAt zs hs) (zs := List.range m) (List.mem_range.2 hlt) h)
      by_cases hy : y < x
      · have dy : decide (y < x) = true := decide_eq_true hy
        by_cases hx : 0 ≤ x
        · have dx : decide (0 ≤ x) = true := decide_eq_true hx
          have NO2 := Lib.hid (NO.out (by rw [HEk.out, dy, dx]; rfl))
          clear hx hy NO AM
          go_wp2
          go_quiet (fail)
          go_wp2
          go_ret
          exact ⟨by rw [NO2.out]; rfl, BW.out.trans (below_drewN (Below.refl _ _) _)⟩
        · have dx : decide (0 ≤ x) = false := decide_eq_false hx
          have AM2 := Lib.hid (show (List.range (k + 1)).all (heldAt zs hs) = true by rw [AM.out, HA.out, HEk.out, dy, dx]; rfl)
          clear hx hy NO AM
          go_wp2
          go_quiet (fail)
          go_wp2
          exact ⟨⟨k + 1, by omega, by go_num, AM2, Lib.hid (HB.out.trans (below_drewN (Below.refl _ _) _))⟩, by simp [intOf]; omega⟩
      · have dy : decide (y < x) = false := decide_eq_false hy
        have AM2 := Lib.hid (show (List.range (k + 1)).all (heldAt zs hs) = true by rw [AM.out, HA.out, HEk.out, dy]; rfl)
        clear hy NO AM
        go_wp2
        go_quiet (fail)
        go_wp2
        exact ⟨⟨k + 1, by omega, by go_num, AM2, Lib.hid (HB.out.trans (below_drewN (Below.refl _ _) _))⟩, by simp [intOf]; omega⟩
    · obtain rfl : k = m := by omega
      go_wp2
      go_ret
      exact ⟨by rw [HA.out]; rfl, bw⟩

set_option maxRecDepth 100000 in
set_option maxHeartbeats 800000 in
theorem specHeld (J : Int) (v vp vh : Value) (ls : List Lb) (zs hs : List Int) (base b2 b3 : Nat) (w : World) (hown : OwnL w base v ls) (hp : OwnI w b2 vp zs) (hh : OwnI w b3 vh hs) (hlz : zs.length ≤ 2000000) :
    Calls Try.prog 31 #[bodyV J v, vp, vh] w fun e w' => e = .returned (.bool (isHeld J ls zs hs)) ∧ Below w.heap.size w w' := by
  by_cases h : pullsOk J ls zs = true ∧ poseOk J ls hs = true
  · obtain ⟨m, rfl⟩ := Int.eq_ofNat_of_zero_le (show 0 ≤ J by have := ok_len (pulls_parts h.1).1; omega)
    rw [show isHeld m ls zs hs = (List.range m).all (heldAt zs hs) by unfold isHeld; rw [h.1, h.2, Int.toNat_natCast]; rfl]
    exact specHeld_yes m v vp vh ls zs hs base b2 b3 w hown hp hh h.1 h.2
  · have CP := Lib.hid (fun W h1 h2 => specPulls J v vp ls zs base b2 W h1 h2 hlz)
    have CQ := Lib.hid (fun W h1 h2 => specPose J v vh ls hs base b3 W h1 h2)
    obtain ⟨A, c, e⟩ := hown.slice
    subst e
    have OWN := Lib.hid hown
    have HP := Lib.hid hp
    have HH := Lib.hid hh
    have BX := Lib.hid (box_facts (J := J) hown)
    clear hown hp hh
    unfold bodyV at CP CQ ⊢
    unfold isHeld
    cases h1 : pullsOk J ls zs with
    | false =>
      rw [h1] at CP
      clear h h1
      go_enter Try.func31, Try.ntmps31
      go_wp2_with fail
      refine (CP.out _ (OWN.out.alloc _) (HP.out.alloc _)).mono ?_
      rintro e w1 ⟨rfl, b1⟩
      simp only [World.size_alloc] at b1
      obtain ⟨x0, x1, -, bw⟩ := BX.out w1 b1
      clear b1
      go_wp2
      go_ret
      exact ⟨rfl, bw⟩
    | true =>
      have h2 : poseOk J ls hs = false := by
        cases h2 : poseOk J ls hs with
        | false => rfl
        | true => exact absurd ⟨h1, h2⟩ h
      rw [h1] at CP
      rw [h2] at CQ ⊢
      clear h h1 h2
      go_enter Try.func31, Try.ntmps31
      go_wp2_with fail
      refine (CP.out _ (OWN.out.alloc _) (HP.out.alloc _)).mono ?_
      rintro e w1 ⟨rfl, b1⟩
      simp only [World.size_alloc] at b1
      have B1 := Lib.hid b1
      obtain ⟨x0, x1, o1, bw⟩ := BX.out w1 b1
      have H1 := Lib.hid (HH.out.below bw)
      clear b1 bw
      go_wp2_with fail
      refine (CQ.out _ o1 H1.out).mono ?_
      rintro e w2 ⟨rfl, b2'⟩
      have hs1 := B1.out.size
      simp only [World.size_alloc] at hs1
      have B2 := Lib.hid (B1.out.trans (b2'.mono hs1))
      clear b2' x0 x1 o1
      obtain ⟨x0, x1, -, bw⟩ := BX.out w2 B2.out
      go_wp2
      go_ret
      exact ⟨rfl, bw⟩

theorem leastTo_more {hs : List Int} {k : Nat} (h : k < hs.length) : leastTo hs (k + 1) = if hs[k] < leastTo hs k then hs[k] else leastTo hs k := by
  show min (leastTo hs k) (hs.getD k 0) = _
  rw [getD_of h]
  split <;> omega

set_option maxRecDepth 100000 in
set_option maxHeartbeats 800000 in
theorem specLow (J : Int) (v vp : Value) (ls : List Lb) (zs : List Int) (base b2 : Nat) (w : World) (hown : OwnL w base v ls) (hp : OwnI w b2 vp zs) (hlz : zs.length ≤ 2000000) :
    Calls Try.prog 32 #[bodyV J v, vp] w fun e w' => e = .returned (.int .i64 (lowest J ls zs)) ∧ Below w.heap.size w w' := by
  have CH := Lib.hid (fun W h1 h2 => specHang J v vp ls zs base b2 W h1 h2 hlz)
  obtain ⟨A, c, e⟩ := hown.slice
  subst e
  have OWN := Lib.hid hown
  have HP := Lib.hid hp
  have BX := Lib.hid (box_facts (J := J) hown)
  clear hown hp
  unfold bodyV at CH ⊢
  unfold lowest
  cases h : pullsOk J ls zs with
  | false =>
    rw [show hangPose J ls zs = [] by unfold hangPose; rw [h]; rfl] at CH
    rw [if_neg (by simp)]
    clear h
    go_enter Try.func32, Try.ntmps32
    go_wp2_with fail
    refine (CH.out _ (OWN.out.alloc _) (HP.out.alloc _)).mono ?_
    rintro e w1 ⟨vh, rfl, oh, b1⟩
    obtain ⟨H, ch, rfl⟩ := oh.slice
    simp only [World.size_alloc] at b1
    obtain ⟨-, -, -, bw⟩ := BX.out w1 b1
    clear b1 oh
    go_wp2
    go_ret
    exact ⟨rfl, bw⟩
  | true =>
    have hok := ok_len (pulls_parts h).1
    obtain ⟨m, rfl⟩ := Int.eq_ofNat_of_zero_le (show 0 ≤ J by omega)
    rw [show hangPose m ls zs = hangs m ls zs by unfold hangPose; rw [h, Int.toNat_natCast]; rfl] at CH
    rw [if_pos rfl, Int.toNat_natCast]
    have hhl := hangs_len m ls zs
    generalize hangs m ls zs = hs at CH hhl ⊢
    have hm1 : 1 ≤ m := by omega
    have hm2 : m ≤ 12 := by omega
    clear h hok
    go_enter Try.func32, Try.ntmps32
    go_wp2_with fail
    refine (CH.out _ (OWN.out.alloc _) (HP.out.alloc _)).mono ?_
    rintro e w1 ⟨vh, rfl, oh, b1⟩
    simp only [World.size_alloc] at b1
    obtain ⟨H, ch, hch⟩ := oh.slice
    rw [hhl] at hch
    subst hch
    obtain ⟨g, _, e1, _, _, z0, _⟩ := oh.spot (k := 0) (by omega)
    rw [hhl] at e1
    simp only [Value.slice.injEq] at e1
    obtain ⟨rfl, em, rfl⟩ := e1
    clear em
    have BW := Lib.hid (BX.out w1 b1).2.2.2
    have OH := Lib.hid oh
    have L0 := Lib.hid (show hs[0]'(by omega) = leastTo hs 0 from (getD_of (by omega)).symm)
    rw [L0.out] at z0
    have hmi : (0 : Int) < (m : Int) := by omega
    have hmz : ((m : Int) == 0) = false := by rw [beq_eq_false_iff_ne]; omega
    have HHL := Lib.hid hhl
    clear b1 oh L0 hhl
    go_wp2_with fail
    clear z0
    go_loopw [6, 7] (fun nv iv wr => wr = w1 ∧ ∃ k : Nat, k ≤ m ∧ iv = .int .i64 (k : Int) ∧ nv = .int .i64 (leastTo hs k)) (fun _ iv _ => m - (intOf iv).toNat)
    case atStart => exact ⟨rfl, 0, by omega, rfl, rfl⟩
    case round =>
      obtain ⟨rfl, k, hk, rfl, rfl⟩ := hrel
      by_cases hlt : k < m
      · obtain ⟨_, _, e1, _, _, z0, _⟩ := OH.out.spot (k := k) (by rw [HHL.out]; exact hlt)
        rw [HHL.out] at e1
        simp only [Value.slice.injEq, Option.some.injEq, Addr.mk.injEq] at e1
        obtain ⟨⟨rfl, _⟩, em, ec⟩ := e1
        clear em ec
        have LM := Lib.hid (leastTo_more (hs := hs) (k := k) (by rw [HHL.out]; exact hlt))
        have hk0 : (0 : Int) ≤ (k : Int) := by omega
        have hk1 : (k : Int) < (m : Int) := by omega
        generalize hs[k]'(by rw [HHL.out]; exact hlt) = x at z0 LM
        generalize leastTo hs k = t at LM
        go_wp2
        exact ⟨⟨trivial, k + 1, by omega, by go_num, by rw [LM.out]⟩, by simp [intOf]; omega⟩
      · obtain rfl : k = m := by omega
        go_wp2
        go_ret
        exact ⟨rfl, BW.out⟩
end Go.Proofs.Ytblbmppbbhibeaa
