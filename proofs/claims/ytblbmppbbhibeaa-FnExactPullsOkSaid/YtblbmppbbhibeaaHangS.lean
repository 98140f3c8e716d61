/- The contract of spec.HangPose. Condition: the limbs and the pulls lie in rows of their own. -/
import Derived.Test.YtblbmppbbhibeaaPullS
import Derived.Test.YtblbmppbbhibeaaDistS
namespace Go.Proofs.Ytblbmppbbhibeaa
set_option linter.unusedVariables false
set_option linter.unusedSimpArgs false
open Go.RowKit

/-- The heights behind the first i pulls, for the first j joints behind one more. -/
def hangRJ (m : Nat) (ls : List Lb) (zs : List Int) (i j : Nat) : List Int := (List.range m).map fun x => if x < j then hangTo m ls zs x (i + 1) else hangTo m ls zs x i
theorem hangRJ_len (m : Nat) (ls : List Lb) (zs : List Int) (i j : Nat) : (hangRJ m ls zs i j).length = m := by simp [hangRJ]
theorem hangRJ_at {m : Nat} {ls : List Lb} {zs : List Int} {i j k : Nat} (h : k < (hangRJ m ls zs i j).length) : (hangRJ m ls zs i j)[k] = if k < j then hangTo m ls zs k (i + 1) else hangTo m ls zs k i := by simp [hangRJ]
theorem hangRJ_set {m : Nat} {ls : List Lb} {zs : List Int} {i j : Nat} : (hangRJ m ls zs i j).set j (hangTo m ls zs j (i + 1)) = hangRJ m ls zs i (j + 1) := by
  refine List.ext_getElem (by simp [hangRJ]) fun k h1 h2 => ?_
  rw [List.getElem_set, hangRJ_at, hangRJ_at]
  by_cases e : j = k
  · subst e
    rw [if_pos rfl, if_pos (by omega)]
  · rw [if_neg e]
    by_cases c : k < j
    · rw [if_pos c, if_pos (by omega)]
    · rw [if_neg c, if_neg (by omega)]
theorem hangRJ_all (m : Nat) (ls : List Lb) (zs : List Int) (i : Nat) : hangRJ m ls zs i m = hangRJ m ls zs (i + 1) 0 := by
  refine List.ext_getElem (by simp [hangRJ]) fun k h1 h2 => ?_
  rw [hangRJ_at, hangRJ_at, if_pos (by rw [hangRJ_len] at h1; exact h1), if_neg (by omega)]
theorem hangRJ_skip {m : Nat} {ls : List Lb} {zs : List Int} {i : Nat} (h : zs.getD i 0 < 0) : hangRJ m ls zs (i + 1) 0 = hangRJ m ls zs i 0 := by
  refine List.ext_getElem (by simp [hangRJ]) fun k h1 h2 => ?_
  rw [hangRJ_at, hangRJ_at, if_neg (by omega), if_neg (by omega)]
  exact if_pos h
theorem hangRJ_zero (m : Nat) (ls : List Lb) (zs : List Int) : hangRJ m ls zs 0 0 = List.replicate m (-2000) := by
  refine List.ext_getElem (by simp [hangRJ]) fun k h1 h2 => ?_
  rw [hangRJ_at, if_neg (by omega)]
  simp [hangTo]
theorem hangRJ_end (m : Nat) (ls : List Lb) (zs : List Int) : hangRJ m ls zs m 0 = hangs m ls zs := by
  refine List.ext_getElem (by simp [hangRJ, hangs]) fun k h1 h2 => ?_
  rw [hangRJ_at, if_neg (by omega), hangs_at]
  rfl

set_option maxRecDepth 100000 in
set_option maxHeartbeats 800000 in
theorem specHang_no (J : Int) (v vp : Value) (ls : List Lb) (zs : List Int) (base b2 : Nat) (w : World) (hown : OwnL w base v ls) (hp : OwnI w b2 vp zs) (hlz : zs.length ≤ 2000000) (h : pullsOk J ls zs = false) :
    Calls Try.prog 26 #[bodyV J v, vp] w (IntsPost w []) := by
  have CS := Lib.hid (fun W h1 h2 => h ▸ specPulls J v vp ls zs base b2 W h1 h2 hlz)
  obtain ⟨A, c, e⟩ := hown.slice
  subst e
  have OWN := Lib.hid hown
  have HP := Lib.hid hp
  have BX := Lib.hid (box_facts (J := J) hown)
  clear hown hp h
  unfold bodyV at CS ⊢
  have O0 := Lib.hid (ownI_empty (w.alloc (.cells #[.int .i64 J, .slice A ls.length c] 26)) w.heap.size (w.heap.size + 1) #[] (by simp) (by omega) rfl)
  go_enter Try.func26, Try.ntmps26
  go_wp2_with fail
  refine (CS.out _ ((OWN.out.alloc _).alloc _) ((HP.out.alloc _).alloc _)).mono ?_
  rintro e w1 ⟨rfl, b1⟩
  have O1 := Lib.hid (O0.out.moved b1)
  obtain ⟨x0, x1, -, bw⟩ := BX.out w1 (specAt_world b1)
  clear b1
  go_wp2
  go_ret
  exact ⟨_, rfl, O1.out, bw⟩

set_option maxRecDepth 100000 in
set_option maxHeartbeats 1600000 in
theorem specHang_yes (m : Nat) (v vp : Value) (ls : List Lb) (zs : List Int) (base b2 : Nat) (w : World) (hown : OwnL w base v ls) (hp : OwnI w b2 vp zs) (h : pullsOk m ls zs = true) :
    Calls Try.prog 26 #[bodyV (m : Int) v, vp] w (IntsPost w (hangs m ls zs)) := by
  obtain ⟨hok, hzl, hzr, -⟩ := pulls_parts h
  obtain ⟨hf, hlm, hm12, -⟩ := ok_parts' hok
  have hzm : zs.length = m := by omega
  have CS := Lib.hid (fun W h1 h2 => h ▸ specPulls m v vp ls zs base b2 W h1 h2 (by omega))
  have CD := Lib.hid (fun i (hi : i < m) W hW => specDists_yes m i v ls base W hW hok hi)
  have HRG := Lib.hid (fun j k (hk : k ≤ m) => hangTo_range hf (by omega) (fun k hk => hzr k (by omega)) j k hk)
  have DRG := Lib.hid (fun i j => dist_range (m := m) hf i j)
  obtain ⟨A, c, e⟩ := hown.slice
  subst e
  obtain ⟨P, d, e⟩ := hp.slice
  subst e
  have OWN := Lib.hid hown
  have HP := Lib.hid hp
  have BX := Lib.hid (box_facts (J := (m : Int)) hown)
  have HZ := Lib.hid hzr
  have hll : ls.length ≤ 11 := by omega
  have hm1 : 1 ≤ m := by have := ok_len hok; omega
  clear hown hp h hok hf hlm hzl hzr
  unfold bodyV at CS CD ⊢
  rw [hzm] at CS ⊢
  have O0 := Lib.hid (ownI_empty (w.alloc (.cells #[.int .i64 (m : Int), .slice A ls.length c] 26)) (w.heap.size + 1) (w.heap.size + 1) #[] (by simp) (by omega) rfl)
  obtain ⟨i0, hi0, hz0, hz1, hz2⟩ := info_parts info_int
  have hpos : 0 < 1 := by omega
  have HZM := Lib.hid hzm
  clear hzm
  go_enter Try.func26, Try.ntmps26
  go_wp2_with fail
  refine (CS.out _ ((OWN.out.alloc _).alloc _) (by have := (HP.out.alloc (.cells #[.int .i64 (m : Int), .slice A ls.length c] 26)).alloc (.cells #[] 3); rwa [HZM.out] at this)).mono ?_
  rintro e w1 ⟨rfl, b1⟩
  have O1 := Lib.hid (O0.out.moved b1)
  have B1 := Lib.hid (specAt_world b1)
  obtain ⟨x0, x1, -, -⟩ := BX.out w1 B1.out
  clear b1
  go_wp2_with fail
  clear x0 x1
  go_loopw [5, 6] (fun ov iv wr => ∃ (k : Nat) (vo : Value), vo = ov ∧ k ≤ m ∧ iv = .int .i64 (k : Int) ∧ OwnI wr (w.heap.size + 1) vo (List.replicate k (-2000)) ∧ Below (w.heap.size + 1) (w.alloc (.cells #[.int .i64 (m : Int), .slice A ls.length c] 26)) wr) (fun _ iv _ => m - (intOf iv).toNat)
  case atStart => exact ⟨0, _, rfl, by omega, rfl, O1.out, B1.out⟩
  case round =>
    obtain ⟨k, vo, rfl, hk, rfl, hown, hbel⟩ := hrel
    obtain ⟨x0, x1, ol, bw⟩ := BX.out wr hbel
    have HO := Lib.hid hown
    have HB := Lib.hid hbel
    have hsz := hbel.size
    simp only [World.size_alloc] at hsz
    clear hbel ol bw
    by_cases hlt : k < m
    · have hmax : (List.replicate k (-2000 : Int)).length + 1 ≤ maxLen := by rw [List.length_replicate]; simp only [maxLen]; omega
      have hbd : ((List.replicate k (-2000 : Int)).length + 1) * 8 ≤ 140737488355328 := by rw [List.length_replicate]; omega
      have hkm : (k : Int) < (m : Int) := by omega
      have DS := Lib.hid (show List.replicate (k + 1) (-2000 : Int) = List.replicate k (-2000) ++ [-2000] from List.replicate_succ')
      generalize List.replicate k (-2000 : Int) = ts at hown HO hmax hbd DS
      go_wp2_with (at_builtin; refine wpList_append_lies _ rfl (.tmp 22) (.tmp 23) 27 rfl (w.heap.size + 1) 3 i0 (.int .i64 0) 1 8 Try.underlying27 hi0 hz0 hz1 hz2 rfl hpos vo _ _ rfl (hown.alloc _) ⟨wr.heap.size, 0, none⟩ 1 1 [.int .i64 (-2000)] rfl rfl (cell_one_new _ _ _) ?_ hpos hmax hbd ?_ (wr.heap.size + 1) ?_ ?_; (simp [Value.oneCell']); (simp; omega); (simp); intro gg cap w3 hown1 hgrow hat hlt')
      exact ⟨⟨k + 1, _, rfl, by omega, by go_num, (by rw [DS.out]; exact ownI_snoc hown1), ints_snoc_below HB.out hsz HO.out hgrow⟩, by simp [intOf]; omega⟩
    · obtain rfl : k = m := by omega
      obtain ⟨g, cv, rfl, hgB, _, _, _⟩ := hown.spot (k := 0) (by rw [List.length_replicate]; omega)
      rw [List.length_replicate] at HO ⊢
      rw [← hangRJ_zero k ls zs] at HO
      clear hown
      go_wp2_with fail
      clear x0 x1
      go_loopw [7] (fun iv wr => ∃ i : Nat, i ≤ k ∧ iv = .int .i64 (i : Int) ∧ Hid (OwnI wr (w.heap.size + 1) (.slice (some ⟨g, 0, none⟩) k cv) (hangRJ k ls zs i 0)) ∧ Hid (Below (w.heap.size + 1) (w.alloc (.cells #[.int .i64 (k : Int), .slice A ls.length c] 26)) wr)) (fun iv _ => k - (intOf iv).toNat)
      case atStart => exact ⟨0, by omega, rfl, HO, HB⟩
      case round =>
        clear HO HB
        obtain ⟨i, hi, rfl, HO, HB⟩ := hrel
        obtain ⟨x0, x1, ol, bw⟩ := BX.out _ HB.out
        by_cases hlt : i < k
        · obtain ⟨gp, _, e1, _, lp, z0, _⟩ := (HP.out.below bw).spot (k := i) (by rw [HZM.out]; exact hlt)
          rw [HZM.out] at e1
          simp only [Value.slice.injEq] at e1
          obtain ⟨rfl, em, rfl⟩ := e1
          clear em
          have GD := Lib.hid (getD_of (zs := zs) (k := i) (by rw [HZM.out]; exact hlt))
          have hxr := HZ.out i (by rw [HZM.out]; exact hlt)
          rw [GD.out] at hxr
          have SK := Lib.hid (fun h => hangRJ_skip (m := k) (ls := ls) (zs := zs) (i := i) h)
          have MO := Lib.hid (show ∀ j, ¬ zs.getD i 0 < 0 → hangTo k ls zs j (i + 1) = max (hangTo k ls zs j i) (zs.getD i 0 - dist k ls i j) from fun j h => if_neg h)
          rw [GD.out] at SK MO
          have hi0 : (0 : Int) ≤ (i : Int) := by omega
          have hi1 : (i : Int) < (k : Int) := by omega
          generalize hxe : zs[i]'(by rw [HZM.out]; exact hlt) = x at z0 hxr SK MO
          have XE := Lib.hid hxe
          clear hxe
          by_cases hx : x < 0
          · rw [← SK.out hx] at HO
            clear SK MO ol bw
            go_wp2
            exact ⟨⟨i + 1, by omega, by go_num, HO, HB⟩, by simp [intOf]; omega⟩
          · have MOx := Lib.hid (fun j => MO.out j hx)
            have hxp : ¬ x < 0 := hx
            have OL := Lib.hid ol
            have hsz2 := HB.out.size
            simp only [World.size_alloc] at hsz2
            have hgl := (HO.out.lt g rfl)
            clear SK MO bw ol
            go_wp2_with fail
            refine (CD.out i hlt _ OL.out).mono ?_
            rintro e w2 ⟨vl, rfl, o2, b2⟩
            obtain ⟨Al, cl, rfl⟩ := o2.slice
            rw [distsTo_len]
            have OI2 := Lib.hid (HO.out.below b2)
            have OL2 := Lib.hid o2
            have B2 := Lib.hid (HB.out.trans (b2.mono hsz2))
            clear o2 b2 x0 x1
            obtain ⟨x0, x1, -, -⟩ := BX.out _ B2.out
            go_wp2_with fail
            clear x0 x1 z0
            go_loopw [9] (fun jv wq => ∃ j : Nat, j ≤ k ∧ jv = .int .i64 (j : Int) ∧ Hid (OwnI wq (w.heap.size + 1) (.slice (some ⟨g, 0, none⟩) k cv) (hangRJ k ls zs i j)) ∧ Hid (OwnI wq wr.heap.size (.slice Al (distsTo k ls i k).length cl) (distsTo k ls i k)) ∧ Hid (Below (w.heap.size + 1) (w.alloc (.cells #[.int .i64 (k : Int), .slice A ls.length c] 26)) wq)) (fun jv _ => k - (intOf jv).toNat)
            case atStart => exact ⟨0, by omega, rfl, OI2, OL2, B2⟩
            case round =>
              clear OI2 OL2 B2
              obtain ⟨j, hj, rfl, QO, QL, QB⟩ := hrel
              obtain ⟨x0, x1, -, bw⟩ := BX.out _ QB.out
              by_cases hjt : j < k
              · obtain ⟨_, _, e1, _, _, z0, _⟩ := (HP.out.below bw).spot (k := i) (by rw [HZM.out]; exact hlt)
                rw [HZM.out] at e1
                simp only [Value.slice.injEq, Option.some.injEq, Addr.mk.injEq] at e1
                obtain ⟨⟨rfl, _⟩, em, ec⟩ := e1
                clear em ec
                rw [XE.out] at z0
                obtain ⟨_, _, e1, _, _, z1, f1⟩ := QO.out.spot (k := j) (by rw [hangRJ_len]; exact hjt)
                rw [hangRJ_at, if_neg (by omega)] at z1
                simp only [Value.slice.injEq, Option.some.injEq, Addr.mk.injEq] at e1
                obtain ⟨⟨rfl, _⟩, em, ec⟩ := e1
                clear em ec
                obtain ⟨gl, _, e1, hgl2, _, z2, _⟩ := QL.out.spot (k := j) (by rw [distsTo_len]; exact hjt)
                rw [distsTo_at] at z2
                simp only [Value.slice.injEq] at e1
                obtain ⟨rfl, em, rfl⟩ := e1
                clear em
                have hne : (Value.slice (some ⟨gl, 0, none⟩) (distsTo k ls i k).length cl).ownBlock ≠ some g := fun e => by
                  have e' : gl = g := Option.some.inj e
                  have := hgl.2
                  omega
                have ST := Lib.hid (QO.out.set (hangRJ_len k ls zs i j).symm j (hangTo k ls zs j (i + 1)))
                rw [hangRJ_set] at ST
                have htr := HRG.out j i (by omega)
                have hdr := DRG.out i j
                have MX := Lib.hid (show hangTo k ls zs j (i + 1) = if hangTo k ls zs j i < x - dist k ls i j then x - dist k ls i j else hangTo k ls zs j i by rw [MOx.out j]; split <;> omega)
                rw [MX.out] at ST
                generalize hangTo k ls zs j i = t at z1 htr ST
                generalize dist k ls i j = dd at z2 hdr ST
                have gw : IntKind.i64.wrap (x - dd) = x - dd := IntWalk.i64_in _ (by omega)
                have hj0 : (0 : Int) ≤ (j : Int) := by omega
                have hj1 : (j : Int) < (k : Int) := by omega
                have NE := Lib.hid hne
                clear hne bw MX
                go_wp2_with fail
                go_region
                have N1 := Lib.hid (ST.out.1.below (Below.refl _ _).drew)
                have N2 := Lib.hid ((QL.out.kept ST.out.2 (.inr NE.out)).below (Below.refl _ _).drew)
                have N3 := Lib.hid (((QB.out.setCell (p := ⟨g, j, none⟩) hgB (.int .i64 (if t < x - dd then x - dd else t)))).drew)
                clear x0 x1 z0 z1 z2 f1 ST NE
                go_wp2
                exact ⟨⟨j + 1, by omega, by go_num, N1, N2, N3⟩, by simp [intOf]; omega⟩
              · obtain rfl : j = k := by omega
                rw [hangRJ_all] at QO
                clear bw
                go_wp2
                exact ⟨⟨i + 1, by omega, by go_num, QO, QB⟩, by simp [intOf]; omega⟩
        · obtain rfl : i = k := by omega
          rw [hangRJ_end] at HO
          have HO2 := Lib.hid (HO.out.mono (b := w.heap.size) (by omega))
          go_wp2
          go_ret
          exact ⟨_, rfl, HO2.out, bw⟩

theorem specHang (J : Int) (v vp : Value) (ls : List Lb) (zs : List Int) (base b2 : Nat) (w : World) (hown : OwnL w base v ls) (hp : OwnI w b2 vp zs) (hlz : zs.length ≤ 2000000) :
    Calls Try.prog 26 #[bodyV J v, vp] w (IntsPost w (hangPose J ls zs)) := by
  unfold hangPose
  cases h : pullsOk J ls zs with
  | false => exact specHang_no J v vp ls zs base b2 w hown hp hlz h
  | true =>
    obtain ⟨m, rfl⟩ := Int.eq_ofNat_of_zero_le (show 0 ≤ J by have := ok_len (pulls_parts h).1; omega)
    exact specHang_yes m v vp ls zs base b2 w hown hp h
end Go.Proofs.Ytblbmppbbhibeaa
