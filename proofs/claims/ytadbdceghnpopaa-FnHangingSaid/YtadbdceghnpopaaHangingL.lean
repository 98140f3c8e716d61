/- The law FnHanging, walked over the contracts of the program's functions. No condition. -/
import Derived.Test.YtadbdceghnpopaaPuldW
import Derived.Test.YtadbdceghnpopaaHangM
import Derived.Test.YtadbdceghnpopaaHangI
import Derived.Test.YtadbdceghnpopaaRowI
import Derived.BigQuiet
namespace Go.Proofs.Ytadbdceghnpopaa
open Go.RowKit

/-- What the law's call keeps while it goes on: its body, the pulls, the pose, the loose strings, all that is elder. -/
structure KeepH (w : World) (B m : Nat) (v : Value) (ls : List Lb) (vp : Value) (zs : List Int) (pv : Value) (hs : List Int) (sv : Value) (ss : List Int) (W : World) : Prop where
  box : BoxAt W B m v
  lim : OwnL W w.heap.size v ls
  pul : OwnI W w.heap.size vp zs
  pos : OwnI W w.heap.size pv hs
  sla : OwnI W w.heap.size sv ss
  bel : Below w.heap.size w W
theorem KeepH.below {w : World} {B m : Nat} {v : Value} {ls : List Lb} {vp : Value} {zs : List Int} {pv : Value} {hs : List Int} {sv : Value} {ss : List Int} {W W' : World} (h : KeepH w B m v ls vp zs pv hs sv ss W) (hb : Below W.heap.size W W') : KeepH w B m v ls vp zs pv hs sv ss W' :=
  ⟨h.box.below hb, h.lim.below hb, h.pul.below hb, h.pos.below hb, h.sla.below hb, h.bel.trans (hb.mono h.bel.size)⟩
theorem up_more {hs : List Int} {k : Nat} (h : k < hs.length) : (hs.take (k + 1)).map (· + 3) = (hs.take k).map (· + 3) ++ [hs[k] + 3] := by
  rw [List.take_add_one, List.getElem?_eq_getElem h, List.map_append]
  rfl

set_option maxRecDepth 100000 in
set_option maxHeartbeats 3200000 in
theorem FnHanging_walk (a : Option Addr) (n cap : Nat) (z : List Int) (w : World) (hr : IsRow .u8 w a n cap z) :
    Calls Try.prog 3 #[.slice a n cap] w fun e w' => e = .returned (.bool true) ∧ Below w.heap.size w w' := by
  have hn := row_len hr
  by_cases hb : 1048576 < n
  · have BG := Lib.hid (fun W => big_yes a n cap W hb hn)
    clear hr
    go_enter Try.func3, Try.ntmps3
    go_wp2_with (go_at_call 10; refine (BG.out _).mono ?_; rintro e w' ⟨rfl, rfl⟩)
    go_ret
    exact ⟨rfl, Below.refl _ _⟩
  · have BG := Lib.hid (fun W => big_no a n cap W (by omega))
    have DH := Lib.hid (hung_any a n cap z w hr (by omega))
    clear hr hb
    go_enter Try.func3, Try.ntmps3
    go_wp2_with (go_at_call 10; refine (BG.out _).mono ?_; rintro e w' ⟨rfl, rfl⟩)
    refine DH.out.mono ?_
    rintro e w1 ⟨m, v, vp, ls, zs, rfl, o1, p1, hok, b1⟩
    have H := Lib.hid (hung_of hok)
    have hzl := Lib.hid H.out.len
    have hm := H.out.small
    have hlm := H.out.limbs
    obtain ⟨A, c, rfl⟩ := o1.slice
    obtain ⟨P, d, rfl⟩ := p1.slice
    rw [hzl.out] at p1 ⊢
    have hll : ls.length ≤ 2000000 := by omega
    have hzz : zs.length ≤ 2000000 := by rw [hzl.out]; omega
    have hm1 : 1 ≤ m := by omega
    have CP := Lib.hid (fun W h1 h2 => hok ▸ implPulls m (.slice A ls.length c) (.slice P m d) ls zs w.heap.size w.heap.size W h1 h2 hll hzz)
    have CQ := Lib.hid (fun vq W h1 h2 => (hang_held H.out).1 ▸ implPose m (.slice A ls.length c) vq ls (hangs m ls zs) w.heap.size w.heap.size W h1 h2 hll (by rw [hangs_len]; omega))
    have CH := Lib.hid (fun W h1 h2 => hangPose_is H.out ▸ implHang m (.slice A ls.length c) (.slice P m d) ls zs w.heap.size w.heap.size W h1 h2 hll hzz)
    have CS := Lib.hid (fun W h1 h2 => implSlack m (.slice A ls.length c) (.slice P m d) ls zs w.heap.size w.heap.size W h1 h2 hll hzz)
    have CL := Lib.hid (fun W h1 h2 => lowest_is H.out ▸ implLow m (.slice A ls.length c) (.slice P m d) ls zs w.heap.size w.heap.size W h1 h2 hll hzz)
    have CI := Lib.hid (fun vh W h1 h2 h3 => (hang_held H.out).2 ▸ implHeld m (.slice A ls.length c) (.slice P m d) vh ls zs (hangs m ls zs) w.heap.size w.heap.size w.heap.size W h1 h2 h3 hll hzz (by rw [hangs_len]; omega))
    have CJ := Lib.hid (fun j (hj : j < m) b3 vh W h1 h2 h3 => hang_lower H.out hj ▸ implHeld m (.slice A ls.length c) (.slice P m d) vh ls zs ((hangs m ls zs).set j (hang m ls zs j - 1)) w.heap.size w.heap.size b3 W h1 h2 h3 hll hzz (by rw [List.length_set, hangs_len]; omega))
    have CK := Lib.hid (fun vh b3 W h1 h2 h3 => hang_higher H.out ▸ implHeld m (.slice A ls.length c) (.slice P m d) vh ls zs ((hangs m ls zs).map (· + 3)) w.heap.size w.heap.size b3 W h1 h2 h3 hll hzz (by rw [List.length_map, hangs_len]; omega))
    have CA := Lib.hid (fun sv (j : Nat) W h => has_any sv (slacks m ls zs) (j : Int) w.heap.size W h (by have := slacks_len m ls zs; omega))
    have X1 := Lib.hid (boxAt_new w1 (m : Int) (.slice A ls.length c))
    have L1 := Lib.hid (o1.alloc (.cells #[.int .i64 (m : Int), .slice A ls.length c] 26))
    have P1 := Lib.hid (p1.alloc (.cells #[.int .i64 (m : Int), .slice A ls.length c] 26))
    have B1 := Lib.hid (b1.alloc b1.size (.cells #[.int .i64 (m : Int), .slice A ls.length c] 26))
    have hs1 := b1.size
    clear o1 p1 b1 hok BG DH
    unfold bodyV at CP CQ CH CS CL CI CJ CK ⊢
    go_wp2_with fail
    refine (CH.out _ L1.out P1.out).mono ?_
    rintro e w2 ⟨pv, rfl, o2, b2⟩
    obtain ⟨Q, q, rfl⟩ := o2.slice
    rw [hangs_len] at o2 ⊢
    have X2 := Lib.hid (X1.out.below b2)
    have L2 := Lib.hid (L1.out.below b2)
    have P2 := Lib.hid (P1.out.below b2)
    have O2 := Lib.hid (o2.mono (b := w.heap.size) (by simp; omega))
    have B2 := Lib.hid (B1.out.trans (b2.mono (by simp; omega)))
    clear o2 b2 X1 L1 P1 B1 CH
    obtain ⟨x0, x1⟩ := X2.out
    go_wp2_with fail
    refine (CQ.out _ _ L2.out O2.out).mono ?_
    rintro e w3 ⟨rfl, b3⟩
    have X3 := Lib.hid (X2.out.below b3)
    have L3 := Lib.hid (L2.out.below b3)
    have P3 := Lib.hid (P2.out.below b3)
    have O3 := Lib.hid (O2.out.below b3)
    have B3 := Lib.hid (B2.out.trans (b3.mono B2.out.size))
    clear b3 X2 L2 P2 O2 B2 CQ x0 x1
    obtain ⟨x0, x1⟩ := X3.out
    go_wp2_with fail
    refine (CI.out _ _ L3.out P3.out O3.out).mono ?_
    rintro e w4 ⟨rfl, b4⟩
    have X4 := Lib.hid (X3.out.below b4)
    have L4 := Lib.hid (L3.out.below b4)
    have P4 := Lib.hid (P3.out.below b4)
    have O4 := Lib.hid (O3.out.below b4)
    have B4 := Lib.hid (B3.out.trans (b4.mono B3.out.size))
    clear b4 X3 L3 P3 O3 B3 CI x0 x1
    obtain ⟨x0, x1⟩ := X4.out
    go_wp2_with fail
    refine (CS.out _ L4.out P4.out).mono ?_
    rintro e w5 ⟨sv, rfl, o5, b5⟩
    have K := Lib.hid (show KeepH w w1.heap.size m (.slice A ls.length c) ls (.slice P m d) zs (.slice Q m q) (hangs m ls zs) sv (slacks m ls zs) w5 from ⟨X4.out.below b5, L4.out.below b5, P4.out.below b5, O4.out.below b5, o5.mono B4.out.size, B4.out.trans (b5.mono B4.out.size)⟩)
    clear o5 b5 X4 L4 P4 O4 B4 CS x0 x1
    go_wp2_with fail
    go_loopw [7] (fun jv wr => ∃ j : Nat, j ≤ m ∧ jv = .int .i64 (j : Int) ∧ Hid (KeepH w w1.heap.size m (.slice A ls.length c) ls (.slice P m d) zs (.slice Q m q) (hangs m ls zs) sv (slacks m ls zs) wr)) (fun jv _ => m - (intOf jv).toNat)
    case atStart => exact ⟨0, by omega, rfl, K.out⟩
    case round =>
      clear K
      obtain ⟨j, hj, rfl, K⟩ := hrel
      obtain ⟨x0, x1⟩ := K.out.box
      by_cases hjt : j < m
      · clear CP CL CK
        have hj0 : (0 : Int) ≤ (j : Int) := by omega
        have hj1 : (j : Int) < (m : Int) := by omega
        obtain ⟨gp, _, e1, _, _, z0, _⟩ := K.out.pul.spot (k := j) (by rw [hzl.out]; exact hjt)
        rw [hzl.out] at e1
        simp only [Value.slice.injEq] at e1
        obtain ⟨rfl, em, rfl⟩ := e1
        clear em
        obtain ⟨gq, _, e1, _, _, z1, _⟩ := K.out.pos.spot (k := j) (by rw [hangs_len]; exact hjt)
        rw [hangs_len] at e1
        simp only [Value.slice.injEq] at e1
        obtain ⟨rfl, em, rfl⟩ := e1
        clear em
        rw [hangs_at] at z1
        have HR := hang_range H.out j
        have SF := Lib.hid (show 0 ≤ zs.getD j 0 → zs.getD j 0 ≤ hang m ls zs j from fun h => hang_self hjt h)
        have HB := Lib.hid (show hasL (slacks m ls zs) (j : Int) = (decide (0 ≤ zs.getD j 0) && decide (zs.getD j 0 < hang m ls zs j)) by rw [slacks_is H.out, slackTo_has, slackB_is hjt, decide_eq_true hjt, Bool.true_and])
        have GD := Lib.hid (getD_of (zs := zs) (k := j) (by rw [hzl.out]; exact hjt))
        rw [GD.out] at SF HB
        have CJJ := Lib.hid (CJ.out j hjt)
        have CAJ := Lib.hid (show ∀ W, OwnI W w.heap.size sv (slacks m ls zs) → Calls Try.prog 16 #[sv, .int .i64 (j : Int)] W (fun e w' => e = .returned (.bool (decide (0 ≤ zs[j]'(by rw [hzl.out]; exact hjt)) && decide (zs[j]'(by rw [hzl.out]; exact hjt) < hang m ls zs j))) ∧ w' = W) from fun W h => by have := CA.out sv j W h; rwa [HB.out] at this)
        have SETQ := Lib.hid (show (hangs m ls zs).length = m from hangs_len m ls zs)
        have hlt := hjt
        generalize zs[j]'(by rw [hzl.out]; exact hjt) = x at z0 SF CAJ
        have NX := Lib.hid (show 0 ≤ x → ¬ hang m ls zs j < x from fun h => by have := SF.out h; omega)
        clear SF HB GD CA CJ
        generalize hang m ls zs j = t at z1 HR CAJ CJJ NX
        have gw : IntKind.i64.wrap (t - 1) = t - 1 := IntWalk.i64_in _ (by omega)
        by_cases hx : 0 ≤ x
        · have nx := NX.out hx
          have g0 : decide (0 ≤ x) = true := decide_eq_true hx
          have g1 : decide (t < x) = false := decide_eq_false nx
          by_cases hs : x < t
          · have g2 : decide (x < t) = true := decide_eq_true hs
            have C := Lib.hid (show ∀ W, OwnI W w.heap.size sv (slacks m ls zs) → Calls Try.prog 16 #[sv, .int .i64 (j : Int)] W (fun e w' => e = .returned (.bool true) ∧ w' = W) from fun W h => by have h' := CAJ.out W h; rw [g0, g2] at h'; exact h')
            clear nx NX CAJ
            go_wp2_with fail
            go_quiet (first | (go_at_call 16; refine Calls.quiet_of_same (C.out _ ?_); exact K.out.sla))
            have BD := below_of_grown (grown_drewN (World.grownBy.refl wr none) nq)
            have K2 := Lib.hid (K.out.below BD)
            have z2 := cell_below z1 BD
            clear BD x0 x1 z0 z1 K C g0 g1 g2 hx hs
            generalize wr.drewN nq = W at K2 z2 ⊢
            have hgq := World.block_lt_of_cell? W _ z2
            go_wp2_with (at_builtin; refine wpList_rowsI rfl (.tmp 88) (.tmp 89) rfl W.heap.size w.heap.size (.slice (some ⟨W.heap.size, 0, none⟩) 0 0) (.slice (some ⟨gq, 0, none⟩) m q) [] (hangs m ls zs) rfl rfl (ownI_empty W W.heap.size W.heap.size #[] rfl (Nat.le_refl _) rfl) (K2.out.pos.alloc _) ?_ ?_ ?_; (simp only [List.length_nil]; rw [SETQ.out]; omega); (simp); intro v' w7 own0 hgrow hat; have own1 : OwnI w7 W.heap.size v' (hangs m ls zs) := own0; obtain ⟨gl, cl, rfl, hgl, _, y0, f0⟩ := own1.spot (k := j) (by rw [SETQ.out]; exact hlt); rw [SETQ.out] at own1 ⊢; have BB : Below W.heap.size W w7 := ((Below.refl _ _).alloc (Nat.le_refl _) _).grown hgrow (by simp) (fun k hk => by have : W.heap.size = k := (by simpa [Value.ownBlock] using hk); omega); have z3 := cell_below z2 BB; obtain ⟨u, hu⟩ : ∃ u, w7.cell? ⟨gl, j, none⟩ = some u := ⟨_, y0⟩; have BS := Lib.hid (BB.setCell (p := ⟨gl, j, none⟩) hgl (.int .i64 (t - 1))); have K3 := Lib.hid (K2.out.below BS.out); have ST := Lib.hid (own1.set SETQ.out.symm j (t - 1)).1; obtain ⟨y2, y3⟩ := K3.out.box; clear y0 own0 own1 hgrow hat BB)
            refine (CJJ.out _ _ _ K3.out.lim K3.out.pul ST.out).mono ?_
            rintro e w9 ⟨rfl, b9⟩
            have K4 := Lib.hid (K3.out.below b9)
            clear b9 K2 K3 ST BS z2 z3 hu f0 y2 y3
            go_wp2
            exact ⟨⟨j + 1, by omega, by go_num, K4.out⟩, by simp [intOf]; omega⟩
          · have g2 : decide (x < t) = false := decide_eq_false hs
            have C := Lib.hid (show ∀ W, OwnI W w.heap.size sv (slacks m ls zs) → Calls Try.prog 16 #[sv, .int .i64 (j : Int)] W (fun e w' => e = .returned (.bool false) ∧ w' = W) from fun W h => by have h' := CAJ.out W h; rw [g0, g2] at h'; exact h')
            clear nx NX CAJ
            go_wp2_with fail
            go_quiet (first | (go_at_call 16; refine Calls.quiet_of_same (C.out _ ?_); exact K.out.sla))
            have BD := below_of_grown (grown_drewN (World.grownBy.refl wr none) nq)
            have K2 := Lib.hid (K.out.below BD)
            have z2 := cell_below z1 BD
            clear BD x0 x1 z0 z1 K C g0 g1 g2 hx hs
            generalize wr.drewN nq = W at K2 z2 ⊢
            have hgq := World.block_lt_of_cell? W _ z2
            go_wp2_with (at_builtin; refine wpList_rowsI rfl (.tmp 88) (.tmp 89) rfl W.heap.size w.heap.size (.slice (some ⟨W.heap.size, 0, none⟩) 0 0) (.slice (some ⟨gq, 0, none⟩) m q) [] (hangs m ls zs) rfl rfl (ownI_empty W W.heap.size W.heap.size #[] rfl (Nat.le_refl _) rfl) (K2.out.pos.alloc _) ?_ ?_ ?_; (simp only [List.length_nil]; rw [SETQ.out]; omega); (simp); intro v' w7 own0 hgrow hat; have own1 : OwnI w7 W.heap.size v' (hangs m ls zs) := own0; obtain ⟨gl, cl, rfl, hgl, _, y0, f0⟩ := own1.spot (k := j) (by rw [SETQ.out]; exact hlt); rw [SETQ.out] at own1 ⊢; have BB : Below W.heap.size W w7 := ((Below.refl _ _).alloc (Nat.le_refl _) _).grown hgrow (by simp) (fun k hk => by have : W.heap.size = k := (by simpa [Value.ownBlock] using hk); omega); have z3 := cell_below z2 BB; obtain ⟨u, hu⟩ : ∃ u, w7.cell? ⟨gl, j, none⟩ = some u := ⟨_, y0⟩; have BS := Lib.hid (BB.setCell (p := ⟨gl, j, none⟩) hgl (.int .i64 (t - 1))); have K3 := Lib.hid (K2.out.below BS.out); have ST := Lib.hid (own1.set SETQ.out.symm j (t - 1)).1; obtain ⟨y2, y3⟩ := K3.out.box; clear y0 own0 own1 hgrow hat BB)
            refine (CJJ.out _ _ _ K3.out.lim K3.out.pul ST.out).mono ?_
            rintro e w9 ⟨rfl, b9⟩
            have K4 := Lib.hid (K3.out.below b9)
            clear b9 K2 K3 ST BS z2 z3 hu f0 y2 y3
            go_wp2
            exact ⟨⟨j + 1, by omega, by go_num, K4.out⟩, by simp [intOf]; omega⟩
        · have g0 : decide (0 ≤ x) = false := decide_eq_false hx
          have C := Lib.hid (show ∀ W, OwnI W w.heap.size sv (slacks m ls zs) → Calls Try.prog 16 #[sv, .int .i64 (j : Int)] W (fun e w' => e = .returned (.bool false) ∧ w' = W) from fun W h => by have h' := CAJ.out W h; rw [g0] at h'; exact h')
          clear NX CAJ
          go_wp2_with fail
          go_quiet (first | (go_at_call 16; refine Calls.quiet_of_same (C.out _ ?_); exact K.out.sla))
          have BD := below_of_grown (grown_drewN (World.grownBy.refl wr none) nq)
          have K2 := Lib.hid (K.out.below BD)
          have z2 := cell_below z1 BD
          clear BD x0 x1 z0 z1 K C g0 hx
          generalize wr.drewN nq = W at K2 z2 ⊢
          have hgq := World.block_lt_of_cell? W _ z2
          go_wp2_with (at_builtin; refine wpList_rowsI rfl (.tmp 88) (.tmp 89) rfl W.heap.size w.heap.size (.slice (some ⟨W.heap.size, 0, none⟩) 0 0) (.slice (some ⟨gq, 0, none⟩) m q) [] (hangs m ls zs) rfl rfl (ownI_empty W W.heap.size W.heap.size #[] rfl (Nat.le_refl _) rfl) (K2.out.pos.alloc _) ?_ ?_ ?_; (simp only [List.length_nil]; rw [SETQ.out]; omega); (simp); intro v' w7 own0 hgrow hat; have own1 : OwnI w7 W.heap.size v' (hangs m ls zs) := own0; obtain ⟨gl, cl, rfl, hgl, _, y0, f0⟩ := own1.spot (k := j) (by rw [SETQ.out]; exact hlt); rw [SETQ.out] at own1 ⊢; have BB : Below W.heap.size W w7 := ((Below.refl _ _).alloc (Nat.le_refl _) _).grown hgrow (by simp) (fun k hk => by have : W.heap.size = k := (by simpa [Value.ownBlock] using hk); omega); have z3 := cell_below z2 BB; obtain ⟨u, hu⟩ : ∃ u, w7.cell? ⟨gl, j, none⟩ = some u := ⟨_, y0⟩; have BS := Lib.hid (BB.setCell (p := ⟨gl, j, none⟩) hgl (.int .i64 (t - 1))); have K3 := Lib.hid (K2.out.below BS.out); have ST := Lib.hid (own1.set SETQ.out.symm j (t - 1)).1; obtain ⟨y2, y3⟩ := K3.out.box; clear y0 own0 own1 hgrow hat BB)
          refine (CJJ.out _ _ _ K3.out.lim K3.out.pul ST.out).mono ?_
          rintro e w9 ⟨rfl, b9⟩
          have K4 := Lib.hid (K3.out.below b9)
          clear b9 K2 K3 ST BS z2 z3 hu f0 y2 y3
          go_wp2
          exact ⟨⟨j + 1, by omega, by go_num, K4.out⟩, by simp [intOf]; omega⟩
      · obtain rfl : j = m := by omega
        clear CJ CA
        go_wp2_with fail
        refine (CL.out _ K.out.lim K.out.pul).mono ?_
        rintro e w6 ⟨rfl, b6⟩
        have K6 := Lib.hid (K.out.below b6)
        have LE := Lib.hid (fun k (hk : k < j) => show leastTo (hangs j ls zs) j ≤ hang j ls zs k by rw [← hangs_getD hk]; exact leastTo_le hk)
        have LG : -2000 ≤ leastTo (hangs j ls zs) j := leastTo_ge (by rw [hangs_getD (by omega)]; exact (hang_range H.out 0).1) (fun k hk => by rw [hangs_getD hk]; exact (hang_range H.out k).1)
        generalize leastTo (hangs j ls zs) j = low at LE LG ⊢
        clear b6 K CL x0 x1
        go_wp2_with fail
        go_loopw [10] (fun kv wq => ∃ k : Nat, k ≤ j ∧ kv = .int .i64 (k : Int) ∧ wq = w6) (fun kv _ => j - (intOf kv).toNat)
        case atStart => exact ⟨0, by omega, rfl, rfl⟩
        case round =>
          obtain ⟨k, hk, rfl, hwq⟩ := hrel
          have hwq := hwq.symm
          subst hwq
          obtain ⟨x0, x1⟩ := K6.out.box
          by_cases hkt : k < j
          · obtain ⟨gq, _, e1, _, _, z1, _⟩ := K6.out.pos.spot (k := k) (by rw [hangs_len]; exact hkt)
            rw [hangs_len] at e1
            simp only [Value.slice.injEq] at e1
            obtain ⟨rfl, em, rfl⟩ := e1
            clear em
            rw [hangs_at] at z1
            have hk0 : (0 : Int) ≤ (k : Int) := by omega
            have hk1 : (k : Int) < (j : Int) := by omega
            have nl : ¬ hang j ls zs k < low := by have := LE.out k hkt; omega
            generalize hang j ls zs k = t at z1 nl
            go_wp2
            exact ⟨⟨k + 1, by omega, by go_num, trivial⟩, by simp [intOf]; omega⟩
          · obtain rfl : k = j := by omega
            clear LE
            have O0 := Lib.hid (ownI_empty w6 w6.heap.size w6.heap.size #[] rfl (Nat.le_refl _) rfl)
            have K7 := Lib.hid (K6.out.below ((Below.refl w6.heap.size w6).alloc (Nat.le_refl _) (.cells #[] 3)))
            obtain ⟨i0, hi0, hz0, hz1, hz2⟩ := info_parts info_int
            have hpos : 0 < 1 := by omega
            go_wp2_with fail
            clear x0 x1
            go_loopw [11, 12] (fun ov iv wr => ∃ (i : Nat) (vo : Value), vo = ov ∧ i ≤ k ∧ iv = .int .i64 (i : Int) ∧ Hid (OwnI wr w6.heap.size vo (((hangs k ls zs).take i).map (· + 3))) ∧ Hid (KeepH w w1.heap.size k (.slice A ls.length c) ls (.slice P k d) zs (.slice Q k q) (hangs k ls zs) sv (slacks k ls zs) wr) ∧ Hid (w6.heap.size ≤ wr.heap.size ∧ Below w6.heap.size w6 wr)) (fun _ iv _ => k - (intOf iv).toNat)
            case atStart => exact ⟨0, _, rfl, by omega, rfl, O0.out, K7.out, by simp, (Below.refl w6.heap.size w6).alloc (Nat.le_refl _) _⟩
            case round =>
              clear O0 K7
              obtain ⟨i, vo, rfl, hi, rfl, HO, HK, HS⟩ := hrel
              obtain ⟨x0, x1⟩ := HK.out.box
              by_cases hit : i < k
              · obtain ⟨gq, _, e1, _, _, z1, _⟩ := HK.out.pos.spot (k := i) (by rw [hangs_len]; exact hit)
                rw [hangs_len] at e1
                simp only [Value.slice.injEq] at e1
                obtain ⟨rfl, em, rfl⟩ := e1
                clear em
                rw [hangs_at] at z1
                have hk0 : (0 : Int) ≤ (i : Int) := by omega
                have hk1 : (i : Int) < (k : Int) := by omega
                have UP := Lib.hid (up_more (hs := hangs k ls zs) (k := i) (by rw [hangs_len]; exact hit))
                rw [hangs_at] at UP
                have HR := hang_range H.out i
                have TL : (((hangs k ls zs).take i).map (· + 3)).length = i := by rw [List.length_map, List.length_take, hangs_len]; omega
                have hmax : (((hangs k ls zs).take i).map (· + 3)).length + 1 ≤ maxLen := by rw [TL]; simp only [maxLen]; omega
                have hbd : ((((hangs k ls zs).take i).map (· + 3)).length + 1) * 8 ≤ 140737488355328 := by rw [TL]; omega
                have OUT := HO.out
                generalize ((hangs k ls zs).take i).map (· + 3) = ts at OUT HO UP hmax hbd
                generalize hang k ls zs i = t at z1 UP HR
                have gw : IntKind.i64.wrap (t + 3) = t + 3 := IntWalk.i64_in _ (by omega)
                clear TL
                go_wp2_with (at_builtin; refine wpList_append_lies _ rfl (.tmp 125) (.tmp 131) 27 rfl w6.heap.size 3 i0 (.int .i64 0) 1 8 Try.underlying27 hi0 hz0 hz1 hz2 rfl hpos vo _ _ rfl (OUT.alloc _) ⟨wr.heap.size, 0, none⟩ 1 1 [.int .i64 (t + 3)] rfl rfl (cell_one_new _ _ _) ?_ hpos hmax hbd ?_ (wr.heap.size + 1) ?_ ?_; (simp [Value.oneCell']); (have := HS.out.1; simp; omega); (simp); intro gg cap' w8 hown1 hgrow hat hlt')
                have BB := ints_snoc_below HS.out.2 HS.out.1 OUT hgrow
                exact ⟨⟨i + 1, _, rfl, by omega, by go_num, (by rw [UP.out]; exact ownI_snoc hown1), K6.out.below BB, BB.size, BB⟩, by simp [intOf]; omega⟩
              · obtain rfl : i = k := by omega
                rw [List.take_of_length_le (Nat.le_of_eq (hangs_len _ _ _))] at HO
                clear K6 HS
                go_wp2_with fail
                refine (CP.out _ HK.out.lim HK.out.pul).mono ?_
                rintro e w8 ⟨rfl, b8⟩
                have HK8 := Lib.hid (HK.out.below b8)
                have HO8 := Lib.hid (HO.out.below b8)
                clear b8 HK HO x0 x1
                obtain ⟨x0, x1⟩ := HK8.out.box
                go_wp2_with fail
                refine (CK.out _ _ _ HK8.out.lim HK8.out.pul HO8.out).mono ?_
                rintro e w9 ⟨rfl, b9⟩
                have HK9 := Lib.hid (HK8.out.below b9)
                clear b9 HK8 HO8 x0 x1
                go_wp2
                go_ret
                exact ⟨rfl, HK9.out.bel⟩
end Go.Proofs.Ytadbdceghnpopaa
