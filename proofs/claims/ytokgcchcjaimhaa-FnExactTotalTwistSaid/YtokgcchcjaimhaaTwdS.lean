/- The contracts of spec.TotalTwist and LeastUndoing. Condition: the crossings lie in a row of their own. -/
import Derived.Test.YtokgcchcjaimhaaTwdM
import Derived.Test.YtokgcchcjaimhaaTwsS
import Derived.BigQuiet
namespace Go.Proofs.Ytokgcchcjaimhaa
set_option linter.unusedVariables false
set_option linter.unusedSimpArgs false
open Go.RowKit

set_option maxRecDepth 100000 in
set_option maxHeartbeats 1600000 in
theorem specTot (n : Int) (v : Value) (ls : List RCross) (b : Nat) (w : World) (h : OwnCross w b v ls) (hl : ls.length ≤ 2000000) :
    Calls Try.prog 33 #[.int .i64 n, v] w fun e w' => e = .returned (.int .i64 (totalTw n ls)) ∧ Below w.heap.size w w' := by
  have CK := Lib.hid (fun W h => specCrOk n v ls b W h hl)
  obtain ⟨A, c, rfl⟩ := h.slice
  have O := Lib.hid h
  clear h
  cases hc : crossOk n ls with
  | false =>
    have R := Lib.hid (show totalTw n ls = 0 by unfold totalTw; rw [hc]; rfl)
    rw [hc] at CK
    go_enter Try.func33, Try.ntmps33
    go_wp2_with fail
    go_loopw [5, 6] (fun ov iv wr => ov = .int .i64 0 ∧ iv = .int .i64 0 ∧ Hid (Below w.heap.size w wr)) (fun _ _ _ => 0)
    case atStart => exact ⟨rfl, rfl, Lib.hid (Below.refl _ _)⟩
    case round =>
      obtain ⟨rfl, rfl, BW⟩ := hrel
      by_cases hlt : 0 < ls.length
      · have hk1 : (0 : Int) < (ls.length : Int) := by omega
        go_wp2_with (go_at_call 42; refine (CK.out _ (O.out.below BW.out)).mono ?_; rintro e w' ⟨rfl, b2⟩; have B2 := Lib.hid (BW.out.trans (b2.mono BW.out.size)); clear b2)
        go_ret
        exact ⟨by rw [R.out]; rfl, B2.out⟩
      · have hk1 : ¬ (0 : Int) < (ls.length : Int) := by omega
        go_wp2
        go_ret
        exact ⟨by rw [R.out]; rfl, BW.out⟩
  | true =>
    have h40 := (crossOk_has hc).2.1
    have R := Lib.hid (show totalTw n ls = totTo ls ls.length by unfold totalTw; rw [if_pos hc])
    rw [hc] at CK
    have SM := Lib.hid (fun k => tot_small ls k)
    have ST := Lib.hid (show ∀ k (hk : k < ls.length), totTo ls (k + 1) = totTo ls k + if ls[k].f1 = true then 1 else -1 from fun k hk => by rw [totTo, List.getD_eq_getElem?_getD, List.getElem?_eq_getElem hk]; rfl)
    go_enter Try.func33, Try.ntmps33
    go_wp2_with fail
    go_loopw [5, 6] (fun ov iv wr => ∃ k : Nat, k ≤ ls.length ∧ iv = .int .i64 (k : Int) ∧ ov = .int .i64 (totTo ls k) ∧ Hid (Below w.heap.size w wr)) (fun _ iv _ => ls.length - (intOf iv).toNat)
    case atStart => exact ⟨0, by omega, rfl, rfl, Lib.hid (Below.refl _ _)⟩
    case round =>
      obtain ⟨k, hk, rfl, rfl, BW⟩ := hrel
      by_cases hlt : k < ls.length
      rotate_left
      · obtain rfl : k = ls.length := by omega
        go_wp2
        go_ret
        exact ⟨by rw [R.out]; rfl, BW.out⟩
      have hk0 : (0 : Int) ≤ (k : Int) := by omega
      have hk1 : (k : Int) < (ls.length : Int) := by omega
      have C1 := Lib.hid (CK.out _ (O.out.below BW.out))
      obtain ⟨gl, _, f1, _, lt1, z0, _⟩ := O.out.spot hlt
      simp only [Value.slice.injEq] at f1
      obtain ⟨rfl, -, rfl⟩ := f1
      have LC := Lib.hid (fun W (hb : Below w.heap.size w W) => (show W.cell? ⟨gl, k * 2 + 1, none⟩ = some (.bool ls[k].f1) from (z0.below hb lt1) 1 _ rfl))
      have sm := SM.out k
      have st := ST.out k hlt
      generalize ls[k].f1 = y at LC st
      generalize totTo ls k = x at sm st ⊢
      have ST2 := Lib.hid st
      clear st z0
      cases y with
      | true =>
        have e2 : IntKind.i64.wrap (x + 1) = x + 1 := IntWalk.i64_in _ (by omega)
        go_wp2_with (go_at_call 42; refine C1.out.mono ?_; rintro e w1 ⟨rfl, b1⟩; have B1 := Lib.hid (BW.out.trans (b1.mono BW.out.size)); have l1 := LC.out _ B1.out; clear b1)
        exact ⟨⟨k + 1, by omega, by go_num, by rw [ST2.out]; rfl, B1⟩, by simp [intOf]; omega⟩
      | false =>
        have e2 : IntKind.i64.wrap (x - 1) = x - 1 := IntWalk.i64_in _ (by omega)
        go_wp2_with (go_at_call 42; refine C1.out.mono ?_; rintro e w1 ⟨rfl, b1⟩; have B1 := Lib.hid (BW.out.trans (b1.mono BW.out.size)); have l1 := LC.out _ B1.out; clear b1)
        exact ⟨⟨k + 1, by omega, by go_num, by rw [ST2.out]; rfl, B1⟩, by simp [intOf]; omega⟩

set_option maxRecDepth 100000 in
set_option maxHeartbeats 1600000 in
theorem specLst (n : Int) (v : Value) (ls : List RCross) (b : Nat) (w : World) (h : OwnCross w b v ls) (hl : ls.length ≤ 2000000) :
    Calls Try.prog 36 #[.int .i64 n, v] w fun e w' => e = .returned (.int .i64 (leastUn n ls)) ∧ Below w.heap.size w w' := by
  have CK := Lib.hid (specCrOk n v ls b w h hl)
  have CT := Lib.hid (fun W h => specTab n v ls b W h hl)
  obtain ⟨A, c, rfl⟩ := h.slice
  have O := Lib.hid h
  clear h
  cases hc : crossOk n ls with
  | false =>
    have R := Lib.hid (show leastUn n ls = -1 by unfold leastUn; rw [hc]; rfl)
    rw [hc] at CK
    go_enter Try.func36, Try.ntmps36
    go_wp2_with (go_at_call 42; refine CK.out.mono ?_; rintro e w1 ⟨rfl, b1⟩; have B1 := Lib.hid b1; clear b1)
    go_ret
    exact ⟨by rw [R.out]; rfl, B1.out⟩
  | true =>
    obtain ⟨hn7, hnn, h40, -⟩ := ok_fits hc
    obtain ⟨N, hN⟩ : ∃ N : Nat, n = (N : Int) := ⟨n.toNat, hnn.symm⟩
    subst hN
    have R := Lib.hid (show leastUn (N : Int) ls = leastI (twistTab (N : Int) ls) N by unfold leastUn; rw [if_pos hc, Int.toNat_natCast])
    have tl : (twistTab (N : Int) ls).length = N := by
      have := (tab_square hc ls.length (Nat.le_refl _)).len
      unfold twistTab
      rw [if_pos hc, this, Int.toNat_natCast]
    obtain ⟨t7, sq, sm⟩ := tab_len (N : Int) ls
    rw [tl] at sq sm
    rw [hc] at CK
    rw [Int.toNat_natCast] at hn7
    generalize twistTab (N : Int) ls = t at CT R tl t7 sq sm
    have SQ := Lib.hid sq
    have SI := Lib.hid (leastI_small hn7.2 sm)
    have SK := Lib.hid (fun i (hi : i < N) => leastK_small (t := t) (i := i) (m := N) (fun k hk => sm i k hi hk))
    have SE := Lib.hid sm
    clear hc sq sm hnn t7
    go_enter Try.func36, Try.ntmps36
    go_wp2_with fail
    refine CK.out.mono ?_
    rintro e w1 ⟨rfl, b1⟩
    have B1 := Lib.hid b1
    clear b1 CK
    go_wp2_with fail
    refine (CT.out _ (O.out.below B1.out)).mono ?_
    rintro e w2 ⟨vt, rfl, o2, b2⟩
    obtain ⟨V, cv, rfl⟩ := o2.slice
    rw [tl] at o2 ⊢
    have OT := Lib.hid (show ∀ W, Below w2.heap.size w2 W → OwnR W w1.heap.size (.slice V N cv) t ∧ Below w.heap.size w W from fun W hb => ⟨o2.below hb, (B1.out.trans (b2.mono B1.out.size)).trans (hb.mono (B1.out.trans (b2.mono B1.out.size)).size)⟩)
    clear o2 b2 B1 CT tl
    go_wp2_with fail
    go_loopw [5, 7] (fun ov iv wr => ∃ i : Nat, i ≤ N ∧ iv = .int .i64 (i : Int) ∧ ov = .int .i64 (leastI t i) ∧ Hid (Below w2.heap.size w2 wr)) (fun _ iv _ => N - (intOf iv).toNat)
    case atStart => exact ⟨0, by omega, rfl, rfl, Lib.hid (Below.refl _ _)⟩
    case round =>
      obtain ⟨i, hi, rfl, rfl, BW⟩ := hrel
      by_cases hlt : i < N
      rotate_left
      · obtain rfl : i = N := by omega
        go_wp2
        go_ret
        exact ⟨by rw [R.out]; rfl, (OT.out _ BW.out).2⟩
      have hi0 : (0 : Int) ≤ (i : Int) := by omega
      have hi1 : (i : Int) < (N : Int) := by omega
      have si := SI.out i hi
      have LS := Lib.hid (show leastI t (i + 1) = leastI t i + leastK t i i from rfl)
      generalize leastI t i = x at si LS ⊢
      go_wp2_with fail
      go_loopw [5, 8] (fun ov kv wr => ∃ k : Nat, k ≤ i ∧ kv = .int .i64 (k : Int) ∧ ov = .int .i64 (x + leastK t i k) ∧ Hid (Below w2.heap.size w2 wr)) (fun _ kv _ => i - (intOf kv).toNat)
      case atStart => exact ⟨0, by omega, rfl, by rw [leastK, Int.add_zero], BW⟩
      case round =>
        clear BW
        obtain ⟨k, hk, rfl, rfl, BW⟩ := hrel
        by_cases hlk : k < i
        · have hk0 : (0 : Int) ≤ (k : Int) := by omega
          have hk1 : (k : Int) < (N : Int) := by omega
          have hk2 : (k : Int) < (i : Int) := by omega
          have sk := SK.out i hlt k (by omega)
          have se := SE.out i k hlt (by omega)
          have LK := Lib.hid (show leastK t i (k + 1) = leastK t i k + absI (ent t i k) from rfl)
          obtain ⟨g, c1, ga, ca, ev, x0, x1⟩ := (OT.out _ BW.out).1.entryR SQ.out hlt (k := k) (by omega)
          simp only [Value.slice.injEq, true_and] at ev
          obtain ⟨rfl, rfl⟩ := ev
          generalize leastK t i k = y at sk LK ⊢
          generalize ent t i k = z at x1 se LK
          have e1 : IntKind.i64.wrap (-z) = -z := IntWalk.i64_in _ (by omega)
          have EM := Lib.hid (show (if z < -z then -z else z) = absI z by unfold absI; split <;> split <;> omega)
          go_wp2
          go_quiet (fail)
          go_wp2
          exact ⟨⟨k + 1, by omega, by go_num, by rw [LK.out, Int.add_assoc, EM.out], Lib.hid (below_drewN BW.out _)⟩, by simp [intOf]; omega⟩
        · obtain rfl : k = i := by omega
          go_wp2
          exact ⟨⟨k + 1, by omega, by go_num, by rw [LS.out], BW⟩, by simp [intOf]; omega⟩
end Go.Proofs.Ytokgcchcjaimhaa
