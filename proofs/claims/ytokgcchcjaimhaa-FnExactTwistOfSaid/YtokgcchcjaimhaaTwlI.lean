/- The contract of impl.LeastUndoing. Condition: the crossings lie in a row of their own. -/
import Derived.Test.YtokgcchcjaimhaaTwvI
import Derived.BigQuiet
namespace Go.Proofs.Ytokgcchcjaimhaa
set_option linter.unusedVariables false
set_option linter.unusedSimpArgs false
open Go.RowKit

set_option maxRecDepth 100000 in
set_option maxHeartbeats 3200000 in
theorem implLst (n : Int) (v : Value) (ls : List RCross) (b : Nat) (w : World) (h : OwnCross w b v ls) (hl : ls.length ≤ 2000000) :
    Calls Try.prog 20 #[.int .i64 n, v] w fun e w' => e = .returned (.int .i64 (leastUn n ls)) ∧ Below w.heap.size w w' := by
  have CK := Lib.hid (fun W h => implCrOk n v ls b W h hl)
  have CA := Lib.hid (fun W h => implAft n v ls b W h hl)
  have CW := Lib.hid (fun W h => implWnd n v ls b W h hl)
  obtain ⟨A, c, rfl⟩ := h.slice
  have O := Lib.hid h
  clear h
  cases hc : crossOk n ls with
  | false =>
    have R := Lib.hid (show leastUn n ls = -1 by unfold leastUn; rw [hc]; rfl)
    rw [hc] at CK
    go_enter Try.func20, Try.ntmps20
    go_wp2_with (go_at_call 39; refine (CK.out _ O.out).mono ?_; rintro e w1 ⟨rfl, b1⟩; have B1 := Lib.hid b1; clear b1)
    go_ret
    exact ⟨by rw [R.out]; rfl, B1.out⟩
  | true =>
    obtain ⟨hn7, hnn, h40, -⟩ := ok_fits hc
    obtain ⟨N, hN⟩ : ∃ N : Nat, n = (N : Int) := ⟨n.toNat, hnn.symm⟩
    subst hN
    rw [Int.toNat_natCast] at hn7
    have CA := Lib.hid (fun W h => CA.out W h hc)
    have te : twistTab (N : Int) ls = tabTo (N : Int) ls ls.length := by unfold twistTab; rw [if_pos hc]
    have EN := Lib.hid (show ∀ p q, p < N → q < N → atI (aftTo (N : Int) ls ls.length) (p * 7 + q) = ent (twistTab (N : Int) ls) p q from fun p q hp hq => by rw [te]; exact aft_ent hc (by rw [Int.toNat_natCast]; exact hp) (by rw [Int.toNat_natCast]; exact hq) ls.length (Nat.le_refl _))
    have al := aft_len (N : Int) ls ls.length
    have F := twistFacts hc
    have LS := Lib.hid (least_lsum hc)
    have PB := Lib.hid (show ∀ k (hk : k < (woundPs (N : Int) ls).length), PairB N (woundPs (N : Int) ls)[k] from fun k hk => wound_pair hc hk)
    have SM := Lib.hid (lsumTo_small (t := twistTab (N : Int) ls) (fun k hk => PB.out k hk) F.small)
    have SE := Lib.hid F.small
    have wl := woundPs_len (N : Int) ls
    rw [hc] at CK
    clear te F
    generalize twistTab (N : Int) ls = t at EN LS SM SE
    generalize aftTo (N : Int) ls ls.length = T at CA EN al
    generalize woundPs (N : Int) ls = ps at CW LS PB SM wl
    obtain ⟨hci, hca⟩ := arrT_cells T al
    have hcs : (49 : Nat) = (T.map intV).toArray.size := by simp [al]
    have AL := Lib.hid al
    clear hc hnn al
    go_enter Try.func20, Try.ntmps20
    go_wp2_with (first
      | (go_at_call 39; refine (CK.out _ O.out).mono ?_; rintro e w1 ⟨rfl, b1⟩; have B1 := Lib.hid b1; clear b1)
      | (go_at_call 40; refine (CA.out _ (O.out.below B1.out)).mono ?_; rintro e w2 ⟨rfl, b2⟩; have B2 := Lib.hid (B1.out.trans (b2.mono B1.out.size)); clear b2)
      | (refine wpList_store_new rfl 53 53 _ _ rfl _ ((T.map intV).toArray) rfl rfl hci hcs hca ?_))
    have A3 := Lib.hid (arrT_one w2 w.heap.size T AL.out B2.out.size)
    have B3 := Lib.hid (B2.out.alloc B2.out.size (.cells (T.map intV).toArray 53))
    have hs0 := B2.out.size
    clear B1 B2 CK CA hci hca hcs
    refine (CW.out _ (O.out.below B3.out)).mono ?_
    rintro e w4 ⟨v4, rfl, o4, b4⟩
    obtain ⟨P, cp, rfl⟩ := o4.slice
    have A4 := Lib.hid (A3.out.below b4)
    have O4 := Lib.hid o4
    have B4 := Lib.hid (B3.out.trans (b4.mono B3.out.size))
    clear b4 o4 A3 B3 CW
    generalize (w2.alloc (.cells (T.map intV).toArray 53)).heap.size = g4 at O4
    generalize w2.heap.size = g at *
    go_wp2_with fail
    go_loopw [6, 21] (fun ov iv wr => ∃ k : Nat, k ≤ ps.length ∧ iv = .int .i64 (k : Int) ∧ ov = .int .i64 (lsumTo t ps k) ∧ Hid (Below w4.heap.size w4 wr)) (fun _ iv _ => ps.length - (intOf iv).toNat)
    case atStart => exact ⟨0, by omega, rfl, rfl, Lib.hid (Below.refl _ _)⟩
    case round =>
      obtain ⟨k, hk, rfl, rfl, BW⟩ := hrel
      by_cases hlt : k < ps.length
      rotate_left
      · obtain rfl : k = ps.length := by omega
        have F := Lib.hid (show leastUn (N : Int) ls = lsumTo t ps ps.length by rw [LS.out]; unfold lsumTo; rw [List.take_length])
        go_wp2
        go_ret
        exact ⟨by rw [F.out]; rfl, B4.out.trans (BW.out.mono B4.out.size)⟩
      have hk0 : (0 : Int) ≤ (k : Int) := by omega
      have hk1 : (k : Int) < (ps.length : Int) := by omega
      have sk := SM.out k hk
      obtain ⟨a, d, hz, ha, hd⟩ := PB.out k hlt
      have MO := lsumTo_more t hlt
      rw [hz] at MO
      have EA : pa [(a : Int), (d : Int)] = a := by simp [pa, atI]
      have EB : pb [(a : Int), (d : Int)] = d := by simp [pb, atI]
      rw [EA, EB] at MO
      have se := SE.out a d ha hd
      have x0 := ((A4.out.below BW.out).spot (k := a * 7 + d) (by omega)).1
      rw [EN.out a d ha hd] at x0
      obtain ⟨gp, cP, A2, c2, f2, p0, _, pr⟩ := (O4.out.below BW.out).spot hlt
      simp only [Value.slice.injEq] at f2
      obtain ⟨rfl, -, rfl⟩ := f2
      rw [hz] at p0 pr
      obtain ⟨gq, cq, f2, _, _, q0, _⟩ := pr.spot (k := 0) (by simp)
      simp only [Value.slice.injEq] at f2
      obtain ⟨rfl, -, rfl⟩ := f2
      obtain ⟨_, _, f2, _, _, q1, _⟩ := pr.spot (k := 1) (by simp)
      simp only [Value.slice.injEq, Option.some.injEq, Addr.mk.injEq] at f2
      obtain ⟨⟨rfl, -⟩, -⟩ := f2
      simp only [List.getElem_cons_zero, List.getElem_cons_succ] at q0 q1
      replace p0 : wr.cell? ⟨gp, k, none⟩ = some (.slice (some ⟨gq, 0, none⟩) 2 c2) := p0
      have ha0 : (0 : Int) ≤ (a : Int) := by omega
      have ha1 : (a : Int) < 7 := by omega
      have hd0 : (0 : Int) ≤ (d : Int) := by omega
      have hd1 : (d : Int) < 7 := by omega
      generalize ent t a d = z at x0 se MO
      generalize lsumTo t ps k = y at sk MO ⊢
      have LK := Lib.hid MO
      have e1 : IntKind.i64.wrap (-z) = -z := IntWalk.i64_in _ (by omega)
      have EM := Lib.hid (show (if z < -z then -z else z) = absI z by unfold absI; split <;> split <;> omega)
      clear pr hz MO EA EB ha hd
      go_wp2_with fail
      go_quiet (fail)
      go_wp2
      exact ⟨⟨k + 1, by omega, by go_num, by rw [LK.out, EM.out], Lib.hid (below_drewN BW.out _)⟩, by simp [intOf]; omega⟩
end Go.Proofs.Ytokgcchcjaimhaa
