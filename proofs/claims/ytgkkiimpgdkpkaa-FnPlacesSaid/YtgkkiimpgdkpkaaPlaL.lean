/- The law FnPlaces, walked over the contracts of the program's functions. No condition. -/
import Derived.Test.YtgkkiimpgdkpkaaDrO
import Derived.Test.YtgkkiimpgdkpkaaAftS
import Derived.Test.YtgkkiimpgdkpkaaOrdI
import Derived.Test.YtgkkiimpgdkpkaaSameN
import Derived.BigQuiet
import Derived.Deep.RegionHeld3
namespace Go.Proofs.Ytgkkiimpgdkpkaa
set_option linter.unusedVariables false
set_option linter.unusedSimpArgs false
open Go.RowKit

theorem place_at {zs : List Int} (h : IsOrd zs) {k : Nat} (hk : k < zs.length) : ∃ p : Nat, p < zs.length ∧ atI zs p = (k : Int) ∧ placeOf zs (k : Int) = (p : Int) := by
  obtain ⟨p, h1, h2, h3⟩ := place_found (ord_has h hk)
  exact ⟨p, h1, h2, by unfold placeOf; rw [if_pos (order_iff.2 h), h3]⟩
theorem place_sorted {zs : List Int} (h : IsOrd zs) (h0 : invs zs = 0) {k : Nat} (hk : k < zs.length) : placeOf zs (k : Int) = (k : Int) := by
  obtain ⟨p, h1, h2, h3⟩ := place_at h hk
  rw [h3]
  have := sorted_id h h0 p h1
  omega
theorem places_sort {zs : List Int} (h : IsOrd zs) : (sortSwaps zs).length = invs zs ∧ ∃ r, afterSwaps zs (sortSwaps zs) = (r, true) ∧ IsOrd r ∧ invs r = 0 ∧ r.length = zs.length := by
  have e : sortSwaps zs = sortS (invs zs) zs := by unfold sortSwaps; rw [if_pos (order_iff.2 h)]
  obtain ⟨r, r1, r2, r3, r4, _⟩ := sort_done _ zs h rfl
  have hl := sortS_len (invs zs) zs
  have := invs_le h
  refine ⟨by rw [e, hl], r, ?_, r2, r3, r4⟩
  unfold afterSwaps
  rw [e, if_pos ⟨order_iff.2 h, by omega⟩, r1]
theorem swap_twice {zs : List Int} (h : IsOrd zs) {k : Nat} (hk : k + 1 < zs.length) : swapR (swapL zs k) (k : Int) = (zs, true) := by
  rw [swapR_yes (swap_ord h hk) (by rw [swap_len]; exact hk), swap_back hk]
theorem swap_last (zs : List Int) : swapR zs ((zs.length : Int) - 1) = (zs, false) := swapR_no (.inr (inB_no (by omega)))

/- HYPOTHESES -/
set_option maxRecDepth 100000 in
set_option maxHeartbeats 3200000 in
theorem FnPlaces_walk (a : Option Addr) (n cap : Nat) (z : List Int) (w : World) (hr : IsRow .u8 w a n cap z) :
    Calls Try.prog 3 #[.slice a n cap] w fun e w' => e = .returned (.bool true) ∧ Below w.heap.size w w' := by
  have hm := row_len hr
  by_cases hn : 1048576 < n
  · clear hr
    go_enter Try.func3, Try.ntmps3
    go_wp2_with fail
    refine (big_yes a n cap w hn hm).mono ?_
    rintro e w' ⟨rfl, rfl⟩
    go_wp2
    go_ret
    exact ⟨rfl, Below.refl _ _⟩
  have CD := Lib.hid (drawOrder_any a n cap z w hr (by omega))
  clear hr
  go_enter Try.func3, Try.ntmps3
  go_wp2_with fail
  refine (big_no a n cap w (by omega)).mono ?_
  rintro e w' ⟨rfl, rfl⟩
  go_wp2_with fail
  refine CD.out.mono ?_
  rintro e w1 ⟨vo, zs, rfl, o1, HO, b1⟩
  obtain ⟨O, co, rfl⟩ := o1.slice
  have O1 := Lib.hid o1
  have B1 := Lib.hid b1
  have HI := Lib.hid HO
  obtain ⟨hsl, r, hra, hro, hri, hrl⟩ := places_sort HO
  have hl7 := HO.len
  have hok := order_iff.2 HO
  clear o1 b1 CD
  have C1 := Lib.hid (fun v b W h => implInv v zs b W h (by omega))
  have C2 := Lib.hid (fun v b W h => implSort v zs b W h (by omega))
  have C3 := Lib.hid (fun v1 v2 b1 b2 W h1 h2 => hra ▸ implAfter v1 v2 zs (sortSwaps zs) b1 b2 W h1 h2 (by omega) (by have := sortSwaps_len zs; omega))
  have C4 := Lib.hid (fun v b W h => implInv v r b W h (by omega))
  rw [if_pos hok] at C1
  rw [if_pos (order_iff.2 hro), hri] at C4
  have P1 := Lib.hid (fun k (hk : k < zs.length) => place_at HO hk)
  have P2 := Lib.hid (fun k (hk : k < zs.length) => place_sorted hro hri (k := k) (by omega))
  have CP1 := Lib.hid (fun v (k : Nat) b W h => implPlace v zs (k : Int) b W h (by omega))
  have CP2 := Lib.hid (fun v (k : Nat) b W h => implPlace v r (k : Int) b W h (by omega))
  have CW1 := Lib.hid (fun v (k : Nat) (hk : k + 1 < zs.length) b W h => swapR_yes HO hk ▸ implSwap v zs (k : Int) b W h (by omega))
  have CW2 := Lib.hid (fun v (k : Nat) (hk : k + 1 < zs.length) b W h => swap_twice HO hk ▸ implSwap v (swapL zs k) (k : Int) b W h (by rw [swap_len]; omega))
  have CW3 := Lib.hid (fun v b W h => swap_last zs ▸ implSwap v zs ((zs.length : Int) - 1) b W h (by omega))
  have CI := Lib.hid (fun v (k : Nat) (hk : k + 1 < zs.length) b W h => if_pos (order_iff.2 (swap_ord HO hk)) ▸ implInv v (swapL zs k) b W h (by rw [swap_len]; omega))
  have CO := Lib.hid (fun v b W h => hok ▸ implOrder v zs b W h (by omega))
  have CN := Lib.hid (fun v1 v2 b1 b2 W h1 h2 => sameInts_same v1 v2 zs b1 b2 W h1 h2 (by omega))
  have SI := Lib.hid (fun k (hk : k + 1 < zs.length) => swap_inv hk)
  have NE := Lib.hid (fun k (hk : k + 1 < zs.length) => (ord_at HO).2 k (k + 1) (by omega) hk (by omega))
  have iz49 := invs_le HO
  have INV2 := Lib.hid (fun k (hk : k + 1 < zs.length) => invs_le (swap_ord HO hk))
  generalize hss : sortSwaps zs = ss at C2 C3 hsl
  generalize hiz : (invs zs : Int) = iz at C1 SI
  have hne : ((ss.length : Int) != iz) = false := by rw [hsl, hiz]; simp
  have hizr : 0 ≤ iz ∧ iz ≤ 49 := by omega
  have HRL := Lib.hid hrl
  clear hss hiz hsl HO hra hro hri hrl hok iz49
  go_wp2_with fail
  refine (C1.out _ _ _ O1.out).mono ?_
  rintro e w2 ⟨rfl, b2⟩
  have O2 := Lib.hid (O1.out.below b2)
  have B2 := Lib.hid (B1.out.trans (b2.mono B1.out.size))
  clear b2 O1 B1 C1
  go_wp2_with fail
  refine (C2.out _ _ _ O2.out).mono ?_
  rintro e w3 ⟨vs, rfl, s3, b3⟩
  obtain ⟨S, cs, rfl⟩ := s3.slice
  have S3 := Lib.hid s3
  have O3 := Lib.hid (O2.out.below b3)
  have B3 := Lib.hid (B2.out.trans (b3.mono B2.out.size))
  clear b3 s3 O2 B2 C2
  go_wp2_with fail
  refine (C3.out _ _ _ _ _ O3.out S3.out).mono ?_
  rintro e w4 ⟨vx, rfl, x4, b4⟩
  obtain ⟨X, cx, rfl⟩ := x4.slice
  have X4 := Lib.hid x4
  have O4 := Lib.hid (O3.out.below b4)
  have B4 := Lib.hid (B3.out.trans (b4.mono B3.out.size))
  clear b4 x4 O3 B3 C3 S3
  go_wp2_with fail
  refine (C4.out _ _ _ X4.out).mono ?_
  rintro e w5 ⟨rfl, b5⟩
  have O5 := Lib.hid (O4.out.below b5)
  have X5 := Lib.hid (X4.out.below b5)
  have B5 := Lib.hid (B4.out.trans (b5.mono B4.out.size))
  clear b5 O4 X4 B4 C4
  have KF := Lib.hid (show ∀ W, Below w5.heap.size w5 W → OwnI W w.heap.size (.slice O zs.length co) zs ∧ OwnI W w3.heap.size (.slice X r.length cx) r ∧ Below w.heap.size w W from fun W hb => ⟨O5.out.below hb, X5.out.below hb, B5.out.trans (hb.mono B5.out.size)⟩)
  clear O5 X5 B5
  go_wp2_with fail
  go_loopw [8] (fun iv wr => ∃ k : Nat, k ≤ zs.length ∧ iv = .int .i64 (k : Int) ∧ Hid (Below w5.heap.size w5 wr)) (fun iv _ => zs.length - (intOf iv).toNat)
  case atStart => exact ⟨0, by omega, rfl, Lib.hid (Below.refl _ _)⟩
  case round =>
    obtain ⟨k, hk, rfl, BW⟩ := hrel
    by_cases hlt : k < zs.length
    · obtain ⟨p, hp, hat, hpl⟩ := P1.out k hlt
      have hk0 : (0 : Int) ≤ (k : Int) := by omega
      have hk1 : (k : Int) < (zs.length : Int) := by omega
      have hp0 : (0 : Int) ≤ (p : Int) := by omega
      have hp1 : (p : Int) < (zs.length : Int) := by omega
      have C6 := Lib.hid (hpl ▸ CP1.out _ k _ _ (KF.out _ BW.out).1)
      have C7 := Lib.hid (fun W hb => P2.out k hlt ▸ CP2.out _ k _ W (KF.out W hb).2.1)
      rw [atI_of hp] at hat
      clear hpl
      go_wp2_with fail
      refine C6.out.mono ?_
      rintro e w6 ⟨rfl, b6⟩
      have B6 := Lib.hid (BW.out.trans (b6.mono BW.out.size))
      clear b6 C6
      obtain ⟨g, _, f1, _, _, z0, _⟩ := (KF.out _ B6.out).1.spot hp
      simp only [Value.slice.injEq] at f1
      obtain ⟨rfl, em, rfl⟩ := f1
      clear em
      rw [hat] at z0
      clear hat
      go_wp2_with fail
      refine (C7.out _ B6.out).mono ?_
      rintro e w7 ⟨rfl, b7⟩
      have B7 := Lib.hid (B6.out.trans (b7.mono B6.out.size))
      clear b7 C7
      go_wp2
      exact ⟨⟨k + 1, by omega, by go_num, B7⟩, by simp [intOf]; omega⟩
    · obtain rfl : k = zs.length := by omega
      clear P1 P2 CP1 CP2 hk hlt
      go_wp2_with fail
      go_loopw [10] (fun iv wr => ∃ k : Nat, k < zs.length ∧ iv = .int .i64 (k : Int) ∧ Hid (Below w5.heap.size w5 wr)) (fun iv _ => zs.length - (intOf iv).toNat)
      case atStart => exact ⟨0, by omega, rfl, BW⟩
      case round =>
        clear BW
        obtain ⟨k, hk, rfl, BW⟩ := hrel
        have e1 : IntKind.i64.wrap ((k : Int) + 1) = (k : Int) + 1 := IntWalk.i64_in _ (by omega)
        by_cases hlt : k + 1 < zs.length
        · have hk0 : (0 : Int) ≤ (k : Int) := by omega
          have hk1 : (k : Int) < (zs.length : Int) := by omega
          have hk2 : (0 : Int) ≤ (k : Int) + 1 := by omega
          have hk3 : (k : Int) + 1 < (zs.length : Int) := by omega
          have C6 := Lib.hid (CW1.out _ k hlt _ _ (KF.out _ BW.out).1)
          have C7 := Lib.hid (fun v b W h => CW2.out v k hlt b W h)
          have C8 := Lib.hid (fun v b W h => CI.out v k hlt b W h)
          have si := SI.out k hlt
          have ne := NE.out k hlt
          have i2 := INV2.out k hlt
          have hsl := swap_len zs k
          generalize hiy : (invs (swapL zs k) : Int) = iy at si C8
          have hiyr : 0 ≤ iy ∧ iy ≤ 49 := by omega
          clear hiy i2
          generalize swapL zs k = ys at C6 C7 C8 hsl
          have HSL := Lib.hid hsl
          clear hsl
          rw [atI_of (show k < zs.length by omega), atI_of hlt] at si ne
          go_wp2_with fail
          refine C6.out.mono ?_
          rintro e w6 ⟨vy, rfl, y6, b6⟩
          obtain ⟨Y, cy, rfl⟩ := y6.slice
          have Y6 := Lib.hid y6
          have B6 := Lib.hid (BW.out.trans (b6.mono BW.out.size))
          clear b6 C6 y6
          go_wp2_with fail
          refine (C7.out _ _ _ Y6.out).mono ?_
          rintro e w7 ⟨vz, rfl, z7, b7⟩
          obtain ⟨Z, cz, rfl⟩ := z7.slice
          have Z7 := Lib.hid z7
          have Y7 := Lib.hid (Y6.out.below b7)
          have B7 := Lib.hid (B6.out.trans (b7.mono B6.out.size))
          clear b7 C7 z7 Y6
          obtain ⟨g, _, f1, _, _, z0, _⟩ := (KF.out _ B7.out).1.spot (show k < zs.length by omega)
          simp only [Value.slice.injEq] at f1
          obtain ⟨rfl, em, rfl⟩ := f1
          clear em
          obtain ⟨_, _, f1, _, _, z1, _⟩ := (KF.out _ B7.out).1.spot hlt
          simp only [Value.slice.injEq, Option.some.injEq, Addr.mk.injEq] at f1
          obtain ⟨⟨rfl, -⟩, -⟩ := f1
          generalize zs[k] = x at z0 si ne
          generalize zs[k + 1] = y at z1 si ne
          have X0 := Lib.hid (And.intro z0 z1)
          have KG := Lib.hid (show ∀ W, Below w7.heap.size w7 W → (W.cell? ⟨g, k, none⟩ = some (.int .i64 x) ∧ W.cell? ⟨g, k + 1, none⟩ = some (.int .i64 y)) ∧ OwnI W w.heap.size (.slice (some ⟨g, 0, none⟩) zs.length co) zs ∧ OwnI W _ (.slice Y ys.length cy) ys ∧ OwnI W _ (.slice Z zs.length cz) zs ∧ Below w5.heap.size w5 W from
            fun W hb => ⟨⟨cell_below X0.out.1 hb, cell_below X0.out.2 hb⟩, (KF.out W (B7.out.trans (hb.mono B7.out.size))).1, Y7.out.below hb, Z7.out.below hb, B7.out.trans (hb.mono B7.out.size)⟩)
          clear Y7 Z7
          by_cases hxy : y < x
          · have dx : decide (y < x) = true := decide_eq_true hxy
            rw [if_neg (by omega), if_pos hxy] at si
            have e2 : IntKind.i64.wrap (iy - iz) = -1 := by rw [IntWalk.i64_in _ (by omega)]; omega
            clear si ne hxy
            go_wp2_with fail
            go_region_held3 (fun W => W.cell? ⟨g, k, none⟩ = some (.int .i64 x) ∧ W.cell? ⟨g, k + 1, none⟩ = some (.int .i64 y))
              (first | exact X0.out | exact F8.out.1 | exact F9.out.1)
              (first | (go_at_call 17; (refine (CN.out _ _ _ _ _ (KG.out _ (Below.refl _ _).drew).2.2.2.1 (KG.out _ (Below.refl _ _).drew).2.1).mono ?_); rintro e w8 ⟨rfl, b8⟩; replace b8 := undrew b8; have F8 := Lib.hid (KG.out _ b8); have B8 := Lib.hid b8; clear b8) | (go_at_call 12; (refine (C8.out _ _ _ F8.out.2.2.1).mono ?_); rintro e w9 ⟨rfl, b9⟩; have F9 := Lib.hid (KG.out _ (B8.out.trans (b9.mono B8.out.size))); clear b9) | (go_at_call 18; refine (btoi_any _ _).mono ?_; rintro e w' ⟨rfl, rfl⟩))
            go_wp2
            exact ⟨⟨k + 1, by omega, by go_num, Lib.hid F9.out.2.2.2.2⟩, by simp [intOf]; omega⟩
          · have dx : decide (y < x) = false := decide_eq_false hxy
            rw [if_pos (by omega), if_neg hxy] at si
            have e2 : IntKind.i64.wrap (iy - iz) = 1 := by rw [IntWalk.i64_in _ (by omega)]; omega
            clear si ne hxy
            go_wp2_with fail
            go_region_held3 (fun W => W.cell? ⟨g, k, none⟩ = some (.int .i64 x) ∧ W.cell? ⟨g, k + 1, none⟩ = some (.int .i64 y))
              (first | exact X0.out | exact F8.out.1 | exact F9.out.1)
              (first | (go_at_call 17; (refine (CN.out _ _ _ _ _ (KG.out _ (Below.refl _ _).drew).2.2.2.1 (KG.out _ (Below.refl _ _).drew).2.1).mono ?_); rintro e w8 ⟨rfl, b8⟩; replace b8 := undrew b8; have F8 := Lib.hid (KG.out _ b8); have B8 := Lib.hid b8; clear b8) | (go_at_call 12; (refine (C8.out _ _ _ F8.out.2.2.1).mono ?_); rintro e w9 ⟨rfl, b9⟩; have F9 := Lib.hid (KG.out _ (B8.out.trans (b9.mono B8.out.size))); clear b9) | (go_at_call 18; refine (btoi_any _ _).mono ?_; rintro e w' ⟨rfl, rfl⟩))
            go_wp2
            exact ⟨⟨k + 1, by omega, by go_num, Lib.hid F9.out.2.2.2.2⟩, by simp [intOf]; omega⟩
        · have hk3 : ¬ (k : Int) + 1 < (zs.length : Int) := by omega
          have e2 : IntKind.i64.wrap ((zs.length : Int) - 1) = (zs.length : Int) - 1 := IntWalk.i64_in _ (by omega)
          go_wp2_with fail
          refine (CW3.out _ _ _ (KF.out _ BW.out).1).mono ?_
          rintro e w6 ⟨vn, rfl, -, b6⟩
          have B6 := Lib.hid (BW.out.trans (b6.mono BW.out.size))
          clear b6
          go_wp2_with fail
          refine (CO.out _ _ _ (KF.out _ B6.out).1).mono ?_
          rintro e w7 ⟨rfl, b7⟩
          have B7 := Lib.hid ((KF.out _ B6.out).2.2.trans (b7.mono (KF.out _ B6.out).2.2.size))
          clear b7
          go_wp2
          go_ret
          exact ⟨rfl, B7.out⟩
end Go.Proofs.Ytgkkiimpgdkpkaa
