/- The contract of spec.CountOrders. Condition: the cues lie in a row of their own. -/
import Derived.Test.YtbgogcobkiaejabCocS
import Derived.Test.YtbgogcobkiaejabCcnM
namespace Go.Proofs.Ytbgogcobkiaejab
set_option linter.unusedVariables false
set_option linter.unusedSimpArgs false
open Go.RowKit

theorem shl_small {n : Nat} (h : n ≤ 10) : 1 <<< n ≤ 1024 ∧ 1 ≤ 1 <<< n := by
  rw [Nat.shiftLeft_eq, Nat.one_mul]
  have h1 : 2 ^ n ≤ 2 ^ 10 := Nat.pow_le_pow_right (by omega) h
  have h2 : 0 < 2 ^ n := Nat.pow_pos (by omega)
  omega

set_option maxRecDepth 100000 in
set_option maxHeartbeats 3200000 in
theorem specCnt (v : Value) (ls : List RCue) (b : Nat) (w : World) (h : OwnCue w b v ls) (hl : bulkCue ls ≤ 1048576) :
    Calls Try.prog 30 #[v] w fun e w' => e = .returned (.int .i64 (countOrders ls)) ∧ Below w.heap.size w w' := by
  obtain ⟨i0, hi0, hz0, hz1, hz2⟩ := info_parts info_int
  have CK := Lib.hid (specCOk v ls b w h hl)
  have CW := Lib.hid (fun hn W h => specWaits v ls b W h hn hl)
  obtain ⟨A, c, rfl⟩ := h.slice
  have O := Lib.hid h
  clear h
  have hbl := bulkCue_len ls
  cases hok : cuesOk ls with
  | false =>
    have R := Lib.hid (show countOrders ls = -1 by unfold countOrders; rw [hok]; simp)
    rw [hok] at CK
    clear hok
    go_enter Try.func30, Try.ntmps30
    go_wp2_with (go_at_call 21; refine CK.out.mono ?_; rintro e w2 ⟨rfl, b2⟩; have B2 := Lib.hid b2; clear b2)
    go_ret
    exact ⟨by rw [R.out]; rfl, B2.out⟩
  | true =>
    have hn := (cuesOk_has hok).1.2
    rw [hok] at CK
    by_cases h10 : ls.length ≤ 10
    rotate_left
    · have R := Lib.hid (show countOrders ls = -1 by unfold countOrders; rw [if_neg (fun x => h10 x.2)])
      have h11 : (10 : Int) < (ls.length : Int) := by omega
      clear hok
      go_enter Try.func30, Try.ntmps30
      go_wp2_with (go_at_call 21; refine CK.out.mono ?_; rintro e w2 ⟨rfl, b2⟩; have B2 := Lib.hid b2; clear b2)
      go_ret
      exact ⟨by rw [R.out]; rfl, B2.out⟩
    have h11 : ¬ (10 : Int) < (ls.length : Int) := by omega
    obtain ⟨N, hN⟩ : ∃ N, N = 1 <<< ls.length := ⟨_, rfl⟩
    have R := Lib.hid (show countOrders ls = (((cntS (waitSet ls) ls.length N).getD (N - 1) 0 : Nat) : Int) by unfold countOrders; rw [if_pos ⟨hok, h10⟩, hN])
    have hNs := shl_small h10
    rw [← hN] at hNs
    have CL := Lib.hid (fun S => (show (cntS (waitSet ls) ls.length S).length = N by rw [cntS_len, hN]))
    have KL := Lib.hid (fun S k => (show (cntK (waitSet ls) S (cntS (waitSet ls) ls.length S) k).length = N by rw [cntK_len, cntS_len, hN]))
    have SM := Lib.hid (fun S (hS : S < N) K (hK : K ≤ ls.length) t (ht : t < N) => (show (cntK (waitSet ls) S (cntS (waitSet ls) ls.length S) K).getD t 0 ≤ 10000000000 from small_max h10 ((cnt_small (waitSet ls) h10 S (by omega)).2 (by omega) K hK) (by omega)))
    have TL := Lib.hid (fun S (hS : S < N) k (hk : k < ls.length) => (show S ||| 1 <<< k < N by rw [hN] at hS ⊢; exact or_lt hS hk))
    have SK := Lib.hid (fun S k => (show cntK (waitSet ls) S (cntS (waitSet ls) ls.length S) (k + 1) = if freeB (waitSet ls) S k = true then (cntK (waitSet ls) S (cntS (waitSet ls) ls.length S) k).set (S ||| 1 <<< k) ((cntK (waitSet ls) S (cntS (waitSet ls) ls.length S) k).getD (S ||| 1 <<< k) 0 + (cntK (waitSet ls) S (cntS (waitSet ls) ls.length S) k).getD S 0) else cntK (waitSet ls) S (cntS (waitSet ls) ls.length S) k from rfl))
    have Z0 := Lib.hid (show cntS (waitSet ls) ls.length 0 = (List.replicate N 0).set 0 1 by rw [cntS, hN])
    have PS := Lib.hid (fun k (hk : k < ls.length) => (show (waitSet ls).getD k 0 < 4096 by have := close_lt ls (m := ls.length) (Nat.le_refl _) hk; have := pow_small hn; unfold waitSet; omega))
    have WL := Lib.hid (show (natI (waitSet ls)).length = ls.length by rw [natI_len, waitSet_len])
    have WA := Lib.hid (fun k (hk : k < ls.length) => (show (natI (waitSet ls))[k]'(by rw [natI_len, waitSet_len]; exact hk) = (((waitSet ls).getD k 0 : Nat) : Int) from natI_at _ (by rw [waitSet_len]; exact hk)))
    have esh := shl_nat64 ls.length (by omega)
    rw [← hN] at esh
    have esm : wrap64 (2 ^ min ls.length 64) = (N : Int) := by rw [Nat.min_eq_left (by omega)]; exact esh
    clear hok hN
    go_enter Try.func30, Try.ntmps30
    go_wp2_with (go_at_call 21; refine CK.out.mono ?_; rintro e w1 ⟨rfl, b1⟩; have B1 := Lib.hid b1; have O1 := Lib.hid (O.out.below b1); clear b1)
    refine (CW.out hn _ O1.out).mono ?_
    rintro e w2 ⟨vw, rfl, o2, b2⟩
    obtain ⟨W, cw, ew⟩ := o2.slice
    rw [WL.out] at ew
    subst ew
    have W2 := Lib.hid o2
    have B2 := Lib.hid (B1.out.trans (b2.mono B1.out.size))
    clear o2 b2 B1 O1 CW CK
    go_wp2_with (
      refine wpList_make_full _ rfl _ _ 26 rfl w2.heap.size 3 i0 (.int .i64 0) 1 Try.underlying26 hi0 hz0 hz1 .i64 .i64 _ _ N rfl rfl (by first | exact esh | exact esm) (by first | exact esh | exact esm) (by rw [hz2]; omega) (by simp only [maxLen]; omega) (by simp) ?_
      intro w3 own3 grown3
      have O3 := Lib.hid (madeZero own3)
      have B3 := Lib.hid (B2.out.trans ((below_of_grown grown3).mono B2.out.size))
      have SEP := Lib.hid (fun q hq => (W2.out.lt q hq).2)
      have W3 := Lib.hid (W2.out.kept grown3 (by cases (Value.slice W ls.length cw).ownBlock <;> simp))
      have hbs := B2.out.size
      have hb3 := B3.out.size
      clear own3 grown3 W2 B2
      obtain ⟨_, _, f1, -, -, p0, pf⟩ := O3.out.spot (k := 0) (by rw [List.length_replicate]; omega)
      simp only [Value.slice.injEq, Option.some.injEq, Addr.mk.injEq] at f1
      obtain ⟨⟨rfl, _⟩, -, -⟩ := f1
      rw [List.getElem_replicate] at p0
      have hz1 : (0 : Int) < (N : Int) := by omega
      have SS := Lib.hid (O3.out.set (by rw [List.length_replicate]) 0 1)
      have O4 := Lib.hid (show OwnI (w3.setCell ⟨w2.heap.size, 0, none⟩ (.int .i64 1)) w2.heap.size (.slice (some ⟨w2.heap.size, 0, none⟩) N N) (natI (cntS (waitSet ls) ls.length 0)) by
        rw [Z0.out, ← natI_set]
        have e : natI (List.replicate N 0) = List.replicate N (0 : Int) := by simp [natI]
        rw [e]
        exact SS.out.1)
      have B4 := Lib.hid (B3.out.grown SS.out.2 hb3 (fun q hq => by have := Option.some.inj hq; omega))
      have W4 := Lib.hid (W3.out.kept SS.out.2 (sep_of fun q e1 e2 => by have := SEP.out q e1; have := Option.some.inj e2; omega))
      clear SS O3 B3 W3 Z0)
    go_loopw [6] (fun sv wr => ∃ S : Nat, S ≤ N ∧ sv = .int .i64 (S : Int) ∧ Hid (OwnI wr w2.heap.size (.slice (some ⟨w2.heap.size, 0, none⟩) N N) (natI (cntS (waitSet ls) ls.length S))) ∧ Hid (OwnI wr w1.heap.size (.slice W ls.length cw) (natI (waitSet ls))) ∧ Hid (Below w.heap.size w wr)) (fun sv _ => N - (intOf sv).toNat)
    case atStart => exact ⟨0, by omega, rfl, O4, W4, B4⟩
    case round =>
      clear O4 W4 B4
      obtain ⟨S, hS, rfl, OO, OW, BW⟩ := hrel
      by_cases hlt : S < N
      rotate_left
      · obtain rfl : S = N := by omega
        have hm0 : S - 1 < S := by omega
        have hl : (natI (cntS (waitSet ls) ls.length S)).length = S := by rw [natI_len, CL.out]
        obtain ⟨_, _, f1, -, -, p0, -⟩ := OO.out.spot (k := S - 1) (by rw [hl]; exact hm0)
        simp only [Value.slice.injEq, Option.some.injEq, Addr.mk.injEq] at f1
        obtain ⟨⟨rfl, _⟩, -, -⟩ := f1
        rw [natI_at _ (by rw [CL.out]; exact hm0)] at p0
        have en : IntKind.i64.wrap ((S : Int) - 1) = ((S - 1 : Nat) : Int) := by
          rw [IntWalk.i64_in _ (by omega)]
          omega
        clear hl hlt hS
        have hm2 : ((S - 1 : Nat) : Int) < (S : Int) := by omega
        have F := Lib.hid R.out
        clear R CL KL SM TL SK PS WL WA OO OW
        generalize (cntS (waitSet ls) ls.length S).getD (S - 1) 0 = x at p0 F
        generalize hM : S - 1 = M at p0 en hm0 hm2
        go_wp2
        go_ret
        exact ⟨by rw [F.out]; rfl, BW.out⟩
      have hS1 : (S : Int) < (N : Int) := by omega
      have O5 := Lib.hid (show OwnI wr w2.heap.size (.slice (some ⟨w2.heap.size, 0, none⟩) N N) (natI (cntK (waitSet ls) S (cntS (waitSet ls) ls.length S) 0)) from OO.out)
      go_wp2_with fail
      clear OO
      go_loopw [7] (fun kv wr => ∃ k : Nat, k ≤ ls.length ∧ kv = .int .i64 (k : Int) ∧ Hid (OwnI wr w2.heap.size (.slice (some ⟨w2.heap.size, 0, none⟩) N N) (natI (cntK (waitSet ls) S (cntS (waitSet ls) ls.length S) k))) ∧ Hid (OwnI wr w1.heap.size (.slice W ls.length cw) (natI (waitSet ls))) ∧ Hid (Below w.heap.size w wr)) (fun kv _ => ls.length - (intOf kv).toNat)
      case atStart => exact ⟨0, by omega, rfl, O5, OW, BW⟩
      case round =>
        clear O5 OW BW
        obtain ⟨k, hk, rfl, OO, OW, BW⟩ := hrel
        by_cases hlk : k < ls.length
        rotate_left
        · obtain rfl : k = ls.length := by omega
          go_wp2
          exact ⟨⟨S + 1, by omega, by go_num, OO, OW, BW⟩, by simp [intOf]; omega⟩
        have hk0 : (0 : Int) ≤ (k : Int) := by omega
        have hk1 : (k : Int) < (ls.length : Int) := by omega
        obtain ⟨gw, _, f1, -, -, z0, -⟩ := OW.out.spot (k := k) (by rw [WL.out]; exact hlk)
        simp only [Value.slice.injEq] at f1
        obtain ⟨rfl, -, -⟩ := f1
        rw [WA.out k hlk] at z0
        have hs := PS.out k hlk
        have ebit := bit_nat2 S k (by omega) (by omega)
        have eor := or_nat (s := (waitSet ls).getD k 0) (t := S) (by omega) (by omega)
        have NK := SK.out S k
        have FB := Lib.hid (show freeB (waitSet ls) S k = (!S.testBit k && decide ((waitSet ls).getD k 0 ||| S = S)) from rfl)
        generalize (waitSet ls).getD k 0 = s at z0 eor FB hs
        by_cases cb : S.testBit k = true
        · rw [if_pos cb] at ebit
          have N2 := Lib.hid (show cntK (waitSet ls) S (cntS (waitSet ls) ls.length S) (k + 1) = cntK (waitSet ls) S (cntS (waitSet ls) ls.length S) k by rw [NK, FB.out, cb, if_neg (by simp)])
          clear NK FB cb eor
          go_wp2
          exact ⟨⟨k + 1, by omega, by go_num, Lib.hid (by rw [N2.out]; exact OO.out), OW, BW⟩, by simp [intOf]; omega⟩
        · rw [if_neg cb] at ebit
          have cb : S.testBit k = false := by simpa using cb
          by_cases hq : s ||| S = S
          rotate_left
          · have N2 := Lib.hid (show cntK (waitSet ls) S (cntS (waitSet ls) ls.length S) (k + 1) = cntK (waitSet ls) S (cntS (waitSet ls) ls.length S) k by rw [NK, FB.out, cb, decide_eq_false hq, if_neg (by simp)])
            have hqb : (((s ||| S : Nat) : Int) == (S : Int)) = false := by simp; omega
            generalize s ||| S = st at eor hqb
            clear NK FB cb hq
            go_wp2
            exact ⟨⟨k + 1, by omega, by go_num, Lib.hid (by rw [N2.out]; exact OO.out), OW, BW⟩, by simp [intOf]; omega⟩
          · have N2 := Lib.hid (show cntK (waitSet ls) S (cntS (waitSet ls) ls.length S) (k + 1) = (cntK (waitSet ls) S (cntS (waitSet ls) ls.length S) k).set (S ||| 1 <<< k) ((cntK (waitSet ls) S (cntS (waitSet ls) ls.length S) k).getD (S ||| 1 <<< k) 0 + (cntK (waitSet ls) S (cntS (waitSet ls) ls.length S) k).getD S 0) by rw [NK, FB.out, cb, decide_eq_true hq, if_pos (by rfl)])
            rw [hq] at eor
            have hT := TL.out S hlt k hlk
            have hx := SM.out S hlt k hk _ hT
            have hy := SM.out S hlt k hk _ hlt
            have hl := KL.out S k
            have esk := shl_nat64 k (by omega)
            have esn : wrap64 (2 ^ min k 64) = ((1 <<< k : Nat) : Int) := by rw [Nat.min_eq_left (by omega)]; exact esk
            have esi : IntKind.i64.wrap (2 ^ k) = ((1 <<< k : Nat) : Int) := by
              have h := shl_nat k (by omega)
              rwa [Nat.min_eq_left (by omega)] at h
            have h1q : 1 <<< k < 2 ^ 62 := by
              clear esh esm esk esn esi
              have q := (shl_small (n := k) (by omega)).1
              generalize 1 <<< k = t at q ⊢
              omega
            have eos := or_nat (s := S) (t := 1 <<< k) (by omega) h1q
            clear NK FB cb hq h1q
            generalize 1 <<< k = t at esk esn esi eos N2 hT hx
            generalize S ||| t = T at eos N2 hT hx
            have hT1 : (T : Int) < (N : Int) := by omega
            obtain ⟨_, _, f1, -, -, p0, pf⟩ := OO.out.spot (k := T) (by rw [natI_len, hl]; exact hT)
            simp only [Value.slice.injEq, Option.some.injEq, Addr.mk.injEq] at f1
            obtain ⟨⟨rfl, _⟩, -, -⟩ := f1
            rw [natI_at _ (by rw [hl]; exact hT)] at p0
            obtain ⟨_, _, f1, -, -, q0, -⟩ := OO.out.spot (k := S) (by rw [natI_len, hl]; exact hlt)
            simp only [Value.slice.injEq, Option.some.injEq, Addr.mk.injEq] at f1
            obtain ⟨⟨rfl, _⟩, -, -⟩ := f1
            rw [natI_at _ (by rw [hl]; exact hlt)] at q0
            have SET := OO.out.set (k := T) (by rw [natI_len, hl]) (((cntK (waitSet ls) S (cntS (waitSet ls) ls.length S) k).getD T 0 + (cntK (waitSet ls) S (cntS (waitSet ls) ls.length S) k).getD S 0 : Nat) : Int)
            rw [natI_set, ← N2.out] at SET
            have SS := Lib.hid SET
            have hbs2 := BW.out.size
            have B2 := Lib.hid (BW.out.grown SS.out.2 hbs2 (fun q hq => by have := Option.some.inj hq; omega))
            have W2 := Lib.hid (OW.out.kept SS.out.2 (sep_of fun q e1 e2 => by have := SEP.out q e1; have := Option.some.inj e2; omega))
            have S2 := Lib.hid SS.out.1
            clear SET SS N2 OO OW hl
            generalize (cntK (waitSet ls) S (cntS (waitSet ls) ls.length S) k).getD T 0 = x at p0 hx B2 W2 S2
            generalize (cntK (waitSet ls) S (cntS (waitSet ls) ls.length S) k).getD S 0 = y at q0 hy B2 W2 S2
            have ew : IntKind.i64.wrap ((x : Int) + (y : Int)) = ((x + y : Nat) : Int) := by
              rw [IntWalk.i64_in _ (by omega)]
              omega
            generalize x + y = xy at ew B2 W2 S2
            clear esh esm
            go_wp2_with fail
            go_still_tail 18, (by kernel_rfl)
            go_wp2
            exact ⟨⟨k + 1, by omega, by go_num, Lib.hid (S2.out.below (Below.refl _ _).drew), Lib.hid (W2.out.below (Below.refl _ _).drew), Lib.hid B2.out.drew⟩, by simp [intOf]; omega⟩
end Go.Proofs.Ytbgogcobkiaejab
