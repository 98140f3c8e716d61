/- The contract of the program's CountOrders. Condition: the cues lie in a row of their own. -/
import Derived.Test.YtbgogcobkiaejabPosF
import Derived.Test.YtbgogcobkiaejabCirW
import Derived.Test.YtbgogcobkiaejabCcnS
import Derived.Deep.RegionLaw
import Derived.RegionTactic
import Derived.BigRegion
namespace Go.Proofs.Ytbgogcobkiaejab
set_option linter.unusedVariables false
set_option linter.unusedSimpArgs false
open Go.RowKit

theorem conv_u64 (s : Nat) (h : s < 2 ^ 62) : IntKind.u64.wrap (s : Int) = (s : Int) := by
  rw [IntKind.wrap_u64]
  omega

set_option maxRecDepth 100000 in
set_option maxHeartbeats 3200000 in
theorem implCnt (v : Value) (ls : List RCue) (b : Nat) (w : World) (h : OwnCue w b v ls) (hl : bulkCue ls ≤ 1048576) :
    Calls Try.prog 18 #[v] w fun e w' => e = .returned (.int .i64 (countOrders ls)) ∧ Below w.heap.size w w' := by
  obtain ⟨i0, hi0, hz0, hz1, hz2⟩ := info_parts info_int
  have CK := Lib.hid (implCOk v ls b w h hl)
  have CP := Lib.hid (fun hok W h D hD => implPos v ls b W h hl hok D hD)
  obtain ⟨A, c, rfl⟩ := h.slice
  have O := Lib.hid h
  clear h
  have hbl := bulkCue_len ls
  cases hok : cuesOk ls with
  | false =>
    have R := Lib.hid (show countOrders ls = -1 by unfold countOrders; rw [hok]; simp)
    rw [hok] at CK
    clear hok
    go_enter Try.func18, Try.ntmps18
    go_wp2_with (go_at_call 13; refine CK.out.mono ?_; rintro e w2 ⟨rfl, b2⟩; have B2 := Lib.hid b2; clear b2)
    go_ret
    exact ⟨by rw [R.out]; rfl, B2.out⟩
  | true =>
    have hn := (cuesOk_has hok).1.2
    rw [hok] at CK
    by_cases h10 : ls.length ≤ 10
    rotate_left
    · have R := Lib.hid (show countOrders ls = -1 by unfold countOrders; rw [if_neg (fun x => h10 x.2)])
      have h11 : (10 : Int) < (ls.length : Int) := by omega
      clear hok
      go_enter Try.func18, Try.ntmps18
      go_wp2_with (go_at_call 13; refine CK.out.mono ?_; rintro e w2 ⟨rfl, b2⟩; have B2 := Lib.hid b2; clear b2)
      go_ret
      exact ⟨by rw [R.out]; rfl, B2.out⟩
    have h11 : ¬ (10 : Int) < (ls.length : Int) := by omega
    obtain ⟨N, hN⟩ : ∃ N, N = 1 <<< ls.length := ⟨_, rfl⟩
    have R := Lib.hid (show countOrders ls = (((cntS (waitSet ls) ls.length N).getD (N - 1) 0 : Nat) : Int) by unfold countOrders; rw [if_pos ⟨hok, h10⟩, hN])
    have hNs := shl_small h10
    rw [← hN] at hNs
    have CL := Lib.hid (fun S => (show (cntS (waitSet ls) ls.length S).length = N by rw [cntS_len, hN]))
    have CP := Lib.hid (fun W h D hD => CP.out hok W h D hD)
    -- the table behind q steps of round S
    obtain ⟨T, hT⟩ : ∃ T : Nat → Nat → List Nat, T = fun S q => progT ls S (cntS (waitSet ls) ls.length S) q := ⟨_, rfl⟩
    have KL := Lib.hid (fun S q (hq : q ≤ (possTo ls S ls.length).length) => (show (T S q).length = N by
      obtain ⟨K, h1, h2⟩ := progT_is hok S q hq
      rw [hT]
      show (progT ls S _ q).length = N
      rw [h2, cntK_len, cntS_len, hN]))
    have SM := Lib.hid (fun S (hS : S < N) q (hq : q ≤ (possTo ls S ls.length).length) t (ht : t < N) => (show (T S q).getD t 0 ≤ 10000000000 by
      obtain ⟨K, h1, h2⟩ := progT_is hok S q hq
      rw [hT]
      show (progT ls S _ q).getD t 0 ≤ _
      rw [h2]
      exact small_max h10 ((cnt_small (waitSet ls) h10 S (by omega)).2 (by omega) K h1) (by omega)))
    have T0 := Lib.hid (fun S => (show T S 0 = cntS (waitSet ls) ls.length S by rw [hT]; rfl))
    have TN := Lib.hid (fun S => (show T S (possTo ls S ls.length).length = cntS (waitSet ls) ls.length (S + 1) by rw [hT]; exact progT_all hok S))
    have TS := Lib.hid (fun S q (hq : q < (possTo ls S ls.length).length) (k : Nat) (e : (possTo ls S ls.length)[q] = (k : Int)) => (show T S (q + 1) = (T S q).set (S ||| 1 <<< k) ((T S q).getD (S ||| 1 <<< k) 0 + (T S q).getD S 0) by
      rw [hT]
      show progT ls S _ (q + 1) = _
      rw [progT_next hq, e, Int.toNat_natCast]
      rfl))
    have TL := Lib.hid (fun S (hS : S < N) k (hk : k < ls.length) => (show S ||| 1 <<< k < N by rw [hN] at hS ⊢; exact or_lt hS hk))
    have Z0 := Lib.hid (show cntS (waitSet ls) ls.length 0 = (List.replicate N 0).set 0 1 by rw [cntS, hN])
    have esh := shl_nat64 ls.length (by omega)
    rw [← hN] at esh
    have esm : wrap64 (2 ^ min ls.length 64) = (N : Int) := by rw [Nat.min_eq_left (by omega)]; exact esh
    clear hok hN hT
    go_enter Try.func18, Try.ntmps18
    have hN0 : (0 : Int) < (N : Int) := by omega
    go_wp2_with (first | (go_at_call 13; refine CK.out.mono ?_; rintro e w1 ⟨rfl, b1⟩; have B1 := Lib.hid b1; clear b1) | (
      at_make
      refine wpList_make_full _ rfl _ _ 26 rfl w1.heap.size 3 i0 (.int .i64 0) 1 Try.underlying26 hi0 hz0 hz1 .i64 .i64 _ _ N rfl rfl (by first | exact esh | exact esm) (by first | exact esh | exact esm) (by rw [hz2]; omega) (by simp only [maxLen]; omega) (by simp) ?_
      intro w3 own3 grown3
      have O3 := Lib.hid (madeZero own3)
      have B3 := Lib.hid (B1.out.trans ((below_of_grown grown3).mono B1.out.size))
      have hbs := B1.out.size
      have hb3 := B3.out.size
      clear own3 grown3 B1
      obtain ⟨_, _, f1, -, -, p0, pf⟩ := O3.out.spot (k := 0) (by rw [List.length_replicate]; omega)
      simp only [Value.slice.injEq, Option.some.injEq, Addr.mk.injEq] at f1
      obtain ⟨⟨rfl, _⟩, -, -⟩ := f1
      rw [List.getElem_replicate] at p0
      have SS := Lib.hid (O3.out.set (by rw [List.length_replicate]) 0 1)
      have O4 := Lib.hid (show OwnI (w3.setCell ⟨w1.heap.size, 0, none⟩ (.int .i64 1)) w1.heap.size (.slice (some ⟨w1.heap.size, 0, none⟩) N N) (natI (cntS (waitSet ls) ls.length 0)) by
        rw [Z0.out, ← natI_set]
        have e : natI (List.replicate N 0) = List.replicate N (0 : Int) := by simp [natI]
        rw [e]
        exact SS.out.1)
      have B4 := Lib.hid (B3.out.grown SS.out.2 hb3 (fun q hq => by have := Option.some.inj hq; omega))
      clear SS O3 B3 Z0))
    clear esh esm CK
    generalize hG : w1.heap.size = G at O4 B4 hbs ⊢
    clear hG
    go_loopw [24] (fun sv wr => ∃ S : Nat, S ≤ N ∧ sv = .int .i64 (S : Int) ∧ Hid (OwnI wr G (.slice (some ⟨G, 0, none⟩) N N) (natI (cntS (waitSet ls) ls.length S))) ∧ Hid (Below w.heap.size w wr)) (fun sv _ => N - (intOf sv).toNat)
    case atStart => exact ⟨0, by omega, rfl, O4, B4⟩
    case round =>
      clear O4 B4
      obtain ⟨S, hS, rfl, OO, BW⟩ := hrel
      by_cases hlt : S < N
      rotate_left
      · obtain rfl : S = N := by omega
        have hm0 : S - 1 < S := by omega
        have hl : (natI (cntS (waitSet ls) ls.length S)).length = S := by rw [natI_len, CL.out]
        obtain ⟨_, _, f1, -, -, p0, -⟩ := OO.out.spot (k := S - 1) (by rw [hl]; exact hm0)
        simp only [Value.slice.injEq, Option.some.injEq, Addr.mk.injEq] at f1
        obtain ⟨⟨rfl, _⟩, -, -⟩ := f1
        rw [natI_at _ (by rw [CL.out]; exact hm0)] at p0
        have en : IntKind.i64.wrap ((S : Int) - 1) = ((S - 1 : Nat) : Int) := by
          rw [IntWalk.i64_in _ (by omega)]
          omega
        clear hl hlt hS
        have hm2 : ((S - 1 : Nat) : Int) < (S : Int) := by omega
        have F := Lib.hid R.out
        clear R CL KL SM TL TS TN T0 CP OO
        generalize (cntS (waitSet ls) ls.length S).getD (S - 1) 0 = x at p0 F
        generalize hM : S - 1 = M at p0 en hm0 hm2
        go_wp2
        go_ret
        exact ⟨by rw [F.out]; rfl, BW.out⟩
      have hS0 : (0 : Int) ≤ (S : Int) := by omega
      have hS1 : (S : Int) < (N : Int) := by omega
      have ecv := conv_u64 S (by omega)
      have PP := Lib.hid (CP.out wr (O.out.below BW.out) S (by omega))
      have PL := Lib.hid (possTo_len ls S ls.length)
      have PI := Lib.hid (fun q (hq : q < (possTo ls S ls.length).length) => poss_in ls S _ _ (List.getElem_mem hq))
      have O5 := Lib.hid (show OwnI wr G (.slice (some ⟨G, 0, none⟩) N N) (natI (T S 0)) by rw [T0.out]; exact OO.out)
      have KS := Lib.hid (KL.out S)
      have SS := Lib.hid (SM.out S hlt)
      have TT := Lib.hid (TS.out S)
      have TE := Lib.hid (TN.out S)
      have TX := Lib.hid (TL.out S hlt)
      have SW := Lib.hid (fun k (hk : k < ls.length) W => (setWith S k (by omega) (by omega) W).mono fun e w' h => (show _ ∧ W = w' from ⟨h.1, h.2.symm⟩))
      have hgw := O5.out.lt G rfl
      clear OO KL SM TS TN TL CP
      generalize possTo ls S ls.length = ps at PP PL PI KS SS TT TE
      generalize hT : T S = U at O5 KS SS TT TE
      clear hT
      go_wp2_with fail
      refine PP.out.mono ?_
      rintro e w2 ⟨v2, rfl, o2, b2⟩
      obtain ⟨P, cp, rfl⟩ := o2.slice
      have P2 := Lib.hid (o2.mono (show G + 1 ≤ wr.heap.size by omega))
      have O6 := Lib.hid (O5.out.below b2)
      have B2 := Lib.hid (BW.out.trans (b2.mono BW.out.size))
      clear o2 b2 O5 BW PP
      have hpl := PL.out
      go_wp2_with fail
      go_loopw [33] (fun qv wx => ∃ q : Nat, q ≤ ps.length ∧ qv = .int .i64 (q : Int) ∧ Hid (OwnI wx G (.slice (some ⟨G, 0, none⟩) N N) (natI (U q))) ∧ Hid (OwnI wx (G + 1) (.slice P ps.length cp) ps) ∧ Hid (Below w.heap.size w wx)) (fun qv _ => ps.length - (intOf qv).toNat)
      case atStart => exact ⟨0, by omega, rfl, O6, P2, B2⟩
      case round =>
        clear O6 P2 B2
        obtain ⟨q, hq, rfl, OO, OP, BX⟩ := hrel
        by_cases hlq : q < ps.length
        rotate_left
        · obtain rfl : q = ps.length := by omega
          have N2 := Lib.hid (show OwnI _ G (.slice (some ⟨G, 0, none⟩) N N) (natI (cntS (waitSet ls) ls.length (S + 1))) by rw [← TE.out]; exact OO.out)
          go_wp2
          exact ⟨⟨S + 1, by omega, by go_num, N2, BX⟩, by simp [intOf]; omega⟩
        have hq0 : (0 : Int) ≤ (q : Int) := by omega
        have hq1 : (q : Int) < (ps.length : Int) := by omega
        obtain ⟨k, hk, hkl, -⟩ := PI.out q hlq
        obtain ⟨gp, _, f1, -, -, z0, -⟩ := OP.out.spot hlq
        simp only [Value.slice.injEq] at f1
        obtain ⟨rfl, -, -⟩ := f1
        have N2 := Lib.hid (TT.out q hlq k hk)
        rw [hk] at z0
        have hX := TX.out k hkl
        have hx := SS.out q hq _ hX
        have hy := SS.out q hq _ hlt
        have hl := KS.out q hq
        have W1 := Lib.hid (SW.out k hkl)
        clear hk
        generalize S ||| 1 <<< k = X at N2 hX hx W1
        have hX0 : (0 : Int) ≤ (X : Int) := by omega
        have hX1 : (X : Int) < (N : Int) := by omega
        obtain ⟨_, _, f1, -, -, p0, pf⟩ := OO.out.spot (k := X) (by rw [natI_len, hl]; exact hX)
        simp only [Value.slice.injEq, Option.some.injEq, Addr.mk.injEq] at f1
        obtain ⟨⟨rfl, _⟩, -, -⟩ := f1
        rw [natI_at _ (by rw [hl]; exact hX)] at p0
        obtain ⟨_, _, f1, -, -, q0, -⟩ := OO.out.spot (k := S) (by rw [natI_len, hl]; exact hlt)
        simp only [Value.slice.injEq, Option.some.injEq, Addr.mk.injEq] at f1
        obtain ⟨⟨rfl, _⟩, -, -⟩ := f1
        rw [natI_at _ (by rw [hl]; exact hlt)] at q0
        have SET := OO.out.set (k := X) (by rw [natI_len, hl]) (((U q).getD X 0 + (U q).getD S 0 : Nat) : Int)
        rw [natI_set, ← N2.out] at SET
        have ST := Lib.hid SET
        have hbx := BX.out.size
        have hgx : G < _ := (OO.out.lt G rfl).2
        have B3 := Lib.hid (BX.out.grown ST.out.2 hbx (fun x hx => by have := Option.some.inj hx; omega))
        have P3 := Lib.hid (OP.out.kept ST.out.2 (sep_of fun x e1 e2 => by have := (OP.out.lt x e1).1; have := Option.some.inj e2; omega))
        have S3 := Lib.hid ST.out.1
        clear SET ST N2 OO OP hl BX
        generalize (U q).getD X 0 = x at p0 hx B3 P3 S3
        generalize (U q).getD S 0 = y at q0 hy B3 P3 S3
        have ew : IntKind.i64.wrap ((x : Int) + (y : Int)) = ((x + y : Nat) : Int) := by
          rw [IntWalk.i64_in _ (by omega)]
          omega
        generalize x + y = xy at ew B3 P3 S3
        go_wp2_with fail
        go_region_law (first | (go_simp; go_at_call 36; refine (W1.out _).mono ?_; rintro e w' ⟨rfl, rfl⟩))
        all_goals go_wp2
        all_goals exact ⟨⟨q + 1, by omega, by go_num, Lib.hid (S3.out.below (Below.refl _ _).drew), Lib.hid (P3.out.below (Below.refl _ _).drew), Lib.hid B3.out.drew⟩, by simp [intOf]; omega⟩
end Go.Proofs.Ytbgogcobkiaejab
