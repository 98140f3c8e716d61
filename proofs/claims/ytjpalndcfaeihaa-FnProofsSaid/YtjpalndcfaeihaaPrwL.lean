/- The law FnProofs, walked over the contracts of the program's functions. No condition. -/
import Derived.Test.YtjpalndcfaeihaaPrxM
import Derived.Test.YtjpalndcfaeihaaGodP
import Derived.Test.YtjpalndcfaeihaaLstP
import Derived.Test.YtjpalndcfaeihaaHasW
import Derived.Test.YtjpalndcfaeihaaIntB
import Derived.Test.YtjpalndcfaeihaaHfrS
import Derived.Test.YtjpalndcfaeihaaPrgI
import Derived.BigQuiet
namespace Go.Proofs.Ytjpalndcfaeihaa
set_option linter.unusedVariables false
set_option linter.unusedSimpArgs false
open Go.RowKit

/- HYPOTHESES -/
set_option maxRecDepth 100000 in
set_option maxHeartbeats 3200000 in
theorem FnProofs_walk (a : Option Addr) (n cap : Nat) (z : List Int) (w : World) (hr : IsRow .u8 w a n cap z) :
    Calls Try.prog 3 #[.slice a n cap] w fun e w' => e = .returned (.bool true) ∧ Below w.heap.size w w' := by
  have hm := row_len hr
  by_cases hn : 1048576 < n
  · clear hr
    go_enter Try.func3, Try.ntmps3
    go_wp2_with fail
    refine (big_yes a n cap w hn hm).mono ?_
    rintro e w' ⟨rfl, rfl⟩
    go_wp2
    go_ret
    exact ⟨rfl, Below.refl _ _⟩
  have CD := Lib.hid (drawPlayers_any a n cap z w hr (by omega))
  clear hr
  go_enter Try.func3, Try.ntmps3
  go_wp2_with fail
  refine (big_no a n cap w (by omega)).mono ?_
  rintro e w' ⟨rfl, rfl⟩
  go_wp2_with fail
  refine CD.out.mono ?_
  rintro e w1 ⟨vl, vu, ls, ps, rfl, o1, u1, hl, hg, ha, b1⟩
  obtain ⟨L, cl, rfl⟩ := o1.slice
  obtain ⟨U, cu, rfl⟩ := u1.slice
  have O1 := Lib.hid o1
  have U1 := Lib.hid u1
  have B1 := Lib.hid b1
  have hok := good_players hg hl
  have hp6 : ps.length ≤ 6 := asc_len (m := 6) ha
  have PF := Lib.hid (proofFacts hok ha)
  have hl2 : ls.length ≤ 2000000 := by omega
  have hrw : ∀ k (hk : k < ls.length), ls[k].f0.length ≤ 2000000 := fun k hk => by have := asc_len (m := 6) (hg _ (List.getElem_mem hk)).2; omega
  obtain ⟨rx, ok, hfo⟩ : ∃ rx ok, castR (firstCast ls ps) = (rx, ok) := ⟨_, _, rfl⟩
  obtain ⟨sx, sb, hso⟩ : ∃ sx sb, castR (shortSet ls ps) = (sx, sb) := ⟨_, _, rfl⟩
  have hsl : sx.length ≤ 7 := by have := shortSet_len ls ps; rw [hso] at this; exact this
  have MS := Lib.hid (show ∀ z ∈ sx, z ∈ ps from fun z hz => by
    cases c : shortSet ls ps with
    | none => rw [c] at hso; rw [show sx = [] from (congrArg Prod.fst hso).symm] at hz; cases hz
    | some x => rw [c] at hso; rw [show sx = x from (congrArg Prod.fst hso).symm] at hz; exact (PF.out.set x c).2 z hz)
  have SI := Lib.hid (show sb = true → isShort ls sx = true from fun e => by
    cases c : shortSet ls ps with
    | none => rw [c] at hso; have := congrArg Prod.snd hso; rw [e] at this; cases this
    | some x => rw [c] at hso; rw [show sx = x from (congrArg Prod.fst hso).symm]; exact (PF.out.set x c).1)
  have CF := Lib.hid (fun W h u => (show Calls Try.prog 11 #[.slice L ls.length cl, .slice U ps.length cu] W (IntsB W (rx, ok)) from by have q := implFst (.slice L ls.length cl) ls w.heap.size W h hl2 hrw (.slice U ps.length cu) ps w.heap.size u (by omega); rw [hfo] at q; exact q))
  have CS := Lib.hid (fun W h u => (show Calls Try.prog 12 #[.slice L ls.length cl, .slice U ps.length cu] W (IntsB W (sx, sb)) from by have q := implShs (.slice L ls.length cl) ls w.heap.size W h hl2 hrw (.slice U ps.length cu) ps w.heap.size u (by omega); rw [hso] at q; exact q))
  have CM := Lib.hid (fun W h u => implMos (.slice L ls.length cl) ls w.heap.size W h hl2 hrw (.slice U ps.length cu) ps w.heap.size u (by omega))
  have CL := Lib.hid (fun W h u => implLac (.slice L ls.length cl) ls w.heap.size W h hl2 hrw (.slice U ps.length cu) ps w.heap.size u (by omega))
  have CH := Lib.hid (fun W h u => implHan (.slice L ls.length cl) ls w.heap.size W h hl2 hrw (.slice U ps.length cu) ps w.heap.size u (by omega))
  have CG := Lib.hid (fun W h => specHfr (.slice L ls.length cl) ls w.heap.size W h hl2 hrw)
  have CI := Lib.hid (fun W h u => (show Calls Try.prog 15 #[.slice L ls.length cl, .slice U ps.length cu] W (fun e w' => e = .returned (.bool (decide (handsFor ls ps < (ps.length : Int)))) ∧ Below W.heap.size W w') from by
    have q := implSho (.slice L ls.length cl) ls w.heap.size W h hl2 hrw (.slice U ps.length cu) ps w.heap.size u (by omega)
    rw [PF.out.hands.2.2] at q
    exact q))
  have CJ := Lib.hid (fun (e : isShort ls sx = true) v3 b3 W h u => (show Calls Try.prog 15 #[.slice L ls.length cl, v3] W (fun e w' => e = .returned (.bool true) ∧ Below W.heap.size W w') from by
    have q := implSho (.slice L ls.length cl) ls w.heap.size W h hl2 hrw v3 sx b3 u (by omega)
    rw [e] at q
    exact q))
  have CE := Lib.hid (fun W h => (show Calls Try.prog 17 #[.slice L ls.length cl, .slice none 0 0] W (fun e w' => e = .returned (.int .i64 0) ∧ Below W.heap.size W w') from by
    have q := implHan (.slice L ls.length cl) ls w.heap.size W h hl2 hrw (.slice none 0 0) [] 0 ⟨rfl, .inl ⟨rfl, rfl⟩⟩ (by simp)
    rw [PF.out.none] at q
    exact q))
  have hsb : sb = !ok := by have := PF.out.short; rw [hso, hfo] at this; exact this
  obtain ⟨m0, m1, m2, m3⟩ := PF.out.most
  have hd1 : decide (lackOf ls ps = 0) = ok := by
    have q := PF.out.lack
    rw [hfo] at q
    exact q
  obtain ⟨h0, h1, -⟩ := PF.out.hands
  clear o1 u1 b1 CD hm hn hok hg ha hl2 hrw hl hfo hso PF
  generalize mostCast ls ps = mm at CM m0 m1 m2 m3
  generalize lackOf ls ps = dd at CL m2 hd1
  generalize handsFor ls ps = hh at CH CI h0 h1
  generalize handsFree ls = hf at CG h1 m3
  have d1 : decide (mm < 0) = false := decide_eq_false (by omega)
  have d2 : decide ((ps.length : Int) < mm) = false := decide_eq_false (by omega)
  have d3 : decide (0 ≤ hh) = true := decide_eq_true (by omega)
  have d4 : decide (hh ≤ hf) = true := decide_eq_true (by omega)
  have d5 : decide (mm ≤ hf) = true := decide_eq_true (by omega)
  have ew : IntKind.i64.wrap ((ps.length : Int) - mm) = dd := by rw [IntWalk.i64_in _ (by omega)]; omega
  clear m2
  go_wp2_with fail
  refine (CF.out _ O1.out U1.out).mono ?_
  rintro e w2 ⟨v2, rfl, o2, b2⟩
  have O2 := Lib.hid (O1.out.below b2)
  have U2 := Lib.hid (U1.out.below b2)
  have B2 := Lib.hid (B1.out.trans (b2.mono B1.out.size))
  obtain ⟨X, cx, rfl⟩ := o2.slice
  clear o2 b2 O1 U1 B1 CF
  go_wp2_with fail
  refine (CS.out _ O2.out U2.out).mono ?_
  rintro e w3 ⟨v3, rfl, o3, b3⟩
  replace o3 : OwnI w3 w2.heap.size v3 sx := o3
  obtain ⟨Q, cq, rfl⟩ := o3.slice
  have S3 := Lib.hid (o3.mono B2.out.size)
  have O3 := Lib.hid (O2.out.below b3)
  have U3 := Lib.hid (U2.out.below b3)
  have B3 := Lib.hid (B2.out.trans (b3.mono B2.out.size))
  clear o3 b3 O2 U2 B2 CS
  go_wp2_with fail
  refine (CM.out _ O3.out U3.out).mono ?_
  rintro e w4 ⟨rfl, b4⟩
  have S4 := Lib.hid (S3.out.below b4)
  have O4 := Lib.hid (O3.out.below b4)
  have U4 := Lib.hid (U3.out.below b4)
  have B4 := Lib.hid (B3.out.trans (b4.mono B3.out.size))
  clear b4 O3 U3 B3 S3 CM
  go_wp2_with fail
  refine (CL.out _ O4.out U4.out).mono ?_
  rintro e w5 ⟨rfl, b5⟩
  have S5 := Lib.hid (S4.out.below b5)
  have O5 := Lib.hid (O4.out.below b5)
  have U5 := Lib.hid (U4.out.below b5)
  have B5 := Lib.hid (B4.out.trans (b5.mono B4.out.size))
  clear b5 O4 U4 B4 S4 CL
  generalize rx.length = nx
  cases ok with
  | true =>
    obtain rfl : sb = false := hsb
    obtain rfl : dd = 0 := of_decide_eq_true hd1
    clear hd1
    clear CJ SI
    have FF := Lib.hid (fun W (hb : Below w5.heap.size w5 W) => (show OwnPlayer W w.heap.size (.slice L ls.length cl) ls ∧ OwnI W w.heap.size (.slice U ps.length cu) ps ∧ OwnI W w.heap.size (.slice Q sx.length cq) sx ∧ Below w.heap.size w W from ⟨O5.out.below hb, U5.out.below hb, S5.out.below hb, B5.out.trans (hb.mono B5.out.size)⟩))
    clear O5 U5 S5 B5
    go_wp2_with fail
    go_loopw [11] (fun kv wr => ∃ k : Nat, k ≤ sx.length ∧ kv = .int .i64 (k : Int) ∧ Hid (Below w5.heap.size w5 wr)) (fun kv _ => sx.length - (intOf kv).toNat)
    case atStart => exact ⟨0, by omega, rfl, Lib.hid (Below.refl _ _)⟩
    case round =>
      obtain ⟨k, hk, rfl, BW⟩ := hrel
      obtain ⟨O9, U9, S9, B9⟩ := FF.out _ BW.out
      by_cases hlt : k < sx.length
      rotate_left
      · obtain rfl : k = sx.length := by omega
        have OX := Lib.hid O9
        have UX := Lib.hid U9
        have BX := Lib.hid B9
        clear O9 U9 S9 B9 FF MS
        go_wp2_with fail
        refine (CH.out _ OX.out UX.out).mono ?_
        rintro e wa ⟨rfl, ba⟩
        have OY := Lib.hid (OX.out.below ba)
        have UY := Lib.hid (UX.out.below ba)
        have BY := Lib.hid (BX.out.trans (ba.mono BX.out.size))
        clear ba OX UX BX
        go_wp2_with fail
        refine (CG.out _ OY.out).mono ?_
        rintro e wc ⟨rfl, bc⟩
        have OX := Lib.hid (OY.out.below bc)
        have UX := Lib.hid (UY.out.below bc)
        have BX := Lib.hid (BY.out.trans (bc.mono BY.out.size))
        clear bc OY UY BY
        go_wp2_with fail
        refine (CG.out _ OX.out).mono ?_
        rintro e wd ⟨rfl, bd⟩
        have OY := Lib.hid (OX.out.below bd)
        have UY := Lib.hid (UX.out.below bd)
        have BY := Lib.hid (BX.out.trans (bd.mono BX.out.size))
        clear bd OX UX BX
        go_wp2_with fail
        refine (CI.out _ OY.out UY.out).mono ?_
        rintro e wf ⟨rfl, bf⟩
        have OX := Lib.hid (OY.out.below bf)
        have BX := Lib.hid (BY.out.trans (bf.mono BY.out.size))
        clear bf OY UY BY
        go_wp2_with fail
        refine (CE.out _ OX.out).mono ?_
        rintro e wg ⟨rfl, bg⟩
        have BY := Lib.hid (BX.out.trans (bg.mono BX.out.size))
        clear bg OX BX
        go_wp2
        go_ret
        exact ⟨by simp, BY.out⟩
      have hk0 : (0 : Int) ≤ (k : Int) := by omega
      have hk1 : (k : Int) < (sx.length : Int) := by omega
      obtain ⟨gs, _, f1, -, -, y0, -⟩ := S9.spot hlt
      simp only [Value.slice.injEq] at f1
      obtain ⟨rfl, -, rfl⟩ := f1
      have HA := Lib.hid (has_any (.slice U ps.length cu) ps sx[k] _ wr U9 (by omega))
      have hx : hasL ps sx[k] = true := by simpa [hasL] using MS.out _ (List.getElem_mem hlt)
      rw [hx] at HA
      generalize sx[k] = xk at HA y0
      clear O9 U9 S9 B9 hx
      go_wp2_with fail
      refine HA.out.mono ?_
      rintro e w8 ⟨rfl, rfl⟩
      go_wp2
      exact ⟨⟨k + 1, by omega, by go_num, BW⟩, by simp [intOf]; omega⟩
  | false =>
    obtain rfl : sb = true := hsb
    have hz : (dd == 0) = false := by simpa using of_decide_eq_false hd1
    have hz2 : ¬ dd = 0 := of_decide_eq_false hd1
    have hz3 : ((dd == 0) != false) = false := by rw [hz]; rfl
    have CJ2 := Lib.hid (CJ.out (SI.out rfl) _ _ _ O5.out S5.out)
    clear CJ SI
    go_wp2_with fail
    refine CJ2.out.mono ?_
    rintro e w6 ⟨rfl, b6⟩
    have S6 := Lib.hid (S5.out.below b6)
    have O6 := Lib.hid (O5.out.below b6)
    have U6 := Lib.hid (U5.out.below b6)
    have B6 := Lib.hid (B5.out.trans (b6.mono B5.out.size))
    clear b6 O5 U5 B5 S5 CJ2 hz hz2 hz3 hd1 ew d1 d2
    have FF := Lib.hid (fun W (hb : Below w6.heap.size w6 W) => (show OwnPlayer W w.heap.size (.slice L ls.length cl) ls ∧ OwnI W w.heap.size (.slice U ps.length cu) ps ∧ OwnI W w.heap.size (.slice Q sx.length cq) sx ∧ Below w.heap.size w W from ⟨O6.out.below hb, U6.out.below hb, S6.out.below hb, B6.out.trans (hb.mono B6.out.size)⟩))
    clear O6 U6 S6 B6
    go_wp2_with fail
    go_loopw [11] (fun kv wr => ∃ k : Nat, k ≤ sx.length ∧ kv = .int .i64 (k : Int) ∧ Hid (Below w6.heap.size w6 wr)) (fun kv _ => sx.length - (intOf kv).toNat)
    case atStart => exact ⟨0, by omega, rfl, Lib.hid (Below.refl _ _)⟩
    case round =>
      obtain ⟨k, hk, rfl, BW⟩ := hrel
      obtain ⟨O9, U9, S9, B9⟩ := FF.out _ BW.out
      by_cases hlt : k < sx.length
      rotate_left
      · obtain rfl : k = sx.length := by omega
        have OX := Lib.hid O9
        have UX := Lib.hid U9
        have BX := Lib.hid B9
        clear O9 U9 S9 B9 FF MS
        go_wp2_with fail
        refine (CH.out _ OX.out UX.out).mono ?_
        rintro e wa ⟨rfl, ba⟩
        have OY := Lib.hid (OX.out.below ba)
        have UY := Lib.hid (UX.out.below ba)
        have BY := Lib.hid (BX.out.trans (ba.mono BX.out.size))
        clear ba OX UX BX
        go_wp2_with fail
        refine (CG.out _ OY.out).mono ?_
        rintro e wc ⟨rfl, bc⟩
        have OX := Lib.hid (OY.out.below bc)
        have UX := Lib.hid (UY.out.below bc)
        have BX := Lib.hid (BY.out.trans (bc.mono BY.out.size))
        clear bc OY UY BY
        go_wp2_with fail
        refine (CG.out _ OX.out).mono ?_
        rintro e wd ⟨rfl, bd⟩
        have OY := Lib.hid (OX.out.below bd)
        have UY := Lib.hid (UX.out.below bd)
        have BY := Lib.hid (BX.out.trans (bd.mono BX.out.size))
        clear bd OX UX BX
        go_wp2_with fail
        refine (CI.out _ OY.out UY.out).mono ?_
        rintro e wf ⟨rfl, bf⟩
        have OX := Lib.hid (OY.out.below bf)
        have BX := Lib.hid (BY.out.trans (bf.mono BY.out.size))
        clear bf OY UY BY
        go_wp2_with fail
        refine (CE.out _ OX.out).mono ?_
        rintro e wg ⟨rfl, bg⟩
        have BY := Lib.hid (BX.out.trans (bg.mono BX.out.size))
        clear bg OX BX
        go_wp2
        go_ret
        exact ⟨by simp, BY.out⟩
      have hk0 : (0 : Int) ≤ (k : Int) := by omega
      have hk1 : (k : Int) < (sx.length : Int) := by omega
      obtain ⟨gs, _, f1, -, -, y0, -⟩ := S9.spot hlt
      simp only [Value.slice.injEq] at f1
      obtain ⟨rfl, -, rfl⟩ := f1
      have HA := Lib.hid (has_any (.slice U ps.length cu) ps sx[k] _ wr U9 (by omega))
      have hx : hasL ps sx[k] = true := by simpa [hasL] using MS.out _ (List.getElem_mem hlt)
      rw [hx] at HA
      generalize sx[k] = xk at HA y0
      clear O9 U9 S9 B9 hx
      go_wp2_with fail
      refine HA.out.mono ?_
      rintro e w8 ⟨rfl, rfl⟩
      go_wp2
      exact ⟨⟨k + 1, by omega, by go_num, BW⟩, by simp [intOf]; omega⟩
end Go.Proofs.Ytjpalndcfaeihaa
