/- The contract of the program's IsCasting. Condition: the players and the numbers lie in rows of their own. -/
import Derived.Test.YtbgogcobkiaejaaHacI
namespace Go.Proofs.Ytbgogcobkiaejaa
set_option linter.unusedVariables false
set_option linter.unusedSimpArgs false
open Go.RowKit

/-- The hands left behind the first i of a cast. -/
def lft (ls : List RPlayer) (cs : List Int) (i : Nat) : List Int := (List.range 6).map fun p : Nat => (ls.getD p RPlayer.zero).f1 - cntI cs (p : Int) i
theorem lft_len (ls : List RPlayer) (cs : List Int) (i : Nat) : (lft ls cs i).length = 6 := by simp [lft]
theorem lft_at (ls : List RPlayer) (cs : List Int) (i : Nat) {p : Nat} (hp : p < 6) : (lft ls cs i).getD p 0 = (ls.getD p RPlayer.zero).f1 - cntI cs (p : Int) i := by rw [lft, rng_at _ hp]
theorem lft_zero (ls : List RPlayer) (cs : List Int) : lft ls cs 0 = freeSix ls 6 := by
  refine ext_getD (by rw [lft_len, freeSix_len]) fun p hp => ?_
  rw [lft_len] at hp
  rw [lft_at ls cs 0 hp, freeSix_at ls 6 p hp, cntI]
  omega
theorem lft_next {ls : List RPlayer} {cs : List Int} {i k : Nat} (hk : k < 6) (e : cs.getD i 0 = (k : Int)) : lft ls cs (i + 1) = (lft ls cs i).set k ((lft ls cs i).getD k 0 - 1) := by
  refine ext_getD (by rw [List.length_set, lft_len, lft_len]) fun p hp => ?_
  rw [lft_len] at hp
  rw [lft_at ls cs (i + 1) hp, cntI, e]
  by_cases c : k = p
  · subst c
    rw [getD_set_same (by rw [lft_len]; exact hk), if_pos rfl, lft_at ls cs i hk]
    omega
  · rw [getD_set_other c, lft_at ls cs i hp, if_neg (by omega)]
    omega
theorem cntI_mono (zs : List Int) (k : Int) {i : Nat} : ∀ {j : Nat}, i ≤ j → cntI zs k i ≤ cntI zs k j := by
  intro j
  induction j with
  | zero => intro h; obtain rfl : i = 0 := by omega
            exact Int.le_refl _
  | succ j ih =>
    intro h
    rcases (by omega : i ≤ j ∨ i = j + 1) with q | rfl
    · have := ih q
      rw [cntI]
      split <;> omega
    · exact Int.le_refl _
theorem has_who (ls : List RPlayer) (x y : Int) : hasZ (whoTo ls x ls.length) y = (inB y 0 ((ls.length : Int) - 1) && knowsB (ls.getD y.toNat RPlayer.zero) x) := by
  cases c : hasZ (whoTo ls x ls.length) y with
  | true =>
    obtain ⟨z, hz, e⟩ := List.any_eq_true.1 c
    obtain ⟨i, hi, rfl⟩ := List.mem_iff_getElem.1 hz
    obtain ⟨p, hp, e2, e3⟩ := who_has ls x ls.length i hi
    rw [List.getD_eq_getElem?_getD, List.getElem?_eq_getElem hi] at e2
    have e4 : y = (p : Int) := by rw [← of_decide_eq_true e]; exact e2
    subst e4
    rw [Int.toNat_natCast, e3, inB_yes (by omega)]
    rfl
  | false =>
    cases d : inB y 0 ((ls.length : Int) - 1) with
    | false => rfl
    | true =>
      have hy : 0 ≤ y ∧ y ≤ (ls.length : Int) - 1 := by simpa [inB] using d
      obtain ⟨p, rfl⟩ := Int.eq_ofNat_of_zero_le hy.1
      rw [Int.toNat_natCast]
      cases q : knowsB (ls.getD p RPlayer.zero) x with
      | false => rfl
      | true =>
        obtain ⟨i, hi, e⟩ := who_all ls x ls.length p (by omega) q
        rw [List.getD_eq_getElem?_getD, List.getElem?_eq_getElem hi] at e
        rw [hasZ_yes hi e] at c
        cases c

set_option maxRecDepth 100000 in
set_option maxHeartbeats 3200000 in
theorem implCas (v : Value) (ls : List RPlayer) (b : Nat) (w : World) (h : OwnPlayer w b v ls) (hl : ls.length ≤ 2000000) (hr : ∀ k (hk : k < ls.length), ls[k].f0.length ≤ 2000000) (u : Value) (ps : List Int) (b2 : Nat) (h2 : OwnI w b2 u ps) (hp : ps.length ≤ 2000000)
    (x : Value) (cs : List Int) (b3 : Nat) (h3 : OwnI w b3 x cs) (hc : cs.length ≤ 2000000) :
    Calls Try.prog 14 #[v, u, x] w fun e w' => e = .returned (.bool (isCasting ls ps cs)) ∧ Below w.heap.size w w' := by
  have CK := Lib.hid (implPOk v ls b w h hl hr)
  have CR := Lib.hid (fun W h => implPup u ps b2 W h hp)
  have CW := Lib.hid (fun x W h => implWho v ls b W h hl hr x)
  have CA := Lib.hid (fun W h => implAll v ls b W h)
  obtain ⟨A, c, rfl⟩ := h.slice
  obtain ⟨D, d, rfl⟩ := h2.slice
  obtain ⟨X, cx, rfl⟩ := h3.slice
  have O := Lib.hid h
  have P := Lib.hid h2
  have Z := Lib.hid h3
  clear h h2 h3 hr
  cases hok : playersOk ls with
  | false =>
    have R := Lib.hid (show isCasting ls ps cs = false by unfold isCasting; rw [hok]; rfl)
    rw [hok] at CK
    go_enter Try.func14, Try.ntmps14
    go_wp2_with (go_at_call 18; refine CK.out.mono ?_; rintro e w1 ⟨rfl, b1⟩; have B1 := Lib.hid b1; clear b1)
    go_ret
    exact ⟨by rw [R.out]; rfl, B1.out⟩
  | true =>
  have hn := (playersOk_has hok).1
  rw [hok] at CK
  cases hris : rising ps 6 with
  | false =>
    have R := Lib.hid (show isCasting ls ps cs = false by unfold isCasting; rw [hok, hris]; rfl)
    rw [hris] at CR
    go_enter Try.func14, Try.ntmps14
    go_wp2_with (first | (go_at_call 18; refine CK.out.mono ?_; rintro e w1 ⟨rfl, b1⟩; have B1 := Lib.hid b1; clear b1) | (go_at_call 36; refine (CR.out _ (P.out.below B1.out)).mono ?_; rintro e w' ⟨rfl, rfl⟩))
    go_ret
    exact ⟨by rw [R.out]; rfl, B1.out⟩
  | true =>
  rw [hris] at CR
  by_cases hlen : cs.length = ps.length
  rotate_left
  · have R := Lib.hid (show isCasting ls ps cs = false by unfold isCasting; rw [hok, hris, decide_eq_false hlen]; rfl)
    have hne : ((cs.length : Int) == (ps.length : Int)) = false := by rw [beq_eq_false_iff_ne]; omega
    clear hris hok
    generalize cs.length = n1 at *
    generalize ps.length = n2 at *
    go_enter Try.func14, Try.ntmps14
    go_wp2_with (first | (go_at_call 18; refine CK.out.mono ?_; rintro e w1 ⟨rfl, b1⟩; have B1 := Lib.hid b1; clear b1) | (go_at_call 36; refine (CR.out _ (P.out.below B1.out)).mono ?_; rintro e w' ⟨rfl, rfl⟩))
    go_ret
    exact ⟨by rw [R.out]; rfl, B1.out⟩
  have h7 := rising_seven hris
  have RN1 := Lib.hid (show ∀ k, k < cs.length → castAt ls ps cs k = false → isCasting ls ps cs = false from fun k hk e => by unfold isCasting; rw [range_no hk e]; simp)
  have RN2 := Lib.hid (show ∀ k, k < ls.length → loadFit ls cs k = false → isCasting ls ps cs = false from fun k hk e => by unfold isCasting; rw [range_no hk e]; simp)
  have RY := Lib.hid (show (∀ k, k < cs.length → castAt ls ps cs k = true) → (∀ k, k < ls.length → loadFit ls cs k = true) → isCasting ls ps cs = true from fun e1 e2 => by
    unfold isCasting
    rw [hok, hris, decide_eq_true hlen, range_yes e1, range_yes e2]
    rfl)
  have LD := Lib.hid (show ∀ p, p < ls.length → cntI cs (p : Int) cs.length ≤ (ls.getD p RPlayer.zero).f1 → loadFit ls cs p = true from fun p hp e => by unfold loadFit; rw [decide_eq_false (by omega)]; rfl)
  have FN := Lib.hid (fun k (hk : k < ls.length) => (player_fine ((playersOk_has hok).2 k hk)).2)
  have WK := Lib.hid (fun x => (show whoKnows ls x = whoTo ls x ls.length by unfold whoKnows; rw [if_pos hok]))
  have hll : ls.length ≤ 6 := by omega
  have CA2 := Lib.hid (fun W h => CA.out W h hll)
  rw [← lft_zero ls cs] at CA2
  have HL := Lib.hid hlen
  rw [hlen] at Z ⊢
  have hne : ((ps.length : Int) == (ps.length : Int)) = true := by simp
  clear hok hris hlen CA
  rw [HL.out] at RN1 RY LD
  go_enter Try.func14, Try.ntmps14
  have L0 := lft_len ls cs 0
  go_wp2_with (first
    | (go_at_call 18; refine CK.out.mono ?_; rintro e w1 ⟨rfl, b1⟩; have B1 := Lib.hid b1; clear b1) | (go_at_call 36; refine (CR.out _ (P.out.below B1.out)).mono ?_; rintro e w' ⟨rfl, rfl⟩)
    | (go_at_call 37; refine (CA2.out _ (O.out.below B1.out)).mono ?_; rintro e w2 ⟨rfl, b2⟩; have B2 := Lib.hid (B1.out.trans (b2.mono B1.out.size)); clear b2)
    | (refine wpList_store_new rfl 56 56 _ _ rfl _ (((lft ls cs 0).map intV).toArray) rfl rfl (info6_arr L0) (by simp [L0]) (one6 _) ?_
       have A3 := Lib.hid (arr6_new w2 w2.heap.size ((lft ls cs 0).map intV).toArray (lft ls cs 0) (by simp) L0 (Nat.le_refl _))
       have B3 := Lib.hid (B2.out.alloc B2.out.size (.cells ((lft ls cs 0).map intV).toArray 56))
       have hb2 := B2.out.size))
  generalize w2.heap.size = g at A3 hb2 ⊢
  clear CK CR CA2 B1 B2 L0
  go_loopw [29] (fun iv wr => ∃ i : Nat, i ≤ ps.length ∧ iv = .int .i64 (i : Int) ∧ Hid (∀ j, j < i → castAt ls ps cs j = true) ∧ Hid (∀ p, p < ls.length → cntI cs (p : Int) i ≤ (ls.getD p RPlayer.zero).f1) ∧ Hid (Arr6 wr g g (lft ls cs i)) ∧ Hid (Below w.heap.size w wr)) (fun iv _ => ps.length - (intOf iv).toNat)
  case atStart => exact ⟨0, by omega, rfl, Lib.hid (fun i hi => absurd hi (by omega)), Lib.hid (fun p hp => by rw [getP hp, cntI]; exact (FN.out p hp).1), A3, B3⟩
  case round =>
    clear A3 B3
    obtain ⟨i, hi, rfl, HN, HC, A6, BW⟩ := hrel
    by_cases hlt : i < ps.length
    rotate_left
    · obtain rfl : i = ps.length := by omega
      have R := Lib.hid (RY.out HN.out (fun p hp => LD.out p hp (HC.out p hp)))
      go_wp2
      go_ret
      exact ⟨by rw [R.out]; rfl, BW.out⟩
    have hi0 : (0 : Int) ≤ (i : Int) := by omega
    have hi1 : (i : Int) < (ps.length : Int) := by omega
    obtain ⟨gc, _, f1, _, _, z0, _⟩ := (Z.out.below BW.out).spot (k := i) (by rw [HL.out]; exact hlt)
    simp only [Value.slice.injEq] at f1
    obtain ⟨rfl, -, rfl⟩ := f1
    obtain ⟨gp, _, f1, _, _, p0, _⟩ := (P.out.below BW.out).spot hlt
    simp only [Value.slice.injEq] at f1
    obtain ⟨rfl, -, rfl⟩ := f1
    have gA : ∀ (zs : List Int) t (ht : t < zs.length), zs[t] = zs.getD t 0 := fun zs t ht => by rw [List.getD_eq_getElem?_getD, List.getElem?_eq_getElem ht]; rfl
    rw [gA] at z0 p0
    have AT := Lib.hid (show castAt ls ps cs i = hasZ (whoTo ls (ps.getD i 0) ls.length) (cs.getD i 0) by rw [has_who]; rfl)
    have AT2 := Lib.hid (show castAt ls ps cs i = (inB (cs.getD i 0) 0 ((ls.length : Int) - 1) && knowsB (ls.getD (cs.getD i 0).toNat RPlayer.zero) (ps.getD i 0)) from rfl)
    have RX := Lib.hid (RN1.out i hlt)
    have NX := Lib.hid (show castAt ls ps cs i = true → ∀ j, j < i + 1 → castAt ls ps cs j = true from fun e j hj => by
      rcases (by omega : j < i ∨ j = i) with q | rfl
      · exact HN.out j q
      · exact e)
    have hbs := BW.out.size
    have hgl := A6.out.lt.2
    have KW := Lib.hid (CW.out (ps.getD i 0) wr (O.out.below BW.out))
    rw [WK.out] at KW
    have wl := who_len ls (ps.getD i 0) ls.length
    have LN := Lib.hid (fun (k : Nat) (hk : k < 6) (e : cs.getD i 0 = (k : Int)) => lft_next (ls := ls) hk e)
    have CN := Lib.hid (fun (p : Nat) => (show cntI cs (p : Int) (i + 1) = cntI cs (p : Int) i + if cs.getD i 0 = (p : Int) then 1 else 0 from rfl))
    generalize cs.getD i 0 = y at z0 AT AT2 LN CN
    generalize ps.getD i 0 = z at p0 AT AT2 KW wl
    generalize whoTo ls z ls.length = who at AT KW wl
    have WLn := Lib.hid wl
    cases hca : castAt ls ps cs i with
    | false =>
      have R := Lib.hid (RX.out hca)
      have HZ := Lib.hid (AT.out.symm.trans hca)
      clear hca NX AT AT2 RX gA wl LN CN
      go_wp2_with (first
        | (go_at_call 16; refine KW.out.mono ?_; rintro e w4 ⟨vw, rfl, ow, b4⟩; obtain ⟨W4, cw, rfl⟩ := ow.slice; have B4 := Lib.hid (BW.out.trans (b4.mono hbs)); have C4 := Lib.hid (contains_any _ who wr.heap.size w4 ow (by have := WLn.out; omega) y); rw [HZ.out] at C4; clear ow b4)
        | (go_at_call 38; refine C4.out.mono ?_; rintro e w' ⟨rfl, rfl⟩))
      go_ret
      exact ⟨by rw [R.out]; rfl, B4.out⟩
    | true =>
      have N1 := Lib.hid (NX.out hca)
      have HZ := Lib.hid (AT.out.symm.trans hca)
      have hin : inB y 0 ((ls.length : Int) - 1) = true := by
        have q := AT2.out.symm.trans hca
        rw [Bool.and_eq_true] at q
        exact q.1
      have hyr : 0 ≤ y ∧ y ≤ (ls.length : Int) - 1 := by simpa [inB] using hin
      obtain ⟨k, rfl⟩ := Int.eq_ofNat_of_zero_le hyr.1
      have hk : k < ls.length := by omega
      have hk0 : (0 : Int) ≤ (k : Int) := by omega
      have hk6 : (k : Int) < 6 := by omega
      have LA := lft_at ls cs i (p := k) (by omega)
      have SM := cntI_small cs (k : Int) i
      have FK := FN.out k hk
      rw [← getP hk] at FK
      have MO := cntI_mono cs (k : Int) (show i + 1 ≤ ps.length by omega)
      have CK1 := CN.out k
      rw [if_pos rfl] at CK1
      have CK2 := HC.out k hk
      obtain ⟨t, ht⟩ : ∃ t, t = (lft ls cs i).getD k 0 := ⟨_, rfl⟩
      rw [← ht] at LA
      have HT := Lib.hid ht
      clear ht
      by_cases hz : t = 0
      · have R := Lib.hid (RN2.out k hk (by unfold loadFit; rw [HL.out, decide_eq_true (by omega)]; rfl))
        subst hz
        clear hca NX AT AT2 RX gA wl LN CN hin hyr LA SM FK MO CK1 CK2
        go_wp2_with (first
          | (go_at_call 16; refine KW.out.mono ?_; rintro e w4 ⟨vw, rfl, ow, b4⟩; obtain ⟨W4, cw, rfl⟩ := ow.slice; have B4 := Lib.hid (BW.out.trans (b4.mono hbs)); have C4 := Lib.hid (contains_any _ who wr.heap.size w4 ow (by have := WLn.out; omega) (k : Int)); rw [HZ.out] at C4; have y0 := ((A6.out.below b4).spot (k := k) (by omega)).1; rw [← HT.out] at y0; clear ow b4)
          | (go_at_call 38; refine C4.out.mono ?_; rintro e w' ⟨rfl, rfl⟩))
        go_ret
        exact ⟨by rw [R.out]; rfl, B4.out⟩
      · have hzb : (t == 0) = false := by rw [beq_eq_false_iff_ne]; exact hz
        have HC2 := Lib.hid (show ∀ p, p < ls.length → cntI cs (p : Int) (i + 1) ≤ (ls.getD p RPlayer.zero).f1 from fun p hp => by
          rw [CN.out p]
          have := HC.out p hp
          split
          · next e =>
            obtain rfl : k = p := by omega
            omega
          · omega)
        have LN2 := Lib.hid (LN.out k (by omega) rfl)
        rw [← HT.out] at LN2
        have ew : IntKind.i64.wrap (t - 1) = t - 1 := IntWalk.i64_in _ (by omega)
        clear hca NX AT AT2 RX gA wl LN CN hin hyr LA SM FK MO CK1 CK2
        go_wp2_with (first
          | (go_at_call 16; refine KW.out.mono ?_; rintro e w4 ⟨vw, rfl, ow, b4⟩; obtain ⟨W4, cw, rfl⟩ := ow.slice; have B4 := Lib.hid (BW.out.trans (b4.mono hbs)); have C4 := Lib.hid (contains_any _ who wr.heap.size w4 ow (by have := WLn.out; omega) (k : Int)); rw [HZ.out] at C4; obtain ⟨y0, y1⟩ := (A6.out.below b4).spot (k := k) (by omega); rw [← HT.out] at y0; have S4 := Lib.hid ((A6.out.below b4).set k (t - 1)); rw [← LN2.out] at S4; have A7 := Lib.hid S4.out.1; have B5 := Lib.hid (B4.out.grown S4.out.2 B4.out.size (fun q hq => by have := Option.some.inj hq; omega)); clear ow b4 S4)
          | (go_at_call 38; refine C4.out.mono ?_; rintro e w' ⟨rfl, rfl⟩))
        exact ⟨⟨i + 1, by omega, by go_num, N1, HC2, A7, B5⟩, by simp [intOf]; omega⟩
end Go.Proofs.Ytbgogcobkiaejaa
