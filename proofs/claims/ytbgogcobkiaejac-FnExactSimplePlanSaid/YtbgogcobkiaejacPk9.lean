/- Texts of this seat laid together, each with its own first sentence below: PosI TieI TifI. -/
import Derived.Test.YtbgogcobkiaejacPk8
import Derived.Test.YtbgogcobkiaejacPk7
import Derived.Test.YtbgogcobkiaejacPk3
import Derived.Shelf.Abstract
import Derived.Deep.RegionHeld3
/- The contracts of the program's possibleNext and CueOrder. Condition: the cues lie in a row of their own. -/
namespace Go.Proofs.Ytbgogcobkiaejac
set_option linter.unusedVariables false
set_option linter.unusedSimpArgs false
open Go.RowKit

set_option maxRecDepth 100000 in
set_option maxHeartbeats 1600000 in
theorem implPos (v : Value) (ls : List RCue) (b : Nat) (w : World) (h : OwnCue w b v ls) (hl : bulkCue ls ≤ 1048576) (hok : cuesOk ls = true) (D : Nat) (hD : D < 2 ^ 62) :
    Calls Try.prog 64 #[v, .int .u64 (D : Int)] w (IntsPost w (possTo ls D ls.length)) := by
  obtain ⟨A, c, rfl⟩ := h.slice
  have O := Lib.hid h
  clear h
  have hn := (cuesOk_has hok).1.2
  have FA := Lib.hid (fun k (hk : k < ls.length) => (show ∀ i (hi : i < ls[k].f1.length), 0 ≤ ls[k].f1[i] ∧ ls[k].f1[i] ≤ 60 from fun i hi => by have := fine_after ((cuesOk_has hok).2.1 k hk) i hi; omega))
  have RW := Lib.hid (fun k (h : k < ls.length) => (show ls[k].f1.length ≤ 2000000 by have := bulkCue_row ls k h; omega))
  have HK := Lib.hid (fun k (hk : k ≤ 60) W => (setHas D k hk hD W).mono fun e w' h => (show _ ∧ W = w' from ⟨h.1, h.2.symm⟩))
  have HA := Lib.hid (fun v zs W h hl hz => (setHasAll D v zs b W hD h hl hz).mono fun e w' h => (show _ ∧ W = w' from ⟨h.1, h.2.symm⟩))
  have PM := Lib.hid (fun k (hk : k < ls.length) => (show possTo ls D (k + 1) = if (!D.testBit k && holdsAll D ls[k].f1) = true then possTo ls D k ++ [(k : Int)] else possTo ls D k by
    rw [possTo, progB, getC hk]))
  clear hok hl
  go_enter Try.func64, Try.ntmps64
  go_wp2_with fail
  go_loopw [5, 10] (fun ov iv wr => ∃ (k : Nat) (vo : Value), vo = ov ∧ k ≤ ls.length ∧ iv = .int .i64 (k : Int) ∧ Hid (OwnI wr w.heap.size vo (possTo ls D k)) ∧ Hid (Below w.heap.size w wr)) (fun _ iv _ => ls.length - (intOf iv).toNat)
  case atStart => exact ⟨0, _, rfl, by omega, rfl, Lib.hid (nilI _ _), Lib.hid (Below.refl _ _)⟩
  case round =>
    obtain ⟨k, vo, rfl, hk, rfl, OO, BW⟩ := hrel
    by_cases hlt : k < ls.length
    rotate_left
    · obtain rfl : k = ls.length := by omega
      go_wp2
      go_ret
      exact ⟨_, rfl, OO.out, BW.out⟩
    have hk0 : (0 : Int) ≤ (k : Int) := by omega
    have hk1 : (k : Int) < (ls.length : Int) := by omega
    have hcl := possTo_len ls D k
    obtain ⟨g, cg, A1, c1, A2, c2, f1, -, ⟨x0, x1, x2⟩, ⟨o1, -⟩, -, -, -, -⟩ := (O.out.below BW.out).spot hlt
    simp only [Value.slice.injEq] at f1
    obtain ⟨rfl, -, rfl⟩ := f1
    have hr := RW.out k hlt
    have fa := FA.out k hlt
    have NX := Lib.hid (PM.out k hlt)
    have hbs := BW.out.size
    have H1 := Lib.hid (HK.out k (by omega))
    generalize ls[k] = l at x0 x1 x2 o1 hr fa NX
    have BA := Lib.hid (BW.out.alloc hbs (.cells #[.int .i64 l.f0, .slice A1 l.f1.length c1, .slice A2 l.f2.length c2] 33))
    have OA := Lib.hid (OO.out.alloc (.cells #[.int .i64 l.f0, .slice A1 l.f1.length c1, .slice A2 l.f2.length c2] 33))
    have H2 := Lib.hid (HA.out _ l.f1 _ (o1.alloc (.cells #[.int .i64 l.f0, .slice A1 l.f1.length c1, .slice A2 l.f2.length c2] 33)) hr fa)
    clear o1 fa hr
    cases h1 : D.testBit k with
    | true =>
      have N2 := Lib.hid (show possTo ls D (k + 1) = possTo ls D k by rw [NX.out, h1]; rfl)
      rw [h1] at H1
      clear NX h1 H2
      go_wp2_with (go_at_call 79; refine (H1.out _).mono ?_; rintro e w' ⟨rfl, rfl⟩)
      exact ⟨⟨k + 1, vo, rfl, by omega, by go_num, Lib.hid (by rw [N2.out]; exact OA.out), BA⟩, by simp [intOf] <;> omega⟩
    | false =>
      rw [h1] at H1
      cases h2 : holdsAll D l.f1 with
      | false =>
        have N2 := Lib.hid (show possTo ls D (k + 1) = possTo ls D k by rw [NX.out, h1, h2]; rfl)
        rw [h2] at H2
        clear NX h1 h2
        go_wp2_with (first | (go_at_call 79; refine (H1.out _).mono ?_; rintro e w' ⟨rfl, rfl⟩) | (go_at_call 80; refine H2.out.mono ?_; rintro e w' ⟨rfl, rfl⟩))
        exact ⟨⟨k + 1, vo, rfl, by omega, by go_num, Lib.hid (by rw [N2.out]; exact OA.out), BA⟩, by simp [intOf] <;> omega⟩
      | true =>
        have N2 := Lib.hid (show possTo ls D (k + 1) = possTo ls D k ++ [(k : Int)] by rw [NX.out, h1, h2]; rfl)
        have ON := Lib.hid (oneI (wr.alloc (.cells #[.int .i64 l.f0, .slice A1 l.f1.length c1, .slice A2 l.f2.length c2] 33)) (wr.heap.size + 1) (k : Int) (by simp))
        have ON := Lib.hid (show OwnI _ (wr.heap.size + 1) (.slice (some ⟨wr.heap.size + 1, 0, none⟩) 1 1) [(k : Int)] by have h := ON.out; rw [World.size_alloc] at h; exact h)
        have hb2 : w.heap.size ≤ (wr.alloc (.cells #[.int .i64 l.f0, .slice A1 l.f1.length c1, .slice A2 l.f2.length c2] 33)).heap.size := by simp; omega
        rw [h2] at H2
        clear NX h1 h2
        go_wp2_with (first | (go_at_call 79; refine (H1.out _).mono ?_; rintro e w' ⟨rfl, rfl⟩) | (go_at_call 80; refine H2.out.mono ?_; rintro e w' ⟨rfl, rfl⟩) | (at_builtin; refine wpList_rowsI rfl (.tmp 25) (.tmp 27) rfl w.heap.size (wr.heap.size + 1) _ _ (possTo ls D k) [(k : Int)] rfl rfl (OA.out.alloc _) ON.out ?_ ?_ ?_; (simp <;> omega); (simp <;> omega); intro v2 w2 o2 g2 hat2))
        have B2 := Lib.hid (madeR (BA.out.alloc hb2 _) (by simp; omega) (OA.out.alloc _) g2)
        have O2 : Hid (OwnI w2 w.heap.size v2 (possTo ls D (k + 1))) := Lib.hid (N2.out ▸ o2)
        exact ⟨⟨k + 1, v2, rfl, by omega, by go_num, O2, B2⟩, by simp [intOf] <;> omega⟩

set_option maxRecDepth 100000 in
set_option maxHeartbeats 1600000 in
theorem implOrd (v : Value) (ls : List RCue) (b : Nat) (w : World) (h : OwnCue w b v ls) (hl : bulkCue ls ≤ 1048576) :
    Calls Try.prog 43 #[v] w (IntsPost w (cueOrder ls)) := by
  have CK := Lib.hid (implCOk v ls b w h hl)
  have CP := Lib.hid (fun hok W h D hD => implPos v ls b W h hl hok D hD)
  obtain ⟨A, c, rfl⟩ := h.slice
  have O := Lib.hid h
  clear h
  cases hok : cuesOk ls with
  | false =>
    have R := Lib.hid (show cueOrder ls = [] by unfold cueOrder; rw [hok]; rfl)
    rw [hok] at CK
    clear hok CP
    go_enter Try.func43, Try.ntmps43
    go_wp2_with (go_at_call 38; refine CK.out.mono ?_; rintro e w2 ⟨rfl, b2⟩; have B2 := Lib.hid b2; clear b2)
    go_ret
    exact ⟨_, rfl, by rw [R.out]; exact nilI _ _, B2.out⟩
  | true =>
    have hn := (cuesOk_has hok).1.2
    have R := Lib.hid (show cueOrder ls = (ordTo (waitSet ls) ls.length ls.length).1 by unfold cueOrder; rw [if_pos hok])
    have CP := Lib.hid (fun W h D hD => CP.out hok W h D hD)
    have PR := Lib.hid (fun m hm => ord_at hok m hm)
    have PC := Lib.hid (fun m hm => poss_first hok (ord_closed hok m hm) ls.length (Nat.le_refl _))
    have OL := Lib.hid (fun m => ord_len (waitSet ls) ls.length m)
    have OM := Lib.hid (fun m => (show ordTo (waitSet ls) ls.length (m + 1) = ((ordTo (waitSet ls) ls.length m).1 ++ [nextTo (waitSet ls) (ordTo (waitSet ls) ls.length m).2 ls.length], (ordTo (waitSet ls) ls.length m).2 ||| 1 <<< (nextTo (waitSet ls) (ordTo (waitSet ls) ls.length m).2 ls.length).toNat) from rfl))
    have PW := Lib.hid (pow_small hn)
    rw [hok] at CK
    clear hok
    go_enter Try.func43, Try.ntmps43
    go_wp2_with (go_at_call 38; refine CK.out.mono ?_; rintro e w1 ⟨rfl, b1⟩; have B1 := Lib.hid b1; clear b1)
    go_loopw [3, 4, 11] (fun ov dv iv wr => ∃ (m : Nat) (vo : Value), vo = ov ∧ m ≤ ls.length ∧ dv = .int .u64 (((ordTo (waitSet ls) ls.length m).2 : Nat) : Int) ∧ iv = .int .i64 (m : Int) ∧ Hid (OwnI wr w.heap.size vo (ordTo (waitSet ls) ls.length m).1) ∧ Hid (Below w.heap.size w wr)) (fun _ _ iv _ => ls.length - (intOf iv).toNat)
    case atStart => exact ⟨0, _, rfl, by omega, rfl, rfl, Lib.hid (nilI _ _), B1⟩
    case round =>
      clear B1
      obtain ⟨m, vo, rfl, hm, rfl, rfl, OO, BW⟩ := hrel
      by_cases hlt : m < ls.length
      rotate_left
      · obtain rfl : m = ls.length := by omega
        have F := Lib.hid (R.out ▸ OO.out)
        go_wp2
        go_ret
        exact ⟨_, rfl, F.out, BW.out⟩
      have hm0 : (0 : Int) ≤ (m : Int) := by omega
      have hm1 : (m : Int) < (ls.length : Int) := by omega
      obtain ⟨P, hx⟩ := PR.out m (by omega)
      obtain ⟨p, hp, hnx, -⟩ := hx hlt
      have hdl : (ordTo (waitSet ls) ls.length m).2 < 2 ^ 62 := by have := small_of P.low; have := PW.out; omega
      have NX := Lib.hid (show ordTo (waitSet ls) ls.length (m + 1) = ((ordTo (waitSet ls) ls.length m).1 ++ [(p : Int)], (ordTo (waitSet ls) ls.length m).2 ||| 1 <<< p) by rw [OM.out, hnx, Int.toNat_natCast])
      have HP := Lib.hid (show ∃ t, possTo ls (ordTo (waitSet ls) ls.length m).2 ls.length = (p : Int) :: t by
        rcases PC.out m (by omega) with ⟨h1, _⟩ | ⟨_, t, h2⟩
        · omega
        · exact ⟨t, by rw [h2, hnx]⟩)
      have hol := OL.out m
      clear P hx hnx
      generalize (ordTo (waitSet ls) ls.length m).2 = D at HP NX hdl ⊢
      generalize (ordTo (waitSet ls) ls.length m).1 = us at OO NX hol
      obtain ⟨t, ht⟩ := HP.out
      have SW := Lib.hid (fun W => (setWith D p (by omega) hdl W).mono fun e w' h => (show _ ∧ W = w' from ⟨h.1, h.2.symm⟩))
      have N1 := Lib.hid (show (ordTo (waitSet ls) ls.length (m + 1)).1 = us ++ [(p : Int)] by rw [NX.out])
      have N2 := Lib.hid (show (ordTo (waitSet ls) ls.length (m + 1)).2 = D ||| 1 <<< p by rw [NX.out])
      have PP := Lib.hid (CP.out wr (O.out.below BW.out) D hdl)
      rw [ht] at PP
      clear HP ht NX
      generalize D ||| 1 <<< p = E at SW N2
      go_wp2_with fail
      refine PP.out.mono ?_
      rintro e w2 ⟨v2, rfl, o2, b2⟩
      obtain ⟨g2, c2, rfl, -, -, z0, -⟩ := o2.spot (k := 0) (by simp)
      simp only [List.getElem_cons_zero] at z0
      have hlen : (0 : Int) < (((p : Int) :: t).length : Int) := by simp <;> omega
      have B2 := Lib.hid (BW.out.trans (b2.mono BW.out.size))
      have O2 := Lib.hid (OO.out.below b2)
      have hbs := B2.out.size
      have ON := Lib.hid (oneI w2 w2.heap.size (p : Int) (Nat.le_refl _))
      clear o2 b2 OO BW
      generalize ((p : Int) :: t).length = tl at hlen ⊢
      go_wp2_with (first | (go_at_call 65; refine (SW.out _).mono ?_; rintro e w' ⟨rfl, rfl⟩) | (at_builtin; refine wpList_rowsI rfl (.tmp 18) (.tmp 20) rfl w.heap.size w2.heap.size _ _ us [(p : Int)] rfl rfl (O2.out.alloc _) ON.out ?_ ?_ ?_; (simp <;> omega); (simp <;> omega); intro v3 w3 o3 g3 hat3; have B3 := Lib.hid (madeR (B2.out.alloc hbs _) (by simp; omega) (O2.out.alloc _) g3); have O3 : Hid (OwnI w3 w.heap.size v3 (ordTo (waitSet ls) ls.length (m + 1)).1) := Lib.hid (N1.out ▸ o3); clear o3 g3 hat3))
      exact ⟨⟨m + 1, v3, rfl, by omega, by rw [N2.out], by go_num, O3, B3⟩, by simp [intOf] <;> omega⟩
end Go.Proofs.Ytbgogcobkiaejac

/- The contract of the program's earliestStarts, over whatever function says which cue waits for which. Condition: the cues lie in a row of their own and are valid; the function answers p and turns nothing. -/
namespace Go.Proofs.Ytbgogcobkiaejac
set_option linter.unusedVariables false
set_option linter.unusedSimpArgs false
open Go.RowKit

set_option maxRecDepth 100000 in
set_option maxHeartbeats 3200000 in
theorem implEar (gf : Nat) (p : Nat → Nat → Bool) (v : Value) (ls : List RCue) (b : Nat) (w : World) (h : OwnCue w b v ls) (hl : bulkCue ls ≤ 1048576) (hok : cuesOk ls = true)
    (HE : ∀ args W, (callFunc gf args).run Try.prog W = .ok (.enter gf args) W)
    (HC : ∀ W k q, Below w.heap.size w W → k < ls.length → q < ls.length → Calls Try.prog gf #[v, .int .i64 (k : Int), .int .i64 (q : Int)] W fun e w' => e = .returned (.bool (p k q)) ∧ Below W.heap.size W w') :
    Calls Try.prog 39 #[v, .func (.func gf) #[] #[]] w (IntsPost w (earlTo ls p ls.length)) := by
  obtain ⟨i0, hi0, hz0, hz1, hz2⟩ := info_parts info_int
  have CO := Lib.hid (fun W h => implOrd v ls b W h hl)
  obtain ⟨A, c, rfl⟩ := h.slice
  have O := Lib.hid h
  have hn := (cuesOk_has hok).1
  have HOK := Lib.hid hok
  have HCC := Lib.hid HC
  have OLH := Lib.hid (show (cueOrder ls).length = ls.length by unfold cueOrder; rw [if_pos hok, ord_len])
  clear h hok HC
  go_enter Try.func39, Try.ntmps39
  go_wp2_with fail
  refine (CO.out _ O.out).mono ?_
  rintro e w1 ⟨vo, rfl, o1, b1⟩
  obtain ⟨Z, co, e3⟩ := o1.slice
  rw [OLH.out] at e3
  subst e3
  have hpos : 0 < (cueOrder ls).length := by rw [OLH.out]; omega
  obtain ⟨gz, _, f1, -, -, -, -⟩ := o1.spot (k := 0) hpos
  simp only [Value.slice.injEq] at f1
  obtain ⟨rfl, -, rfl⟩ := f1
  have hroom : ls.length ≤ co := by
    rcases o1.2 with ⟨e, _⟩ | ⟨g, cap, cur, e, _, _, h1, _⟩
    · simp at e
    · simp only [Value.slice.injEq] at e
      rw [OLH.out] at h1
      omega
  have Z1 := Lib.hid o1
  have B1 := Lib.hid b1
  have hgz : gz < w1.heap.size := (o1.lt gz rfl).2
  clear o1 b1 CO hpos
  go_wp2_with (
    refine wpList_make_full _ rfl _ _ 26 rfl w1.heap.size 3 i0 (.int .i64 0) 1 Try.underlying26 hi0 hz0 hz1 .i64 .i64 _ _ ls.length rfl rfl rfl rfl (by rw [hz2]; omega) (by simp only [maxLen]; omega) (by simp) ?_
    intro w2 own2 grown2
    have P2 := Lib.hid (show OwnI w2 w1.heap.size (.slice (some ⟨w1.heap.size, 0, none⟩) ls.length ls.length) (earlTo ls p 0) from madeZero own2)
    have Z2 := Lib.hid (Z1.out.below (below_of_grown grown2))
    have B2 := Lib.hid (B1.out.trans ((below_of_grown grown2).mono B1.out.size))
    have hb1 := B1.out.size
    clear own2 grown2 B1 Z1)
  have AF := Lib.hid (show ∀ W, Below w.heap.size w W → OwnCue W b (.slice A ls.length c) ls from fun W hb => O.out.below hb)
  obtain ⟨g1, hg1⟩ : ∃ g1, g1 = w1.heap.size := ⟨_, rfl⟩
  rw [← hg1] at P2 hgz hb1 ⊢
  clear hg1 O
  go_loopw [18] (fun iv wr => ∃ i : Nat, i ≤ ls.length ∧ iv = .int .i64 (i : Int) ∧ Hid (OwnI wr g1 (.slice (some ⟨g1, 0, none⟩) ls.length ls.length) (earlTo ls p i)) ∧ Hid (OwnI wr w.heap.size (.slice (some ⟨gz, 0, none⟩) ls.length co) (cueOrder ls)) ∧ Hid (Below w.heap.size w wr)) (fun iv _ => ls.length - (intOf iv).toNat)
  case atStart => exact ⟨0, by omega, rfl, P2, Z2, B2⟩
  case round =>
    clear P2 Z2 B2
    obtain ⟨i, hi, rfl, PP, ZZ, BW⟩ := hrel
    by_cases hlt : i < ls.length
    rotate_left
    · obtain rfl : i = ls.length := by omega
      go_wp2
      go_ret
      exact ⟨_, rfl, PP.out.mono hb1, BW.out⟩
    have hi0' : (0 : Int) ≤ (i : Int) := by omega
    have hi1 : (i : Int) < (ls.length : Int) := by omega
    have hi2 : (i : Int) ≤ (co : Int) := by omega
    obtain ⟨k, hk, hke⟩ := order_get HOK.out hlt
    obtain ⟨_, _, f1, -, -, z0, -⟩ := ZZ.out.spot (k := i) (by rw [OLH.out]; exact hlt)
    simp only [Value.slice.injEq, Option.some.injEq, Addr.mk.injEq] at f1
    obtain ⟨⟨rfl, -⟩, -, -⟩ := f1
    rw [show (cueOrder ls)[i]'(by rw [OLH.out]; exact hlt) = (k : Int) from by rw [List.getElem?_eq_getElem (by rw [OLH.out]; exact hlt)] at hke; exact Option.some.inj hke] at z0
    have NX := Lib.hid (show earlTo ls p (i + 1) = earTo ls p k (earlTo ls p i) i by rw [earlTo]; rw [List.getD_eq_getElem?_getD, hke]; rfl)
    have hk0 : (0 : Int) ≤ (k : Int) := by omega
    have hk1 : (k : Int) < (ls.length : Int) := by omega
    have P5 := Lib.hid (show OwnI wr g1 (.slice (some ⟨g1, 0, none⟩) ls.length ls.length) (earTo ls p k (earlTo ls p i) 0) from PP.out)
    have RI := Lib.hid (ear_in HOK.out p hk (earl_in HOK.out p i (by omega)) (by omega))
    have RL := Lib.hid (fun j => (show (earTo ls p k (earlTo ls p i) j).length = ls.length by rw [ear_len, earl_len]))
    clear hke PP
    generalize earlTo ls p i = start at NX P5 RI RL
    go_wp2_with fail
    go_loopw [27] (fun jv wr => ∃ j : Nat, j ≤ i ∧ jv = .int .i64 (j : Int) ∧ Hid (OwnI wr g1 (.slice (some ⟨g1, 0, none⟩) ls.length ls.length) (earTo ls p k start j)) ∧ Hid (OwnI wr w.heap.size (.slice (some ⟨gz, 0, none⟩) ls.length co) (cueOrder ls)) ∧ Hid (Below w.heap.size w wr)) (fun jv _ => i - (intOf jv).toNat)
    case atStart => exact ⟨0, by omega, rfl, P5, ZZ, BW⟩
    case round =>
      clear P5 ZZ BW z0
      obtain ⟨j, hj, rfl, PP, ZZ, BW⟩ := hrel
      by_cases hlj : j < i
      rotate_left
      · obtain rfl : j = i := by omega
        rw [← NX.out] at PP
        clear NX
        go_wp2
        exact ⟨⟨j + 1, by omega, by go_num, PP, ZZ, BW⟩, by simp [intOf]; omega⟩
      have hj0 : (0 : Int) ≤ (j : Int) := by omega
      have hj1 : (j : Int) < (i : Int) := by omega
      obtain ⟨q, hq, hqe⟩ := order_get HOK.out (i := j) (by omega)
      obtain ⟨_, _, f1, -, -, y0, -⟩ := ZZ.out.spot (k := j) (by rw [OLH.out]; omega)
      simp only [Value.slice.injEq, Option.some.injEq, Addr.mk.injEq] at f1
      obtain ⟨⟨rfl, -⟩, -, -⟩ := f1
      rw [show (cueOrder ls)[j]'(by rw [OLH.out]; omega) = (q : Int) from by rw [List.getElem?_eq_getElem (by rw [OLH.out]; omega)] at hqe; exact Option.some.inj hqe] at y0
      have hq0 : (0 : Int) ≤ (q : Int) := by omega
      have hq1 : (q : Int) < (ls.length : Int) := by omega
      have STEP := Lib.hid (show earTo ls p k start (j + 1) = if p k q = true then (earTo ls p k start j).set k (if (earTo ls p k start j).getD k 0 < (earTo ls p k start j).getD q 0 + (ls.getD q RCue.zero).f0 then (earTo ls p k start j).getD q 0 + (ls.getD q RCue.zero).f0 else (earTo ls p k start j).getD k 0) else earTo ls p k start j by
        rw [earTo]; try simp only
        rw [List.getD_eq_getElem?_getD (l := cueOrder ls), hqe]; rfl)
      have CC := Lib.hid (HCC.out wr k q BW.out hk hq)
      clear hqe
      cases hp : p k q with
      | false =>
        have S2 := Lib.hid (show earTo ls p k start (j + 1) = earTo ls p k start j by rw [STEP.out, hp]; rfl)
        rw [hp] at CC
        clear STEP hp
        go_wp2_with fail
        refine CC.out.mono ?_
        rintro e w4 ⟨rfl, b4⟩
        have P4 := Lib.hid (S2.out.symm ▸ PP.out.below b4)
        have Z4 := Lib.hid (ZZ.out.below b4)
        have B4 := Lib.hid (BW.out.trans (b4.mono BW.out.size))
        clear b4 PP ZZ BW y0
        go_wp2
        exact ⟨⟨j + 1, by omega, by go_num, P4, Z4, B4⟩, by simp [intOf]; omega⟩
      | true =>
        have S2 := Lib.hid (show earTo ls p k start (j + 1) = (earTo ls p k start j).set k (if (earTo ls p k start j).getD k 0 < (earTo ls p k start j).getD q 0 + (ls.getD q RCue.zero).f0 then (earTo ls p k start j).getD q 0 + (ls.getD q RCue.zero).f0 else (earTo ls p k start j).getD k 0) by rw [STEP.out, hp]; rfl)
        rw [hp] at CC
        clear STEP hp
        go_wp2_with fail
        refine CC.out.mono ?_
        rintro e w4 ⟨rfl, b4⟩
        have P4 := Lib.hid (PP.out.below b4)
        have Z4 := Lib.hid (ZZ.out.below b4)
        have B4 := Lib.hid (BW.out.trans (b4.mono BW.out.size))
        clear b4 PP ZZ BW y0
        obtain ⟨g, _, _, _, _, _, f1, -, ⟨t0, -, -⟩, -⟩ := (AF.out _ B4.out).spot hq
        simp only [Value.slice.injEq] at f1
        obtain ⟨rfl, -, -⟩ := f1
        rw [show ls[q] = ls.getD q RCue.zero from by rw [List.getD_eq_getElem?_getD, List.getElem?_eq_getElem hq]; rfl] at t0
        have ft := (cue_fine HOK.out hq).1
        have hrl := RL.out j
        have hin := RI.out j (by omega)
        have r1 := hin k
        have r2 := hin q
        have gA : ∀ (zs : List Int) t (ht : t < zs.length), zs[t] = zs.getD t 0 := fun zs t ht => by rw [List.getD_eq_getElem?_getD, List.getElem?_eq_getElem ht]; rfl
        obtain ⟨_, _, f1, -, -, u0, uf⟩ := P4.out.spot (k := k) (by rw [hrl]; exact hk)
        simp only [Value.slice.injEq, Option.some.injEq, Addr.mk.injEq] at f1
        obtain ⟨⟨rfl, -⟩, -, -⟩ := f1
        obtain ⟨_, _, f1, -, -, v0, -⟩ := P4.out.spot (k := q) (by rw [hrl]; exact hq)
        simp only [Value.slice.injEq, Option.some.injEq, Addr.mk.injEq] at f1
        obtain ⟨⟨rfl, -⟩, -, -⟩ := f1
        rw [gA] at u0 v0
        have SET := P4.out.set (by rw [hrl]) k (if (earTo ls p k start j).getD k 0 < (earTo ls p k start j).getD q 0 + (ls.getD q RCue.zero).f0 then (earTo ls p k start j).getD q 0 + (ls.getD q RCue.zero).f0 else (earTo ls p k start j).getD k 0)
        rw [← S2.out] at SET
        have hbs2 := B4.out.size
        have S3 := Lib.hid SET.1
        have B3 := Lib.hid (B4.out.grown SET.2 hbs2 (fun q hq => by have := Option.some.inj hq; omega))
        have Z3 := Lib.hid (Z4.out.kept SET.2 (sep_of fun q e1 e2 => by have e1 := Option.some.inj e1; have := Option.some.inj e2; simp only at e1; omega))
        clear SET S2 gA hin hrl P4 Z4 B4
        generalize (earTo ls p k start j).getD k 0 = x at u0 r1 S3 B3 Z3
        generalize (earTo ls p k start j).getD q 0 = y at v0 r2 S3 B3 Z3
        generalize (ls.getD q RCue.zero).f0 = t at t0 ft S3 B3 Z3
        have ew : IntKind.i64.wrap (y + t) = y + t := IntWalk.i64_in _ (by omega)
        go_wp2_with fail
        go_still_tail 18, (by kernel_rfl)
        go_wp2
        exact ⟨⟨j + 1, by omega, by go_num, Lib.hid (S3.out.below (Below.refl _ _).drew), Lib.hid (Z3.out.below (Below.refl _ _).drew), Lib.hid B3.out.drew⟩, by simp [intOf]; omega⟩
end Go.Proofs.Ytbgogcobkiaejac

/- The contracts of the program's StartsOf, SimplePlan and PlayTime (made by gen_tif.py): they answer as the model does. Condition: the cues lie in a row of their own. -/
namespace Go.Proofs.Ytbgogcobkiaejac
set_option linter.unusedVariables false
set_option linter.unusedSimpArgs false
open Go.RowKit

set_option maxRecDepth 100000 in
set_option maxHeartbeats 800000 in
theorem implSta (v : Value) (ls : List RCue) (b : Nat) (w : World) (h : OwnCue w b v ls) (hl : bulkCue ls ≤ 1048576) :
    Calls Try.prog 12 #[v] w (IntsPost w (startsOf ls)) := by
  have CK := Lib.hid (implCOk v ls b w h hl)
  have CE := Lib.hid (fun hok W (hw : OwnCue W b v ls) => implEar 40 (waitP ls) v ls b W hw hl hok (enters_of Try.func40 (by kernel_rfl) rfl) (fun W2 k q hb hk hq => implWts v ls b W2 (hw.below hb) hl k q hk))
  obtain ⟨A, c, rfl⟩ := h.slice
  have O := Lib.hid h
  clear h
  cases hok : cuesOk ls with
  | false =>
    have R := Lib.hid (show startsOf ls = [] by unfold startsOf; rw [hok]; rfl)
    rw [hok] at CK
    clear hok CE
    go_enter Try.func12, Try.ntmps12
    go_wp2_with (go_at_call 38; refine CK.out.mono ?_; rintro e w2 ⟨rfl, b2⟩; have B2 := Lib.hid b2; clear b2)
    go_ret
    exact ⟨_, rfl, by rw [R.out]; exact nilI _ _, B2.out⟩
  | true =>
    have R := Lib.hid (show startsOf ls = earlTo ls (waitP ls) ls.length by unfold startsOf; rw [if_pos hok, earl_starts hok _ (Nat.le_refl _)])
    have CE := Lib.hid (fun W h => CE.out hok W h)
    rw [hok] at CK
    clear hok
    go_enter Try.func12, Try.ntmps12
    go_wp2_with (go_at_call 38; refine CK.out.mono ?_; rintro e w2 ⟨rfl, b2⟩; have B2 := Lib.hid b2; have O2 := Lib.hid (O.out.below b2); clear b2)
    refine (CE.out _ O2.out).mono ?_
    rintro e w3 ⟨v3, rfl, o3, b3⟩
    have B3 := Lib.hid (B2.out.trans (b3.mono B2.out.size))
    have O3 := Lib.hid (o3.mono B2.out.size)
    clear o3 b3
    go_wp2
    go_ret
    exact ⟨_, rfl, by rw [R.out]; exact O3.out, B3.out⟩

set_option maxRecDepth 100000 in
set_option maxHeartbeats 3200000 in
/-- The function literal of SimplePlan. -/
theorem implLit (v : Value) (ls : List RCue) (b : Nat) (w : World) (h : OwnCue w b v ls) (hl : bulkCue ls ≤ 1048576) (k q : Nat) (hk : k < ls.length) (hq : q < ls.length) :
    Calls Try.prog 46 #[v, .int .i64 (k : Int), .int .i64 (q : Int)] w fun e w' => e = .returned (.bool (waitP ls k q || comP ls k q)) ∧ Below w.heap.size w w' := by
  have CW := Lib.hid (implWts v ls b w.drew (h.below (Below.refl _ _).drew) hl k q hk)
  have hr1 : ls[k].f2.length ≤ 2000000 := by have := bulkCue_row ls k hk; omega
  have hr2 : ls[q].f2.length ≤ 2000000 := by have := bulkCue_row ls q hq; omega
  have CP := Lib.hid (show comP ls k q = commonB ls[k].f2 ls[q].f2 by unfold comP; rw [List.getD_eq_getElem?_getD, List.getElem?_eq_getElem hk, List.getD_eq_getElem?_getD, List.getElem?_eq_getElem hq]; rfl)
  obtain ⟨A, c, rfl⟩ := h.slice
  have hk0 : (0 : Int) ≤ (k : Int) := by omega
  have hk1 : (k : Int) < (ls.length : Int) := by omega
  have hq0 : (0 : Int) ≤ (q : Int) := by omega
  have hq1 : (q : Int) < (ls.length : Int) := by omega
  obtain ⟨g, _, X1, c1, Y1, e1, f1, -, ⟨x0, x1, x2⟩, ⟨-, ox⟩, -⟩ := h.spot hk
  simp only [Value.slice.injEq] at f1
  obtain ⟨rfl, -, rfl⟩ := f1
  obtain ⟨_, _, X2, c2, Y2, e2, f1, -, ⟨y0, y1, y2⟩, ⟨-, oy⟩, -⟩ := h.spot hq
  simp only [Value.slice.injEq, Option.some.injEq, Addr.mk.injEq] at f1
  obtain ⟨⟨rfl, -⟩, -, -⟩ := f1
  clear h
  generalize ls[k].f0 = t1 at x0
  generalize ls[q].f0 = t2 at y0
  generalize ls[k].f1.length = n1 at x1
  generalize ls[q].f1.length = n2 at y1
  generalize ls[k].f2 = xs at x2 ox CP hr1
  generalize ls[q].f2 = ys at y2 oy CP hr2
  have H1 := Lib.hid ox
  have H2 := Lib.hid oy
  have CC := Lib.hid (fun W h1 h2 => implHav t1 t2 X1 X2 n1 c1 n2 c2 (.slice Y1 xs.length e1) (.slice Y2 ys.length e2) xs ys b b W h1 h2 hr1 hr2)
  have KF := Lib.hid (show ∀ W, Below w.heap.size w W → (W.cell? ⟨g, k * 3, none⟩ = some (.int .i64 t1) ∧ W.cell? ⟨g, k * 3 + 1, none⟩ = some (.slice X1 n1 c1) ∧ W.cell? ⟨g, k * 3 + 2, none⟩ = some (.slice Y1 xs.length e1)) ∧ (W.cell? ⟨g, q * 3, none⟩ = some (.int .i64 t2) ∧ W.cell? ⟨g, q * 3 + 1, none⟩ = some (.slice X2 n2 c2) ∧ W.cell? ⟨g, q * 3 + 2, none⟩ = some (.slice Y2 ys.length e2)) from fun W hb => ⟨⟨cell_below x0 hb, cell_below x1 hb, cell_below x2 hb⟩, ⟨cell_below y0 hb, cell_below y1 hb, cell_below y2 hb⟩⟩)
  have K00 := Lib.hid (KF.out _ (Below.refl _ _))
  rw [CP.out]
  clear ox oy x0 x1 x2 y0 y1 y2 CP
  cases hw : waitP ls k q with
  | true =>
    rw [hw] at CW
    clear hw CC
    go_enter Try.func46, Try.ntmps46
    go_wp2_with fail
    refine wp_region_held_drew (S := (fun W => (W.cell? ⟨g, k * 3, none⟩ = some (.int .i64 t1) ∧ W.cell? ⟨g, k * 3 + 1, none⟩ = some (.slice X1 n1 c1) ∧ W.cell? ⟨g, k * 3 + 2, none⟩ = some (.slice Y1 xs.length e1)) ∧ (W.cell? ⟨g, q * 3, none⟩ = some (.int .i64 t2) ∧ W.cell? ⟨g, q * 3 + 1, none⟩ = some (.slice X2 n2 c2) ∧ W.cell? ⟨g, q * 3 + 2, none⟩ = some (.slice Y2 ys.length e2)))) (by kernel_rfl) (by have := K00.out; simpa using this) (fun hHeld => ?_)
    refine wpAnyH_take (i := 0) (v := .slice (some ⟨g, 0, none⟩) ls.length c) rfl (by kernel_rfl) (by kernel_rfl) (by kernel_rfl) (fun _ _ _ h => h) (Or.inl ⟨by rfl, by intro W hSw; (try dsimp only at hSw); go_simp⟩) hHeld ?_
    try simp only [Act.put, List.getElem_toArray, List.getElem_cons_succ, List.getElem_cons_zero, List.setIfInBounds_toArray, List.set_cons_zero, List.set_cons_succ]
    refine wpAnyH_take (i := 1) (v := .int .i64 (k : Int)) rfl (by kernel_rfl) (by kernel_rfl) (by kernel_rfl) (fun _ _ _ h => h) (Or.inl ⟨by rfl, by intro W hSw; (try dsimp only at hSw); go_simp⟩) hHeld ?_
    try simp only [Act.put, List.getElem_toArray, List.getElem_cons_succ, List.getElem_cons_zero, List.setIfInBounds_toArray, List.set_cons_zero, List.set_cons_succ]
    refine wpAnyH_take (i := 2) (v := .int .i64 (q : Int)) rfl (by kernel_rfl) (by kernel_rfl) (by kernel_rfl) (fun _ _ _ h => h) (Or.inl ⟨by rfl, by intro W hSw; (try dsimp only at hSw); go_simp⟩) hHeld ?_
    try simp only [Act.put, List.getElem_toArray, List.getElem_cons_succ, List.getElem_cons_zero, List.setIfInBounds_toArray, List.set_cons_zero, List.set_cons_succ]
    refine wpAnyH_ready (rs := [3]) (by kernel_rfl) (by simp) ?_
    refine AllReadyH.cons rfl (fun K hK => ?_) AllReadyH.nil
    go_simp
    refine CW.out.mono ?_
    rintro e w3 ⟨rfl, b3⟩
    replace b3 := undrew b3
    have F3 := Lib.hid (KF.out _ b3)
    have B3 := Lib.hid b3
    clear b3
    go_wp2_with fail
    refine hK.out _ _ F3.out (fun hHeld => ?_)
    clear hK K
    try simp only [Act.put, List.getElem_toArray, List.getElem_cons_succ, List.getElem_cons_zero, List.setIfInBounds_toArray, List.set_cons_zero, List.set_cons_succ]
    refine wpAnyH_take (i := 4) (v := .bool true) rfl (by kernel_rfl) (by kernel_rfl) (by kernel_rfl) (fun _ _ _ h => h) (Or.inl ⟨by rfl, by intro W hSw; (try dsimp only at hSw); go_simp⟩) hHeld ?_
    try simp only [Act.put, List.getElem_toArray, List.getElem_cons_succ, List.getElem_cons_zero, List.setIfInBounds_toArray, List.set_cons_zero, List.set_cons_succ]
    refine wpAnyH_take (i := 5) (v := undef) rfl (by kernel_rfl) (by kernel_rfl) (by kernel_rfl) (fun _ _ _ h => h) (Or.inr ⟨by rfl, rfl⟩) hHeld ?_
    try simp only [Act.put, List.getElem_toArray, List.getElem_cons_succ, List.getElem_cons_zero, List.setIfInBounds_toArray, List.set_cons_zero, List.set_cons_succ]
    refine wpAnyH_take (i := 6) (v := undef) rfl (by kernel_rfl) (by kernel_rfl) (by kernel_rfl) (fun _ _ _ h => h) (Or.inr ⟨by rfl, rfl⟩) hHeld ?_
    try simp only [Act.put, List.getElem_toArray, List.getElem_cons_succ, List.getElem_cons_zero, List.setIfInBounds_toArray, List.set_cons_zero, List.set_cons_succ]
    refine wpAnyH_take (i := 7) (v := undef) rfl (by kernel_rfl) (by kernel_rfl) (by kernel_rfl) (fun _ _ _ h => h) (Or.inr ⟨by rfl, rfl⟩) hHeld ?_
    try simp only [Act.put, List.getElem_toArray, List.getElem_cons_succ, List.getElem_cons_zero, List.setIfInBounds_toArray, List.set_cons_zero, List.set_cons_succ]
    refine wpAnyH_take (i := 8) (v := undef) rfl (by kernel_rfl) (by kernel_rfl) (by kernel_rfl) (fun _ _ _ h => h) (Or.inr ⟨by rfl, rfl⟩) hHeld ?_
    try simp only [Act.put, List.getElem_toArray, List.getElem_cons_succ, List.getElem_cons_zero, List.setIfInBounds_toArray, List.set_cons_zero, List.set_cons_succ]
    refine wpAnyH_take (i := 9) (v := undef) rfl (by kernel_rfl) (by kernel_rfl) (by kernel_rfl) (fun _ _ _ h => h) (Or.inr ⟨by rfl, rfl⟩) hHeld ?_
    try simp only [Act.put, List.getElem_toArray, List.getElem_cons_succ, List.getElem_cons_zero, List.setIfInBounds_toArray, List.set_cons_zero, List.set_cons_succ]
    refine wpAnyH_take (i := 10) (v := undef) rfl (by kernel_rfl) (by kernel_rfl) (by kernel_rfl) (fun _ _ _ h => h) (Or.inr ⟨by rfl, rfl⟩) hHeld ?_
    try simp only [Act.put, List.getElem_toArray, List.getElem_cons_succ, List.getElem_cons_zero, List.setIfInBounds_toArray, List.set_cons_zero, List.set_cons_succ]
    refine wpAnyH_take (i := 11) (v := undef) rfl (by kernel_rfl) (by kernel_rfl) (by kernel_rfl) (fun _ _ _ h => h) (Or.inr ⟨by rfl, rfl⟩) hHeld ?_
    try simp only [Act.put, List.getElem_toArray, List.getElem_cons_succ, List.getElem_cons_zero, List.setIfInBounds_toArray, List.set_cons_zero, List.set_cons_succ]
    refine wpAnyH_take (i := 12) (v := undef) rfl (by kernel_rfl) (by kernel_rfl) (by kernel_rfl) (fun _ _ _ h => h) (Or.inr ⟨by rfl, rfl⟩) hHeld ?_
    try simp only [Act.put, List.getElem_toArray, List.getElem_cons_succ, List.getElem_cons_zero, List.setIfInBounds_toArray, List.set_cons_zero, List.set_cons_succ]
    refine wpAnyH_take (i := 13) (v := undef) rfl (by kernel_rfl) (by kernel_rfl) (by kernel_rfl) (fun _ _ _ h => h) (Or.inr ⟨by rfl, rfl⟩) hHeld ?_
    try simp only [Act.put, List.getElem_toArray, List.getElem_cons_succ, List.getElem_cons_zero, List.setIfInBounds_toArray, List.set_cons_zero, List.set_cons_succ]
    refine wpAnyH_take (i := 14) (v := .bool true) rfl (by kernel_rfl) (by kernel_rfl) (by kernel_rfl) (fun _ _ _ h => h) (Or.inl ⟨by rfl, by intro W hSw; (try dsimp only at hSw); go_simp⟩) hHeld ?_
    try simp only [Act.put, List.getElem_toArray, List.getElem_cons_succ, List.getElem_cons_zero, List.setIfInBounds_toArray, List.set_cons_zero, List.set_cons_succ]
    refine wpAnyH_take (i := 15) (v := .bool true) rfl (by kernel_rfl) (by kernel_rfl) (by kernel_rfl) (fun _ _ _ h => h) (Or.inl ⟨by rfl, by intro W hSw; (try dsimp only at hSw); go_simp⟩) hHeld ?_
    try simp only [Act.put, List.getElem_toArray, List.getElem_cons_succ, List.getElem_cons_zero, List.setIfInBounds_toArray, List.set_cons_zero, List.set_cons_succ]
    refine wpAnyH_done (by kernel_rfl) ?_ _
    go_wp2
    go_ret
    exact ⟨rfl, B3.out⟩
  | false =>
    rw [hw] at CW
    clear hw
    cases hc : commonB xs ys with
    | true =>
      rw [hc] at CC
      clear hc
      go_enter Try.func46, Try.ntmps46
      go_wp2_with fail
      refine wp_region_held_drew (S := (fun W => (W.cell? ⟨g, k * 3, none⟩ = some (.int .i64 t1) ∧ W.cell? ⟨g, k * 3 + 1, none⟩ = some (.slice X1 n1 c1) ∧ W.cell? ⟨g, k * 3 + 2, none⟩ = some (.slice Y1 xs.length e1)) ∧ (W.cell? ⟨g, q * 3, none⟩ = some (.int .i64 t2) ∧ W.cell? ⟨g, q * 3 + 1, none⟩ = some (.slice X2 n2 c2) ∧ W.cell? ⟨g, q * 3 + 2, none⟩ = some (.slice Y2 ys.length e2)))) (by kernel_rfl) (by have := K00.out; simpa using this) (fun hHeld => ?_)
      refine wpAnyH_take (i := 0) (v := .slice (some ⟨g, 0, none⟩) ls.length c) rfl (by kernel_rfl) (by kernel_rfl) (by kernel_rfl) (fun _ _ _ h => h) (Or.inl ⟨by rfl, by intro W hSw; (try dsimp only at hSw); go_simp⟩) hHeld ?_
      try simp only [Act.put, List.getElem_toArray, List.getElem_cons_succ, List.getElem_cons_zero, List.setIfInBounds_toArray, List.set_cons_zero, List.set_cons_succ]
      refine wpAnyH_take (i := 1) (v := .int .i64 (k : Int)) rfl (by kernel_rfl) (by kernel_rfl) (by kernel_rfl) (fun _ _ _ h => h) (Or.inl ⟨by rfl, by intro W hSw; (try dsimp only at hSw); go_simp⟩) hHeld ?_
      try simp only [Act.put, List.getElem_toArray, List.getElem_cons_succ, List.getElem_cons_zero, List.setIfInBounds_toArray, List.set_cons_zero, List.set_cons_succ]
      refine wpAnyH_take (i := 2) (v := .int .i64 (q : Int)) rfl (by kernel_rfl) (by kernel_rfl) (by kernel_rfl) (fun _ _ _ h => h) (Or.inl ⟨by rfl, by intro W hSw; (try dsimp only at hSw); go_simp⟩) hHeld ?_
      try simp only [Act.put, List.getElem_toArray, List.getElem_cons_succ, List.getElem_cons_zero, List.setIfInBounds_toArray, List.set_cons_zero, List.set_cons_succ]
      refine wpAnyH_ready (rs := [3]) (by kernel_rfl) (by simp) ?_
      refine AllReadyH.cons rfl (fun K hK => ?_) AllReadyH.nil
      go_simp
      refine CW.out.mono ?_
      rintro e w3 ⟨rfl, b3⟩
      replace b3 := undrew b3
      have F3 := Lib.hid (KF.out _ b3)
      have B3 := Lib.hid b3
      clear b3
      go_wp2_with fail
      refine hK.out _ _ F3.out (fun hHeld => ?_)
      clear hK K
      try simp only [Act.put, List.getElem_toArray, List.getElem_cons_succ, List.getElem_cons_zero, List.setIfInBounds_toArray, List.set_cons_zero, List.set_cons_succ]
      refine wpAnyH_take (i := 4) (v := .bool false) rfl (by kernel_rfl) (by kernel_rfl) (by kernel_rfl) (fun _ _ _ h => h) (Or.inl ⟨by rfl, by intro W hSw; (try dsimp only at hSw); go_simp⟩) hHeld ?_
      try simp only [Act.put, List.getElem_toArray, List.getElem_cons_succ, List.getElem_cons_zero, List.setIfInBounds_toArray, List.set_cons_zero, List.set_cons_succ]
      refine wpAnyH_take (i := 5) (v := .slice (some ⟨g, 0, none⟩) ls.length c) rfl (by kernel_rfl) (by kernel_rfl) (by kernel_rfl) (fun _ _ _ h => h) (Or.inl ⟨by rfl, by intro W hSw; (try dsimp only at hSw); go_simp⟩) hHeld ?_
      try simp only [Act.put, List.getElem_toArray, List.getElem_cons_succ, List.getElem_cons_zero, List.setIfInBounds_toArray, List.set_cons_zero, List.set_cons_succ]
      refine wpAnyH_take (i := 6) (v := .int .i64 (k : Int)) rfl (by kernel_rfl) (by kernel_rfl) (by kernel_rfl) (fun _ _ _ h => h) (Or.inl ⟨by rfl, by intro W hSw; (try dsimp only at hSw); go_simp⟩) hHeld ?_
      try simp only [Act.put, List.getElem_toArray, List.getElem_cons_succ, List.getElem_cons_zero, List.setIfInBounds_toArray, List.set_cons_zero, List.set_cons_succ]
      refine wpAnyH_take (i := 7) (v := .pointer (some ⟨g, k * 3, none⟩)) rfl (by kernel_rfl) (by kernel_rfl) (by kernel_rfl) (fun _ _ _ h => h) (Or.inl ⟨by rfl, by intro W hSw; (try dsimp only at hSw); go_simp⟩) hHeld ?_
      try simp only [Act.put, List.getElem_toArray, List.getElem_cons_succ, List.getElem_cons_zero, List.setIfInBounds_toArray, List.set_cons_zero, List.set_cons_succ]
      refine wpAnyH_take (i := 8) (v := .agg #[.int .i64 t1, .slice X1 n1 c1, .slice Y1 xs.length e1]) rfl (by kernel_rfl) (by kernel_rfl) (by kernel_rfl) (fun _ _ _ h => h) (Or.inl ⟨by rfl, by intro W hSw; (try dsimp only at hSw); go_simp⟩) hHeld ?_
      try simp only [Act.put, List.getElem_toArray, List.getElem_cons_succ, List.getElem_cons_zero, List.setIfInBounds_toArray, List.set_cons_zero, List.set_cons_succ]
      refine wpAnyH_take (i := 9) (v := .slice (some ⟨g, 0, none⟩) ls.length c) rfl (by kernel_rfl) (by kernel_rfl) (by kernel_rfl) (fun _ _ _ h => h) (Or.inl ⟨by rfl, by intro W hSw; (try dsimp only at hSw); go_simp⟩) hHeld ?_
      try simp only [Act.put, List.getElem_toArray, List.getElem_cons_succ, List.getElem_cons_zero, List.setIfInBounds_toArray, List.set_cons_zero, List.set_cons_succ]
      refine wpAnyH_take (i := 10) (v := .int .i64 (q : Int)) rfl (by kernel_rfl) (by kernel_rfl) (by kernel_rfl) (fun _ _ _ h => h) (Or.inl ⟨by rfl, by intro W hSw; (try dsimp only at hSw); go_simp⟩) hHeld ?_
      try simp only [Act.put, List.getElem_toArray, List.getElem_cons_succ, List.getElem_cons_zero, List.setIfInBounds_toArray, List.set_cons_zero, List.set_cons_succ]
      refine wpAnyH_take (i := 11) (v := .pointer (some ⟨g, q * 3, none⟩)) rfl (by kernel_rfl) (by kernel_rfl) (by kernel_rfl) (fun _ _ _ h => h) (Or.inl ⟨by rfl, by intro W hSw; (try dsimp only at hSw); go_simp⟩) hHeld ?_
      try simp only [Act.put, List.getElem_toArray, List.getElem_cons_succ, List.getElem_cons_zero, List.setIfInBounds_toArray, List.set_cons_zero, List.set_cons_succ]
      refine wpAnyH_take (i := 12) (v := .agg #[.int .i64 t2, .slice X2 n2 c2, .slice Y2 ys.length e2]) rfl (by kernel_rfl) (by kernel_rfl) (by kernel_rfl) (fun _ _ _ h => h) (Or.inl ⟨by rfl, by intro W hSw; (try dsimp only at hSw); go_simp⟩) hHeld ?_
      try simp only [Act.put, List.getElem_toArray, List.getElem_cons_succ, List.getElem_cons_zero, List.setIfInBounds_toArray, List.set_cons_zero, List.set_cons_succ]
      refine wpAnyH_ready (rs := [13]) (by kernel_rfl) (by simp) ?_
      refine AllReadyH.cons rfl (fun K hK => ?_) AllReadyH.nil
      go_simp
      refine (CC.out _ (H1.out.below B3.out) (H2.out.below B3.out)).mono ?_
      rintro e w4 ⟨rfl, b4⟩
      have B4 := Lib.hid (B3.out.trans (b4.mono B3.out.size))
      have F4 := Lib.hid (KF.out _ B4.out)
      clear b4
      go_wp2_with fail
      refine hK.out _ _ F4.out (fun hHeld => ?_)
      clear hK K
      try simp only [Act.put, List.getElem_toArray, List.getElem_cons_succ, List.getElem_cons_zero, List.setIfInBounds_toArray, List.set_cons_zero, List.set_cons_succ]
      refine wpAnyH_take (i := 14) (v := .bool true) rfl (by kernel_rfl) (by kernel_rfl) (by kernel_rfl) (fun _ _ _ h => h) (Or.inl ⟨by rfl, by intro W hSw; (try dsimp only at hSw); go_simp⟩) hHeld ?_
      try simp only [Act.put, List.getElem_toArray, List.getElem_cons_succ, List.getElem_cons_zero, List.setIfInBounds_toArray, List.set_cons_zero, List.set_cons_succ]
      refine wpAnyH_take (i := 15) (v := .bool true) rfl (by kernel_rfl) (by kernel_rfl) (by kernel_rfl) (fun _ _ _ h => h) (Or.inl ⟨by rfl, by intro W hSw; (try dsimp only at hSw); go_simp⟩) hHeld ?_
      try simp only [Act.put, List.getElem_toArray, List.getElem_cons_succ, List.getElem_cons_zero, List.setIfInBounds_toArray, List.set_cons_zero, List.set_cons_succ]
      refine wpAnyH_done (by kernel_rfl) ?_ _
      go_wp2
      go_ret
      exact ⟨rfl, B4.out⟩
    | false =>
      rw [hc] at CC
      clear hc
      go_enter Try.func46, Try.ntmps46
      go_wp2_with fail
      refine wp_region_held_drew (S := (fun W => (W.cell? ⟨g, k * 3, none⟩ = some (.int .i64 t1) ∧ W.cell? ⟨g, k * 3 + 1, none⟩ = some (.slice X1 n1 c1) ∧ W.cell? ⟨g, k * 3 + 2, none⟩ = some (.slice Y1 xs.length e1)) ∧ (W.cell? ⟨g, q * 3, none⟩ = some (.int .i64 t2) ∧ W.cell? ⟨g, q * 3 + 1, none⟩ = some (.slice X2 n2 c2) ∧ W.cell? ⟨g, q * 3 + 2, none⟩ = some (.slice Y2 ys.length e2)))) (by kernel_rfl) (by have := K00.out; simpa using this) (fun hHeld => ?_)
      refine wpAnyH_take (i := 0) (v := .slice (some ⟨g, 0, none⟩) ls.length c) rfl (by kernel_rfl) (by kernel_rfl) (by kernel_rfl) (fun _ _ _ h => h) (Or.inl ⟨by rfl, by intro W hSw; (try dsimp only at hSw); go_simp⟩) hHeld ?_
      try simp only [Act.put, List.getElem_toArray, List.getElem_cons_succ, List.getElem_cons_zero, List.setIfInBounds_toArray, List.set_cons_zero, List.set_cons_succ]
      refine wpAnyH_take (i := 1) (v := .int .i64 (k : Int)) rfl (by kernel_rfl) (by kernel_rfl) (by kernel_rfl) (fun _ _ _ h => h) (Or.inl ⟨by rfl, by intro W hSw; (try dsimp only at hSw); go_simp⟩) hHeld ?_
      try simp only [Act.put, List.getElem_toArray, List.getElem_cons_succ, List.getElem_cons_zero, List.setIfInBounds_toArray, List.set_cons_zero, List.set_cons_succ]
      refine wpAnyH_take (i := 2) (v := .int .i64 (q : Int)) rfl (by kernel_rfl) (by kernel_rfl) (by kernel_rfl) (fun _ _ _ h => h) (Or.inl ⟨by rfl, by intro W hSw; (try dsimp only at hSw); go_simp⟩) hHeld ?_
      try simp only [Act.put, List.getElem_toArray, List.getElem_cons_succ, List.getElem_cons_zero, List.setIfInBounds_toArray, List.set_cons_zero, List.set_cons_succ]
      refine wpAnyH_ready (rs := [3]) (by kernel_rfl) (by simp) ?_
      refine AllReadyH.cons rfl (fun K hK => ?_) AllReadyH.nil
      go_simp
      refine CW.out.mono ?_
      rintro e w3 ⟨rfl, b3⟩
      replace b3 := undrew b3
      have F3 := Lib.hid (KF.out _ b3)
      have B3 := Lib.hid b3
      clear b3
      go_wp2_with fail
      refine hK.out _ _ F3.out (fun hHeld => ?_)
      clear hK K
      try simp only [Act.put, List.getElem_toArray, List.getElem_cons_succ, List.getElem_cons_zero, List.setIfInBounds_toArray, List.set_cons_zero, List.set_cons_succ]
      refine wpAnyH_take (i := 4) (v := .bool false) rfl (by kernel_rfl) (by kernel_rfl) (by kernel_rfl) (fun _ _ _ h => h) (Or.inl ⟨by rfl, by intro W hSw; (try dsimp only at hSw); go_simp⟩) hHeld ?_
      try simp only [Act.put, List.getElem_toArray, List.getElem_cons_succ, List.getElem_cons_zero, List.setIfInBounds_toArray, List.set_cons_zero, List.set_cons_succ]
      refine wpAnyH_take (i := 5) (v := .slice (some ⟨g, 0, none⟩) ls.length c) rfl (by kernel_rfl) (by kernel_rfl) (by kernel_rfl) (fun _ _ _ h => h) (Or.inl ⟨by rfl, by intro W hSw; (try dsimp only at hSw); go_simp⟩) hHeld ?_
      try simp only [Act.put, List.getElem_toArray, List.getElem_cons_succ, List.getElem_cons_zero, List.setIfInBounds_toArray, List.set_cons_zero, List.set_cons_succ]
      refine wpAnyH_take (i := 6) (v := .int .i64 (k : Int)) rfl (by kernel_rfl) (by kernel_rfl) (by kernel_rfl) (fun _ _ _ h => h) (Or.inl ⟨by rfl, by intro W hSw; (try dsimp only at hSw); go_simp⟩) hHeld ?_
      try simp only [Act.put, List.getElem_toArray, List.getElem_cons_succ, List.getElem_cons_zero, List.setIfInBounds_toArray, List.set_cons_zero, List.set_cons_succ]
      refine wpAnyH_take (i := 7) (v := .pointer (some ⟨g, k * 3, none⟩)) rfl (by kernel_rfl) (by kernel_rfl) (by kernel_rfl) (fun _ _ _ h => h) (Or.inl ⟨by rfl, by intro W hSw; (try dsimp only at hSw); go_simp⟩) hHeld ?_
      try simp only [Act.put, List.getElem_toArray, List.getElem_cons_succ, List.getElem_cons_zero, List.setIfInBounds_toArray, List.set_cons_zero, List.set_cons_succ]
      refine wpAnyH_take (i := 8) (v := .agg #[.int .i64 t1, .slice X1 n1 c1, .slice Y1 xs.length e1]) rfl (by kernel_rfl) (by kernel_rfl) (by kernel_rfl) (fun _ _ _ h => h) (Or.inl ⟨by rfl, by intro W hSw; (try dsimp only at hSw); go_simp⟩) hHeld ?_
      try simp only [Act.put, List.getElem_toArray, List.getElem_cons_succ, List.getElem_cons_zero, List.setIfInBounds_toArray, List.set_cons_zero, List.set_cons_succ]
      refine wpAnyH_take (i := 9) (v := .slice (some ⟨g, 0, none⟩) ls.length c) rfl (by kernel_rfl) (by kernel_rfl) (by kernel_rfl) (fun _ _ _ h => h) (Or.inl ⟨by rfl, by intro W hSw; (try dsimp only at hSw); go_simp⟩) hHeld ?_
      try simp only [Act.put, List.getElem_toArray, List.getElem_cons_succ, List.getElem_cons_zero, List.setIfInBounds_toArray, List.set_cons_zero, List.set_cons_succ]
      refine wpAnyH_take (i := 10) (v := .int .i64 (q : Int)) rfl (by kernel_rfl) (by kernel_rfl) (by kernel_rfl) (fun _ _ _ h => h) (Or.inl ⟨by rfl, by intro W hSw; (try dsimp only at hSw); go_simp⟩) hHeld ?_
      try simp only [Act.put, List.getElem_toArray, List.getElem_cons_succ, List.getElem_cons_zero, List.setIfInBounds_toArray, List.set_cons_zero, List.set_cons_succ]
      refine wpAnyH_take (i := 11) (v := .pointer (some ⟨g, q * 3, none⟩)) rfl (by kernel_rfl) (by kernel_rfl) (by kernel_rfl) (fun _ _ _ h => h) (Or.inl ⟨by rfl, by intro W hSw; (try dsimp only at hSw); go_simp⟩) hHeld ?_
      try simp only [Act.put, List.getElem_toArray, List.getElem_cons_succ, List.getElem_cons_zero, List.setIfInBounds_toArray, List.set_cons_zero, List.set_cons_succ]
      refine wpAnyH_take (i := 12) (v := .agg #[.int .i64 t2, .slice X2 n2 c2, .slice Y2 ys.length e2]) rfl (by kernel_rfl) (by kernel_rfl) (by kernel_rfl) (fun _ _ _ h => h) (Or.inl ⟨by rfl, by intro W hSw; (try dsimp only at hSw); go_simp⟩) hHeld ?_
      try simp only [Act.put, List.getElem_toArray, List.getElem_cons_succ, List.getElem_cons_zero, List.setIfInBounds_toArray, List.set_cons_zero, List.set_cons_succ]
      refine wpAnyH_ready (rs := [13]) (by kernel_rfl) (by simp) ?_
      refine AllReadyH.cons rfl (fun K hK => ?_) AllReadyH.nil
      go_simp
      refine (CC.out _ (H1.out.below B3.out) (H2.out.below B3.out)).mono ?_
      rintro e w4 ⟨rfl, b4⟩
      have B4 := Lib.hid (B3.out.trans (b4.mono B3.out.size))
      have F4 := Lib.hid (KF.out _ B4.out)
      clear b4
      go_wp2_with fail
      refine hK.out _ _ F4.out (fun hHeld => ?_)
      clear hK K
      try simp only [Act.put, List.getElem_toArray, List.getElem_cons_succ, List.getElem_cons_zero, List.setIfInBounds_toArray, List.set_cons_zero, List.set_cons_succ]
      refine wpAnyH_take (i := 14) (v := .bool false) rfl (by kernel_rfl) (by kernel_rfl) (by kernel_rfl) (fun _ _ _ h => h) (Or.inl ⟨by rfl, by intro W hSw; (try dsimp only at hSw); go_simp⟩) hHeld ?_
      try simp only [Act.put, List.getElem_toArray, List.getElem_cons_succ, List.getElem_cons_zero, List.setIfInBounds_toArray, List.set_cons_zero, List.set_cons_succ]
      refine wpAnyH_take (i := 15) (v := .bool false) rfl (by kernel_rfl) (by kernel_rfl) (by kernel_rfl) (fun _ _ _ h => h) (Or.inl ⟨by rfl, by intro W hSw; (try dsimp only at hSw); go_simp⟩) hHeld ?_
      try simp only [Act.put, List.getElem_toArray, List.getElem_cons_succ, List.getElem_cons_zero, List.setIfInBounds_toArray, List.set_cons_zero, List.set_cons_succ]
      refine wpAnyH_done (by kernel_rfl) ?_ _
      go_wp2
      go_ret
      exact ⟨rfl, B4.out⟩

set_option maxRecDepth 100000 in
set_option maxHeartbeats 800000 in
theorem implPln (v : Value) (ls : List RCue) (b : Nat) (w : World) (h : OwnCue w b v ls) (hl : bulkCue ls ≤ 1048576) :
    Calls Try.prog 15 #[v] w (IntsPost w (simplePlan ls)) := by
  have CK := Lib.hid (implCOk v ls b w h hl)
  have CE := Lib.hid (fun hok W (hw : OwnCue W b v ls) => implEar 46 (fun k t => waitP ls k t || comP ls k t) v ls b W hw hl hok (enters_of Try.func46 (by kernel_rfl) rfl) (fun W2 k q hb hk hq => implLit v ls b W2 (hw.below hb) hl k q hk hq))
  obtain ⟨A, c, rfl⟩ := h.slice
  have O := Lib.hid h
  clear h
  cases hok : cuesOk ls with
  | false =>
    have R := Lib.hid (show simplePlan ls = [] by unfold simplePlan; rw [hok]; rfl)
    rw [hok] at CK
    clear hok CE
    go_enter Try.func15, Try.ntmps15
    go_wp2_with (go_at_call 38; refine CK.out.mono ?_; rintro e w2 ⟨rfl, b2⟩; have B2 := Lib.hid b2; clear b2)
    go_ret
    exact ⟨_, rfl, by rw [R.out]; exact nilI _ _, B2.out⟩
  | true =>
    have R := Lib.hid (show simplePlan ls = earlTo ls (fun k t => waitP ls k t || comP ls k t) ls.length by unfold simplePlan; rw [if_pos hok, earl_plan hok _ (Nat.le_refl _)])
    have CE := Lib.hid (fun W h => CE.out hok W h)
    rw [hok] at CK
    clear hok
    go_enter Try.func15, Try.ntmps15
    go_wp2_with (go_at_call 38; refine CK.out.mono ?_; rintro e w2 ⟨rfl, b2⟩; have B2 := Lib.hid b2; have O2 := Lib.hid (O.out.below b2); clear b2)
    refine (CE.out _ O2.out).mono ?_
    rintro e w3 ⟨v3, rfl, o3, b3⟩
    have B3 := Lib.hid (B2.out.trans (b3.mono B2.out.size))
    have O3 := Lib.hid (o3.mono B2.out.size)
    clear o3 b3
    go_wp2
    go_ret
    exact ⟨_, rfl, by rw [R.out]; exact O3.out, B3.out⟩

set_option maxRecDepth 100000 in
set_option maxHeartbeats 800000 in
theorem implPla (v : Value) (ls : List RCue) (b : Nat) (w : World) (h : OwnCue w b v ls) (hl : bulkCue ls ≤ 1048576) :
    Calls Try.prog 14 #[v] w fun e w' => e = .returned (.int .i64 (playTime ls)) ∧ Below w.heap.size w w' := by
  have CK := Lib.hid (implCOk v ls b w h hl)
  have CS := Lib.hid (fun W (hw : OwnCue W b v ls) => implSta v ls b W hw hl)
  have CN := Lib.hid (fun hok W hw u zs b2 h2 hz hr => implEnds v ls b W hw hok u zs b2 h2 hz hr)
  obtain ⟨A, c, rfl⟩ := h.slice
  have O := Lib.hid h
  clear h
  cases hok : cuesOk ls with
  | false =>
    have R := Lib.hid (play_no hok)
    rw [hok] at CK
    clear hok
    go_enter Try.func14, Try.ntmps14
    go_wp2_with (go_at_call 38; refine CK.out.mono ?_; rintro e w2 ⟨rfl, b2⟩; have B2 := Lib.hid b2; clear b2)
    go_ret
    exact ⟨by rw [R.out]; rfl, B2.out⟩
  | true =>
    have R := Lib.hid (play_top ls hok)
    have hn := (cuesOk_has hok).1
    have SL := Lib.hid (show (startsOf ls).length = ls.length by unfold startsOf; rw [if_pos hok, starts_len])
    have SI := Lib.hid (fun k => (show 0 ≤ (startsOf ls).getD k 0 ∧ (startsOf ls).getD k 0 ≤ 10000 by have := startsOf_in ls k; omega))
    have EL := Lib.hid (endsL_len ls (startsOf ls))
    have CN := Lib.hid (fun W hw u b2 h2 => CN.out hok W hw u _ b2 h2 SL.out SI.out)
    rw [hok] at CK
    clear hok
    go_enter Try.func14, Try.ntmps14
    go_wp2_with (go_at_call 38; refine CK.out.mono ?_; rintro e w2 ⟨rfl, b2⟩; have B2 := Lib.hid b2; have O2 := Lib.hid (O.out.below b2); clear b2)
    refine (CS.out _ O2.out).mono ?_
    rintro e w3 ⟨v3, rfl, o3, b3⟩
    have B3 := Lib.hid (B2.out.trans (b3.mono B2.out.size))
    have O3 := Lib.hid o3
    have A3 := Lib.hid (O2.out.below b3)
    clear o3 b3
    go_wp2_with fail
    refine (CN.out _ A3.out _ _ O3.out).mono ?_
    rintro e w4 ⟨v4, rfl, o4, b4⟩
    have B4 := Lib.hid (B3.out.trans (b4.mono B3.out.size))
    have CM := Lib.hid ((max_any v4 _ _ w4 o4 (by rw [EL.out]; omega) (by rw [EL.out]; omega)).mono fun e w' h => (show _ ∧ w4 = w' from ⟨h.1, h.2.symm⟩))
    rw [EL.out, R.out] at CM
    obtain ⟨P, p, rfl⟩ := o4.slice
    clear o4 b4
    go_wp2_with fail
    refine CM.out.mono ?_
    rintro e w5 ⟨rfl, rfl⟩
    go_wp2
    go_ret
    exact ⟨rfl, B4.out⟩
end Go.Proofs.Ytbgogcobkiaejac
