/- The contracts of spec.l14Ok, HandsFor, IsShort and l14Part. Condition: the players and the numbers lie in rows of their own. -/
import Derived.Test.YtjpalndcfaeihaaPrfM
import Derived.Test.YtjpalndcfaeihaaPokS
import Derived.Test.YtjpalndcfaeihaaBits
import Derived.BigQuiet
import Derived.Test.YtjpalndcfaeihaaHokS
namespace Go.Proofs.Ytjpalndcfaeihaa
set_option linter.unusedVariables false
set_option linter.unusedSimpArgs false
open Go.RowKit

set_option maxRecDepth 100000 in
set_option maxHeartbeats 1600000 in
theorem specHan (v : Value) (ls : List RPlayer) (b : Nat) (w : World) (h : OwnPlayer w b v ls) (hl : ls.length ≤ 2000000) (hr : ∀ k (hk : k < ls.length), ls[k].f0.length ≤ 2000000) (u : Value) (ps : List Int) (b2 : Nat) (h2 : OwnI w b2 u ps) (hp : ps.length ≤ 2000000) :
    Calls Try.prog 20 #[v, u] w fun e w' => e = .returned (.int .i64 (handsFor ls ps)) ∧ Below w.heap.size w w' := by
  have CK := Lib.hid (specHok v ls b w h hl hr u ps b2 h2 hp)
  obtain ⟨A, c, rfl⟩ := h.slice
  obtain ⟨A2, c2, rfl⟩ := h2.slice
  have O := Lib.hid h
  have P := Lib.hid h2
  clear h h2
  cases hok : proofOk ls ps with
  | false =>
    have R := Lib.hid (show handsFor ls ps = -1 by unfold handsFor; rw [hok]; rfl)
    rw [hok] at CK
    clear hr
    go_enter Try.func20, Try.ntmps20
    go_wp2_with (go_at_call 44; refine CK.out.mono ?_; rintro e w1 ⟨rfl, b1⟩; have B1 := Lib.hid b1; clear b1)
    go_ret
    exact ⟨by rw [R.out]; rfl, B1.out⟩
  | true =>
    have hpk : playersOk ls = true := by
      unfold proofOk at hok
      rw [Bool.and_eq_true] at hok
      exact hok.1
    have hn := (playersOk_has hpk).1
    have hp7 := proof_len hok
    have R := Lib.hid (show handsFor ls ps = hforTo ls ps ls.length by unfold handsFor; rw [if_pos hok])
    have SM := Lib.hid (hfor_small hpk ps)
    have SH := Lib.hid (hands_small hpk)
    have FN := Lib.hid (fun k (hk : k < ls.length) => (player_fine ((playersOk_has hpk).2 k hk)).2)
    have KN := Lib.hid (fun k (hk : k < ls.length) A1 c1 x W (o : OwnI W b (.slice A1 ls[k].f0.length c1) ls[k].f0) => specKno ls[k] (.slice A1 ls[k].f0.length c1) x b W o (hr k hk))
    rw [hok] at CK
    clear hok hpk hr
    go_enter Try.func20, Try.ntmps20
    go_wp2_with (go_at_call 44; refine CK.out.mono ?_; rintro e w1 ⟨rfl, b1⟩; have B1 := Lib.hid b1; clear b1)
    go_loopw [5, 6] (fun nv kv wr => ∃ k : Nat, k ≤ ls.length ∧ nv = .int .i64 (hforTo ls ps k) ∧ kv = .int .i64 (k : Int) ∧ Hid (Below w.heap.size w wr)) (fun _ kv _ => ls.length - (intOf kv).toNat)
    case atStart => exact ⟨0, by omega, rfl, rfl, B1⟩
    case round =>
      clear B1
      obtain ⟨k, hk, rfl, rfl, BW⟩ := hrel
      by_cases hlt : k < ls.length
      rotate_left
      · obtain rfl : k = ls.length := by omega
        go_wp2
        go_ret
        exact ⟨by rw [R.out]; rfl, BW.out⟩
      have hk0 : (0 : Int) ≤ (k : Int) := by omega
      have hk1 : (k : Int) < (ls.length : Int) := by omega
      have sm := SM.out k hk
      have sh := SH.out k hk
      have fn := FN.out k hlt
      have NX := Lib.hid (show hforTo ls ps (k + 1) = if someTo ls[k] ps ps.length = true then hforTo ls ps k + ls[k].f1 else hforTo ls ps k by rw [hforTo, getP hlt])
      have KN2 := Lib.hid (KN.out k hlt)
      have SP := Lib.hid (fun W (hb : Below wr.heap.size wr W) => ((O.out.below BW.out).below hb).spot hlt)
      generalize hforTo ls ps k = s at sm NX ⊢
      go_wp2_with fail
      go_loopw [7, 8] (fun bv iv wq => ∃ i : Nat, i ≤ ps.length ∧ bv = .bool (someTo ls[k] ps i) ∧ iv = .int .i64 (i : Int) ∧ Hid (Below wr.heap.size wr wq)) (fun _ iv _ => ps.length - (intOf iv).toNat)
      case atStart => exact ⟨0, by omega, rfl, rfl, Lib.hid (Below.refl _ _)⟩
      case round =>
        obtain ⟨i, hi, rfl, rfl, BQ⟩ := hrel
        obtain ⟨g, _, A1, c1, f1, -, ⟨x0, x1⟩, o1, -⟩ := SP.out _ BQ.out
        simp only [Value.slice.injEq] at f1
        obtain ⟨rfl, -, rfl⟩ := f1
        have BB := Lib.hid (BW.out.trans (BQ.out.mono BW.out.size))
        by_cases hli : i < ps.length
        rotate_left
        · obtain rfl : i = ps.length := by omega
          cases hsk : someTo ls[k] ps ps.length with
          | false =>
            rw [hsk, if_neg (by simp)] at NX
            go_wp2
            exact ⟨⟨k + 1, by omega, by rw [NX.out], by go_num, BB⟩, by simp [intOf]; omega⟩
          | true =>
            rw [hsk, if_pos rfl] at NX
            generalize ls[k].f1 = t at x1 fn NX
            have ew : IntKind.i64.wrap (s + t) = s + t := IntWalk.i64_in _ (by omega)
            go_wp2
            exact ⟨⟨k + 1, by omega, by rw [NX.out], by go_num, BB⟩, by simp [intOf]; omega⟩
        have hi0 : (0 : Int) ≤ (i : Int) := by omega
        have hi1 : (i : Int) < (ps.length : Int) := by omega
        have NS := Lib.hid (show someTo ls[k] ps (i + 1) = (someTo ls[k] ps i || knowsB ls[k] (ps.getD i 0)) from rfl)
        cases hsk : someTo ls[k] ps i with
        | true =>
          rw [hsk, Bool.true_or] at NS
          have BD := Lib.hid (fun m => below_drewN BQ.out m)
          go_wp2_with fail
          go_quiet (fail)
          have BE := Lib.hid (BD.out nq)
          clear BD
          go_wp2
          exact ⟨⟨i + 1, by omega, by rw [NS.out], by go_num, BE⟩, by simp [intOf]; omega⟩
        | false =>
          rw [hsk, Bool.false_or] at NS
          obtain ⟨gp, _, f1, -, -, z0, -⟩ := (P.out.below BB.out).spot hli
          simp only [Value.slice.injEq] at f1
          obtain ⟨rfl, -, rfl⟩ := f1
          rw [show ps[i] = ps.getD i 0 from by rw [List.getD_eq_getElem?_getD, List.getElem?_eq_getElem hli]; rfl] at z0
          generalize ps.getD i 0 = x at z0 NS
          have K1 := Lib.hid (fun W (hb : Below wr.heap.size wr W) => KN2.out A1 c1 x W (o1.below hb))
          generalize knowsB ls[k] x = kb at NS K1
          have XC := Lib.hid (show wr.cell? ⟨gp, i, none⟩ = some (.int .i64 x) ∧ wr.cell? ⟨g, k * 2, none⟩ = some (.slice A1 ls[k].f0.length c1) ∧ wr.cell? ⟨g, k * 2 + 1, none⟩ = some (.int .i64 ls[k].f1) from ⟨z0, x0, x1⟩)
          have hbs := BQ.out.size
          clear NX KN2 KN SP o1 hsk
          generalize ls[k].f0.length = n1 at x0 K1 XC
          generalize ls[k].f1 = t1 at x1 K1 XC fn
          go_wp2_with fail
          go_region_held3 (fun W => W.cell? ⟨gp, i, none⟩ = some (.int .i64 x) ∧ W.cell? ⟨g, k * 2, none⟩ = some (.slice A1 n1 c1) ∧ W.cell? ⟨g, k * 2 + 1, none⟩ = some (.int .i64 t1))
            (first | exact XC.out | exact X2.out)
            (first | (go_at_call 45; refine (K1.out _ (Below.refl _ _).drew).mono ?_; rintro e w2 ⟨rfl, b2⟩; have b3 := undrew b2; have X2 := Lib.hid (show _ ∧ _ ∧ _ from ⟨cell_below XC.out.1 b3, cell_below XC.out.2.1 b3, cell_below XC.out.2.2 b3⟩)))
          have B2 := Lib.hid (BQ.out.trans ((undrew b2).mono hbs))
          clear b2 b3 XC X2
          go_wp2
          exact ⟨⟨i + 1, by omega, by rw [NS.out], by go_num, B2⟩, by simp [intOf]; omega⟩

set_option maxRecDepth 100000 in
set_option maxHeartbeats 1600000 in
theorem specSho (v : Value) (ls : List RPlayer) (b : Nat) (w : World) (h : OwnPlayer w b v ls) (hl : ls.length ≤ 2000000) (hr : ∀ k (hk : k < ls.length), ls[k].f0.length ≤ 2000000) (u : Value) (ps : List Int) (b2 : Nat) (h2 : OwnI w b2 u ps) (hp : ps.length ≤ 2000000) :
    Calls Try.prog 25 #[v, u] w fun e w' => e = .returned (.bool (isShort ls ps)) ∧ Below w.heap.size w w' := by
  have CH := Lib.hid (specHan v ls b w h hl hr u ps b2 h2 hp)
  have R := Lib.hid (show isShort ls ps = (decide (0 ≤ handsFor ls ps) && decide (handsFor ls ps < (ps.length : Int))) from rfl)
  obtain ⟨A, c, rfl⟩ := h.slice
  obtain ⟨A2, c2, rfl⟩ := h2.slice
  clear h h2 hr
  generalize isShort ls ps = r at R ⊢
  generalize handsFor ls ps = n at R CH
  by_cases hn : 0 ≤ n
  · have R2 := Lib.hid (show r = decide (n < (ps.length : Int)) by rw [R.out, decide_eq_true hn, Bool.true_and])
    go_enter Try.func25, Try.ntmps25
    go_wp2_with fail
    refine CH.out.mono ?_
    rintro e w1 ⟨rfl, b1⟩
    have B1 := Lib.hid b1
    clear b1
    go_wp2
    go_ret
    exact ⟨by rw [R2.out]; try rfl, B1.out⟩
  · have R2 := Lib.hid (show r = false by rw [R.out, decide_eq_false hn, Bool.false_and])
    go_enter Try.func25, Try.ntmps25
    go_wp2_with fail
    refine CH.out.mono ?_
    rintro e w1 ⟨rfl, b1⟩
    have B1 := Lib.hid b1
    clear b1
    go_wp2
    go_ret
    exact ⟨by rw [R2.out]; try rfl, B1.out⟩

set_option maxRecDepth 100000 in
set_option maxHeartbeats 1600000 in
theorem specPar (u : Value) (ps : List Int) (s : Nat) (b : Nat) (w : World) (h : OwnI w b u ps) (hp : ps.length ≤ 60) (hs : s < 2 ^ 62) :
    Calls Try.prog 48 #[u, .int .i64 (s : Int)] w (IntsPost w (partOf ps s)) := by
  obtain ⟨A, c, rfl⟩ := h.slice
  have P := Lib.hid h
  clear h
  have O0 := Lib.hid (ownI_empty w w.heap.size w.heap.size #[] rfl (Nat.le_refl _) rfl)
  have B0 := Lib.hid ((Below.refl w.heap.size w).alloc (Nat.le_refl _) (.cells #[] 3))
  have R := Lib.hid (show partOf ps s = partTo ps s ps.length from rfl)
  go_enter Try.func48, Try.ntmps48
  go_wp2_with fail
  go_loopw [5, 6] (fun ov kv wr => ∃ (k : Nat) (vo : Value), vo = ov ∧ k ≤ ps.length ∧ kv = .int .i64 (k : Int) ∧ Hid (OwnI wr w.heap.size vo (partTo ps s k)) ∧ Hid (Below w.heap.size w wr)) (fun _ kv _ => ps.length - (intOf kv).toNat)
  case atStart => exact ⟨0, _, rfl, by omega, rfl, O0, B0⟩
  case round =>
    clear O0 B0
    obtain ⟨k, vo, rfl, hk, rfl, OO, BW⟩ := hrel
    by_cases hlt : k < ps.length
    rotate_left
    · obtain rfl : k = ps.length := by omega
      rw [← R.out] at OO
      go_wp2
      go_ret
      exact ⟨_, rfl, OO.out, BW.out⟩
    have hk0 : (0 : Int) ≤ (k : Int) := by omega
    have hk1 : (k : Int) < (ps.length : Int) := by omega
    have eb1 := bit_nat s k (by omega) hs
    have eb2 := bit_nat2 s k (by omega) hs
    have pl := part_len ps s k
    have NX := Lib.hid (show partTo ps s (k + 1) = if s.testBit k = true then partTo ps s k ++ [ps.getD k 0] else partTo ps s k from rfl)
    by_cases cb : s.testBit k = true
    · rw [if_pos cb] at eb1 eb2 NX
      obtain ⟨gp, _, f1, -, -, z0, -⟩ := (P.out.below BW.out).spot hlt
      simp only [Value.slice.injEq] at f1
      obtain ⟨rfl, -, rfl⟩ := f1
      rw [show ps[k] = ps.getD k 0 from by rw [List.getD_eq_getElem?_getD, List.getElem?_eq_getElem hlt]; rfl] at z0
      generalize ps.getD k 0 = x at z0 NX
      have O3 := Lib.hid OO.out
      have hs4 := BW.out.size
      have ON := Lib.hid (oneI wr wr.heap.size x (Nat.le_refl _))
      clear cb
      go_wp2_with (at_builtin; refine wpList_rowsI rfl (.tmp 19) (.tmp 24) rfl w.heap.size wr.heap.size _ _ (partTo ps s k) [x] rfl rfl (O3.out.alloc _) ON.out ?_ ?_ ?_; (simp <;> omega); (simp <;> omega); intro v4 w4 o4 g4 hat4)
      have B5 := Lib.hid (madeR (BW.out.alloc hs4 _) (by simp; omega) (O3.out.alloc _) g4)
      have O5 : Hid (OwnI w4 w.heap.size v4 (partTo ps s (k + 1))) := Lib.hid (NX.out ▸ o4)
      exact ⟨⟨k + 1, _, rfl, by omega, by go_num, O5, B5⟩, by simp [intOf] <;> omega⟩
    · rw [if_neg cb] at eb1 eb2 NX
      rw [← NX.out] at OO
      clear cb NX
      go_wp2
      exact ⟨⟨k + 1, _, rfl, by omega, by go_num, OO, BW⟩, by simp [intOf]; omega⟩
end Go.Proofs.Ytjpalndcfaeihaa
