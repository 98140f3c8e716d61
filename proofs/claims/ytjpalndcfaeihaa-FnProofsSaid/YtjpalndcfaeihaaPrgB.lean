/- The contracts of the program's HandsFor, IsShort, countSubsets and subsetAt. Condition: the players and the numbers lie in rows of their own. -/
import Derived.Test.YtjpalndcfaeihaaPrgA
import Derived.Test.YtjpalndcfaeihaaBits
namespace Go.Proofs.Ytjpalndcfaeihaa
set_option linter.unusedVariables false
set_option linter.unusedSimpArgs false
open Go.RowKit

set_option maxRecDepth 100000 in
set_option maxHeartbeats 1600000 in
theorem implHan (v : Value) (ls : List RPlayer) (b : Nat) (w : World) (h : OwnPlayer w b v ls) (hl : ls.length ≤ 2000000) (hr : ∀ k (hk : k < ls.length), ls[k].f0.length ≤ 2000000) (u : Value) (ps : List Int) (b2 : Nat) (h2 : OwnI w b2 u ps) (hp : ps.length ≤ 2000000) :
    Calls Try.prog 17 #[v, u] w fun e w' => e = .returned (.int .i64 (handsFor ls ps)) ∧ Below w.heap.size w w' := by
  have CK := Lib.hid (implPOk v ls b w h hl hr)
  have CR := Lib.hid (fun W h => implPup u ps b2 W h hp)
  obtain ⟨A, c, rfl⟩ := h.slice
  obtain ⟨D, d, rfl⟩ := h2.slice
  have O := Lib.hid h
  have P := Lib.hid h2
  clear h h2
  cases hok : playersOk ls with
  | false =>
    have R := Lib.hid (show handsFor ls ps = -1 by unfold handsFor proofOk; rw [hok]; rfl)
    rw [hok] at CK
    clear hr hok
    go_enter Try.func17, Try.ntmps17
    go_wp2_with (go_at_call 35; refine CK.out.mono ?_; rintro e w1 ⟨rfl, b1⟩; have B1 := Lib.hid b1; clear b1)
    go_ret
    exact ⟨by rw [R.out]; rfl, B1.out⟩
  | true =>
  rw [hok] at CK
  cases hris : rising ps 6 with
  | false =>
    have R := Lib.hid (show handsFor ls ps = -1 by unfold handsFor proofOk; rw [hok, hris]; rfl)
    rw [hris] at CR
    clear hr hok hris
    go_enter Try.func17, Try.ntmps17
    go_wp2_with (first | (go_at_call 35; refine CK.out.mono ?_; rintro e w1 ⟨rfl, b1⟩; have B1 := Lib.hid b1; clear b1) | (go_at_call 36; refine (CR.out _ (P.out.below B1.out)).mono ?_; rintro e w' ⟨rfl, rfl⟩))
    go_ret
    exact ⟨by rw [R.out]; rfl, B1.out⟩
  | true =>
  rw [hris] at CR
  have hpk : proofOk ls ps = true := by unfold proofOk; rw [hok, hris]; rfl
  have hn := (playersOk_has hok).1
  have R := Lib.hid (show handsFor ls ps = hforTo ls ps ls.length by unfold handsFor; rw [if_pos hpk])
  have SM := Lib.hid (hfor_small hok ps)
  have SH := Lib.hid (hands_small hok)
  have FN := Lib.hid (fun k (hk : k < ls.length) => (player_fine ((playersOk_has hok).2 k hk)).2)
  have KN := Lib.hid (fun k (hk : k < ls.length) A1 c1 W (o : OwnI W b (.slice A1 ls[k].f0.length c1) ls[k].f0) (o2 : OwnI W b2 (.slice D ps.length d) ps) => implOne ls[k] (.slice A1 ls[k].f0.length c1) b W o (hr k hk) (.slice D ps.length d) ps b2 o2 hp)
  clear hok hris hpk hr
  go_enter Try.func17, Try.ntmps17
  go_wp2_with (first | (go_at_call 35; refine CK.out.mono ?_; rintro e w1 ⟨rfl, b1⟩; have B1 := Lib.hid b1; clear b1) | (go_at_call 36; refine (CR.out _ (P.out.below B1.out)).mono ?_; rintro e w' ⟨rfl, rfl⟩))
  go_loopw [5, 18] (fun nv kv wr => ∃ k : Nat, k ≤ ls.length ∧ nv = .int .i64 (hforTo ls ps k) ∧ kv = .int .i64 (k : Int) ∧ Hid (Below w.heap.size w wr)) (fun _ kv _ => ls.length - (intOf kv).toNat)
  case atStart => exact ⟨0, by omega, rfl, rfl, B1⟩
  case round =>
    clear B1 CK CR
    obtain ⟨k, hk, rfl, rfl, BW⟩ := hrel
    by_cases hlt : k < ls.length
    rotate_left
    · obtain rfl : k = ls.length := by omega
      go_wp2
      go_ret
      exact ⟨by rw [R.out]; rfl, BW.out⟩
    have hk0 : (0 : Int) ≤ (k : Int) := by omega
    have hk1 : (k : Int) < (ls.length : Int) := by omega
    have sm := SM.out k hk
    have sh := SH.out k hk
    have fn := FN.out k hlt
    have hbs := BW.out.size
    have NX := Lib.hid (show hforTo ls ps (k + 1) = if someTo ls[k] ps ps.length = true then hforTo ls ps k + ls[k].f1 else hforTo ls ps k by rw [hforTo, getP hlt])
    obtain ⟨g, _, A1, c1, f1, -, ⟨x0, x1⟩, o1, -⟩ := (O.out.below BW.out).spot hlt
    simp only [Value.slice.injEq] at f1
    obtain ⟨rfl, -, rfl⟩ := f1
    obtain ⟨w3, hw3⟩ : ∃ w3, w3 = wr.alloc (.cells #[.slice A1 ls[k].f0.length c1, .int .i64 ls[k].f1] 57) := ⟨_, rfl⟩
    have y1 : w3.cell? ⟨wr.heap.size, 1, none⟩ = some (.int .i64 ls[k].f1) := by rw [hw3]; simp [go_sem]
    have B3 := Lib.hid (show Below w.heap.size w w3 by rw [hw3]; exact BW.out.alloc hbs _)
    have K1 := Lib.hid (KN.out k hlt A1 c1 w3 (by rw [hw3]; exact o1.alloc _) (P.out.below B3.out))
    have HW := Lib.hid hw3
    have hg3 : wr.heap.size < w3.heap.size := by rw [hw3]; simp
    clear hw3 o1 KN
    generalize hforTo ls ps k = s at sm NX ⊢
    generalize ls[k].f0.length = n1 at x0 K1 HW
    generalize someTo ls[k] ps ps.length = kb at NX K1
    generalize ls[k].f1 = t at x1 y1 fn NX K1 HW
    have ew : IntKind.i64.wrap (s + t) = s + t := IntWalk.i64_in _ (by omega)
    cases kb with
    | true =>
      rw [if_pos rfl] at NX
      go_wp2_with (go_at_call 41; rw [← HW.out]; refine K1.out.mono ?_; rintro e w4 ⟨rfl, b4⟩; have B4 := Lib.hid (B3.out.trans (b4.mono B3.out.size)); have y2 := cell_below y1 b4; clear b4)
      exact ⟨⟨k + 1, by omega, by rw [NX.out], by go_num, B4⟩, by simp [intOf]; omega⟩
    | false =>
      rw [if_neg (by simp)] at NX
      go_wp2_with (go_at_call 41; rw [← HW.out]; refine K1.out.mono ?_; rintro e w4 ⟨rfl, b4⟩; have B4 := Lib.hid (B3.out.trans (b4.mono B3.out.size)); have y2 := cell_below y1 b4; clear b4)
      exact ⟨⟨k + 1, by omega, by rw [NX.out], by go_num, B4⟩, by simp [intOf]; omega⟩

theorem short_is (ls : List RPlayer) (ps : List Int) : isShort ls ps = (!(decide (handsFor ls ps = -1)) && decide (handsFor ls ps < (ps.length : Int))) := by
  have := handsFor_small ls ps
  unfold isShort
  congr 1
  rw [Bool.eq_iff_iff]
  simp
  omega

set_option maxRecDepth 100000 in
set_option maxHeartbeats 1600000 in
theorem implSho (v : Value) (ls : List RPlayer) (b : Nat) (w : World) (h : OwnPlayer w b v ls) (hl : ls.length ≤ 2000000) (hr : ∀ k (hk : k < ls.length), ls[k].f0.length ≤ 2000000) (u : Value) (ps : List Int) (b2 : Nat) (h2 : OwnI w b2 u ps) (hp : ps.length ≤ 2000000) :
    Calls Try.prog 15 #[v, u] w fun e w' => e = .returned (.bool (isShort ls ps)) ∧ Below w.heap.size w w' := by
  have CH := Lib.hid (implHan v ls b w h hl hr u ps b2 h2 hp)
  have R := Lib.hid (short_is ls ps)
  obtain ⟨A, c, rfl⟩ := h.slice
  obtain ⟨A2, c2, rfl⟩ := h2.slice
  clear h h2 hr
  generalize isShort ls ps = r at R ⊢
  generalize handsFor ls ps = n at R CH
  by_cases hn : n = -1
  · have R2 := Lib.hid (show r = false by rw [R.out, decide_eq_true hn]; rfl)
    subst hn
    go_enter Try.func15, Try.ntmps15
    go_wp2_with (go_at_call 17; refine CH.out.mono ?_; rintro e w1 ⟨rfl, b1⟩; have B1 := Lib.hid b1; clear b1)
    go_ret
    exact ⟨by rw [R2.out]; try rfl, B1.out⟩
  · have R2 := Lib.hid (show r = decide (n < (ps.length : Int)) by rw [R.out, decide_eq_false hn]; rfl)
    have hb : (n == (-1 : Int)) = false := by rw [beq_eq_false_iff_ne]; exact hn
    go_enter Try.func15, Try.ntmps15
    go_wp2_with (go_at_call 17; refine CH.out.mono ?_; rintro e w1 ⟨rfl, b1⟩; have B1 := Lib.hid b1; clear b1)
    go_ret
    exact ⟨by
      rw [R2.out]
      show Ending.returned (.bool (n != -1 && decide (n < (ps.length : Int)))) = _
      rw [bne, hb]
      rfl, B1.out⟩

/-- What a shift by a length gives, in the forms that a walk shows. -/
theorem shl_lens {n : Nat} (h : n ≤ 7) : wrap64 (2 ^ n) = ((1 <<< n : Nat) : Int) ∧ wrap64 (2 ^ min n 64) = ((1 <<< n : Nat) : Int) ∧ IntKind.i64.wrap (2 ^ n) = ((1 <<< n : Nat) : Int) ∧ IntKind.i64.wrap (2 ^ min n 64) = ((1 <<< n : Nat) : Int) := by
  have e1 := shl_nat64 n (by omega)
  have e2 := shl_nat n (by omega)
  have em : min n 64 = n := Nat.min_eq_left (by omega)
  rw [em] at e2
  rw [em]
  exact ⟨e1, e1, e2, e2⟩
theorem implCnu (A : Option Addr) (n c : Nat) (w : World) (hn : n ≤ 7) :
    Calls Try.prog 39 #[.slice A n c] w fun e w' => e = .returned (.int .i64 ((1 <<< n : Nat) : Int)) ∧ w = w' := by
  obtain ⟨M, hM⟩ : ∃ M, 1 <<< n = M := ⟨_, rfl⟩
  obtain ⟨e1, e2, e3, e4⟩ := shl_lens hn
  rw [hM] at e1 e2 e3 e4
  have HM := Lib.hid hM
  clear hM
  go_enter Try.func39, Try.ntmps39
  go_wp2
  go_ret
  exact ⟨by rw [HM.out]; rfl, rfl⟩

set_option maxRecDepth 100000 in
set_option maxHeartbeats 1600000 in
theorem implSub (u : Value) (ps : List Int) (s : Nat) (b : Nat) (w : World) (h : OwnI w b u ps) (hp : ps.length ≤ 60) (hs : s < 2 ^ 62) :
    Calls Try.prog 40 #[u, .int .i64 (s : Int)] w (IntsPost w (partOf ps s)) := by
  obtain ⟨A, c, rfl⟩ := h.slice
  have P := Lib.hid h
  clear h
  have R := Lib.hid (show partOf ps s = partTo ps s ps.length from rfl)
  go_enter Try.func40, Try.ntmps40
  go_wp2_with fail
  go_loopw [5, 10] (fun ov kv wr => ∃ (k : Nat) (vo : Value), vo = ov ∧ k ≤ ps.length ∧ kv = .int .i64 (k : Int) ∧ Hid (OwnI wr w.heap.size vo (partTo ps s k)) ∧ Hid (Below w.heap.size w wr)) (fun _ kv _ => ps.length - (intOf kv).toNat)
  case atStart => exact ⟨0, _, rfl, by omega, rfl, Lib.hid ⟨rfl, .inl ⟨rfl, rfl⟩⟩, Lib.hid (Below.refl _ _)⟩
  case round =>
    obtain ⟨k, vo, rfl, hk, rfl, OO, BW⟩ := hrel
    by_cases hlt : k < ps.length
    rotate_left
    · obtain rfl : k = ps.length := by omega
      rw [← R.out] at OO
      go_wp2
      go_ret
      exact ⟨_, rfl, OO.out, BW.out⟩
    have hk0 : (0 : Int) ≤ (k : Int) := by omega
    have hk1 : (k : Int) < (ps.length : Int) := by omega
    have eb1 := bit_nat s k (by omega) hs
    have eb2 := bit_nat2 s k (by omega) hs
    have pl := part_len ps s k
    have NX := Lib.hid (show partTo ps s (k + 1) = if s.testBit k = true then partTo ps s k ++ [ps.getD k 0] else partTo ps s k from rfl)
    obtain ⟨gp, _, f1, -, -, z0, -⟩ := (P.out.below BW.out).spot hlt
    simp only [Value.slice.injEq] at f1
    obtain ⟨rfl, -, rfl⟩ := f1
    rw [show ps[k] = ps.getD k 0 from by rw [List.getD_eq_getElem?_getD, List.getElem?_eq_getElem hlt]; rfl] at z0
    generalize ps.getD k 0 = x at z0 NX
    by_cases cb : s.testBit k = true
    · rw [if_pos cb] at eb1 eb2 NX
      have O3 := Lib.hid OO.out
      have hs4 := BW.out.size
      have ON := Lib.hid (oneI wr wr.heap.size x (Nat.le_refl _))
      clear cb
      go_wp2_with (at_builtin; refine wpList_rowsI rfl (.tmp 20) (.tmp 22) rfl w.heap.size wr.heap.size _ _ (partTo ps s k) [x] rfl rfl (O3.out.alloc _) ON.out ?_ ?_ ?_; (simp <;> omega); (simp <;> omega); intro v4 w4 o4 g4 hat4)
      have B5 := Lib.hid (madeR (BW.out.alloc hs4 _) (by simp; omega) (O3.out.alloc _) g4)
      have O5 : Hid (OwnI w4 w.heap.size v4 (partTo ps s (k + 1))) := Lib.hid (NX.out ▸ o4)
      exact ⟨⟨k + 1, _, rfl, by omega, by go_num, O5, B5⟩, by simp [intOf] <;> omega⟩
    · rw [if_neg cb] at eb1 eb2 NX
      rw [← NX.out] at OO
      clear cb NX
      go_wp2
      exact ⟨⟨k + 1, _, rfl, by omega, by go_num, OO, BW⟩, by simp [intOf]; omega⟩
end Go.Proofs.Ytjpalndcfaeihaa
