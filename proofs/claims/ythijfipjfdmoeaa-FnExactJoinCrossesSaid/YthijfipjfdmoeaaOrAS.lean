/- The contracts of spec.l08Start and OrderAfter. Condition: the crossings lie in a row of their own. -/
import Derived.Test.YthijfipjfdmoeaaCrsS
import Derived.Test.YthijfipjfdmoeaaSwpS
import Derived.Test.YthijfipjfdmoeaaParI
namespace Go.Proofs.Ythijfipjfdmoeaa
set_option linter.unusedVariables false
set_option linter.unusedSimpArgs false
open Go.RowKit

set_option maxRecDepth 100000 in
set_option maxHeartbeats 1600000 in
theorem specStart (n : Int) (w : World) (h0 : 1 ≤ n ∧ n ≤ 7) :
    Calls Try.prog 44 #[.int .i64 n] w (IntsPost w (startL n.toNat)) := by
  have E0 := Lib.hid (ownI_empty w w.heap.size w.heap.size #[] rfl (Nat.le_refl _) rfl)
  have B0 := Lib.hid ((Below.refl w.heap.size w).alloc (Nat.le_refl _) (.cells #[] 3))
  go_enter Try.func44, Try.ntmps44
  go_wp2_with fail
  go_loopw [3, 4] (fun ov iv wr => ∃ (k : Nat) (vo : Value), vo = ov ∧ (k : Int) ≤ n ∧ iv = .int .i64 (k : Int) ∧ Hid (OwnI wr w.heap.size vo (startL k)) ∧ Hid (Below w.heap.size w wr)) (fun _ iv _ => (n - intOf iv).toNat)
  case atStart => exact ⟨0, _, rfl, by omega, rfl, E0, B0⟩
  case round =>
    clear E0 B0
    obtain ⟨k, vo, rfl, hk, rfl, OO, BW⟩ := hrel
    by_cases hlt : (k : Int) < n
    rotate_left
    · have F := Lib.hid (show OwnI wr w.heap.size vo (startL n.toNat) by rw [show n.toNat = k by omega]; exact OO.out)
      clear OO
      go_wp2
      go_ret
      exact ⟨_, rfl, F.out, BW.out⟩
    have e1 : IntKind.i64.wrap ((k : Int) + 1) = (k : Int) + 1 := IntWalk.i64_in _ (by omega)
    have hbs := BW.out.size
    have LS := Lib.hid (startL_more k)
    have LN := startL_len k
    have ON := Lib.hid (oneI wr wr.heap.size (k : Int) (Nat.le_refl _))
    go_wp2_with (at_builtin; refine wpList_rowsI rfl (.tmp 11) (.tmp 13) rfl w.heap.size wr.heap.size _ _ (startL k) [(k : Int)] rfl rfl (OO.out.alloc _) ON.out ?_ ?_ ?_; (simp <;> omega); (simp <;> omega); intro v2 w2 o2 g2 hat2)
    have B2 := Lib.hid (madeR (BW.out.alloc hbs _) (by simp; omega) (OO.out.alloc _) g2)
    have O2 : Hid (OwnI w2 w.heap.size v2 (startL (k + 1))) := Lib.hid (LS.out ▸ o2)
    exact ⟨⟨k + 1, v2, rfl, by omega, by go_num, O2, B2⟩, by simp [intOf] <;> omega⟩

set_option maxRecDepth 100000 in
set_option maxHeartbeats 1600000 in
theorem specOrdA (n : Int) (v : Value) (ls : List RCross) (b : Nat) (w : World) (h : OwnCross w b v ls) (hl : ls.length ≤ 2000000) :
    Calls Try.prog 17 #[.int .i64 n, v] w (IntsPost w (ordAfter n ls)) := by
  have CK := Lib.hid (fun W h => specCrOk n v ls b W h hl)
  obtain ⟨A, c, rfl⟩ := h.slice
  have O := Lib.hid h
  clear h
  cases hc : crossOk n ls with
  | false =>
    have R := Lib.hid (show ordAfter n ls = [] by unfold ordAfter; rw [hc]; rfl)
    rw [hc] at CK
    go_enter Try.func17, Try.ntmps17
    go_wp2_with fail
    refine (CK.out _ O.out).mono ?_
    rintro e w1 ⟨rfl, b1⟩
    have B1 := Lib.hid b1
    clear b1
    go_wp2
    go_ret
    exact ⟨_, rfl, by rw [R.out]; exact ownI_empty w1 w.heap.size w1.heap.size #[] rfl B1.out.size rfl, B1.out.alloc B1.out.size _⟩
  | true =>
    have hn := (crossOk_has hc).1
    have hn' : 1 ≤ n ∧ n ≤ 7 := by
      unfold inB at hn
      exact of_decide_eq_true hn
    have R := Lib.hid (show ordAfter n ls = nowAt n ls ls.length by unfold ordAfter; rw [if_pos hc])
    rw [hc] at CK
    have ST := Lib.hid (fun W => specStart n W hn')
    have NL := Lib.hid (fun k => nowAt_len n ls k)
    have NZ := Lib.hid (nowAt_zero n ls)
    clear hn hc
    go_enter Try.func17, Try.ntmps17
    go_wp2_with fail
    refine (CK.out _ O.out).mono ?_
    rintro e w1 ⟨rfl, b1⟩
    have B1 := Lib.hid b1
    clear b1 CK
    go_wp2_with fail
    refine (ST.out _).mono ?_
    rintro e w2 ⟨v0, rfl, o0, b2⟩
    have B2 := Lib.hid (B1.out.trans (b2.mono B1.out.size))
    have O0 := Lib.hid (show OwnI w2 w.heap.size v0 (nowAt n ls 0) by rw [NZ.out]; exact o0.mono B1.out.size)
    clear b2 o0 B1
    go_wp2_with fail
    go_loopw [5, 6] (fun ov iv wr => ∃ (k : Nat) (vo : Value), vo = ov ∧ k ≤ ls.length ∧ iv = .int .i64 (k : Int) ∧ Hid (OwnI wr w.heap.size vo (nowAt n ls k)) ∧ Hid (Below w.heap.size w wr)) (fun _ iv _ => ls.length - (intOf iv).toNat)
    case atStart => exact ⟨0, _, rfl, by omega, rfl, O0, B2⟩
    case round =>
      clear O0 B2
      obtain ⟨k, vo, rfl, hk, rfl, OO, BW⟩ := hrel
      by_cases hlt : k < ls.length
      rotate_left
      · obtain rfl : k = ls.length := by omega
        go_wp2
        go_ret
        exact ⟨_, rfl, by rw [R.out]; exact OO.out, BW.out⟩
      have hk0 : (0 : Int) ≤ (k : Int) := by omega
      have hk1 : (k : Int) < (ls.length : Int) := by omega
      obtain ⟨g, _, f1, _, _, z0, _⟩ := (O.out.below BW.out).spot hlt
      simp only [Value.slice.injEq] at f1
      obtain ⟨rfl, -, rfl⟩ := f1
      have r0 : wr.cell? ⟨g, k * 2, none⟩ = some (.int .i64 ls[k].f0) := z0 0 _ rfl
      have SW := Lib.hid (specSwap vo (nowAt n ls k) ls[k].f0 w.heap.size wr OO.out (by rw [NL.out]; omega))
      have NM := Lib.hid (show nowAt n ls (k + 1) = (swapR (nowAt n ls k) ls[k].f0).1 from nowAt_more n hlt)
      generalize swapR (nowAt n ls k) ls[k].f0 = rr at SW NM
      obtain ⟨zs, rb⟩ := rr
      unfold IntsB at SW
      dsimp only at SW NM
      generalize ls[k].f0 = x at r0 SW
      have hbs := BW.out.size
      clear z0
      go_wp2_with fail
      refine SW.out.mono ?_
      rintro e w3 ⟨v3, rfl, o3, b3⟩
      have B3 := Lib.hid (BW.out.trans (b3.mono BW.out.size))
      have O3 := Lib.hid (show OwnI w3 w.heap.size v3 (nowAt n ls (k + 1)) by rw [NM.out]; exact o3.mono hbs)
      clear b3 o3 OO BW SW
      go_wp2
      exact ⟨⟨k + 1, v3, rfl, by omega, by go_num, O3, B3⟩, by simp [intOf] <;> omega⟩
end Go.Proofs.Ythijfipjfdmoeaa
