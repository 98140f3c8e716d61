/- The contract of impl.OrderAfter. Condition: the crossings lie in a row of their own. -/
import Derived.Test.YthijfipjfdmoeaaCroI
import Derived.Test.YthijfipjfdmoeaaNowM
namespace Go.Proofs.Ythijfipjfdmoeaa
set_option linter.unusedVariables false
set_option linter.unusedSimpArgs false
open Go.RowKit

set_option maxRecDepth 100000 in
set_option maxHeartbeats 1600000 in
theorem implOrdA (n : Int) (v : Value) (ls : List RCross) (b : Nat) (w : World) (h : OwnCross w b v ls) (hl : ls.length ≤ 2000000) :
    Calls Try.prog 47 #[.int .i64 n, v] w (IntsPost w (ordAfter n ls)) := by
  have CK := Lib.hid (fun W h => implCrOk n v ls b W h hl)
  obtain ⟨A, c, rfl⟩ := h.slice
  have O := Lib.hid h
  clear h
  cases hc : crossOk n ls with
  | false =>
    have R := Lib.hid (show ordAfter n ls = [] by unfold ordAfter; rw [hc]; rfl)
    rw [hc] at CK
    go_enter Try.func47, Try.ntmps47
    go_wp2_with (go_at_call 32; refine (CK.out _ O.out).mono ?_; rintro e w1 ⟨rfl, b1⟩; have B1 := Lib.hid b1; clear b1)
    go_ret
    exact ⟨_, rfl, by rw [R.out]; exact ⟨rfl, .inl ⟨rfl, rfl⟩⟩, B1.out⟩
  | true =>
    have hn := (crossOk_has hc).1
    have hn' : 1 ≤ n ∧ n ≤ 7 := by
      unfold inB at hn
      exact of_decide_eq_true hn
    have R := Lib.hid (show ordAfter n ls = nowAt n ls ls.length by unfold ordAfter; rw [if_pos hc])
    have SS := Lib.hid (fun k (h : k < ls.length) => now_swap hc h)
    rw [hc] at CK
    have ST := Lib.hid (fun W => homeM n W hn')
    have NL := Lib.hid (fun k => nowAt_len n ls k)
    have NZ := Lib.hid (nowAt_zero n ls)
    clear hn hc
    go_enter Try.func47, Try.ntmps47
    go_wp2_with (first
      | (go_at_call 32; refine (CK.out _ O.out).mono ?_; rintro e w1 ⟨rfl, b1⟩; have B1 := Lib.hid b1; clear b1)
      | (go_at_call 56; refine (ST.out _).mono ?_; rintro e w2 ⟨v0, rfl, o0, b2⟩; have B2 := Lib.hid (B1.out.trans (b2.mono B1.out.size)); have O0 := Lib.hid (show OwnI w2 w.heap.size v0 (nowAt n ls 0) by rw [NZ.out]; exact o0.mono B1.out.size); clear b2 o0))
    clear B1 CK ST
    go_loopw [16] (fun iv wr => ∃ k : Nat, k ≤ ls.length ∧ iv = .int .i64 (k : Int) ∧ Hid (OwnI wr w.heap.size v0 (nowAt n ls k)) ∧ Hid (Below w.heap.size w wr)) (fun iv _ => ls.length - (intOf iv).toNat)
    case atStart => exact ⟨0, by omega, rfl, O0, B2⟩
    case round =>
      clear O0 B2
      obtain ⟨k, hk, rfl, OO, BW⟩ := hrel
      by_cases hlt : k < ls.length
      rotate_left
      · obtain rfl : k = ls.length := by omega
        go_wp2
        go_ret
        exact ⟨_, rfl, by rw [R.out]; exact OO.out, BW.out⟩
      have hk0 : (0 : Int) ≤ (k : Int) := by omega
      have hk1 : (k : Int) < (ls.length : Int) := by omega
      obtain ⟨g, _, f1, _, _, z0, _⟩ := (O.out.below BW.out).spot hlt
      simp only [Value.slice.injEq] at f1
      obtain ⟨rfl, -, rfl⟩ := f1
      have r0 : wr.cell? ⟨g, k * 2, none⟩ = some (.int .i64 ls[k].f0) := z0 0 _ rfl
      have r1 : wr.cell? ⟨g, k * 2 + 1, none⟩ = some (.bool ls[k].f1) := z0 1 _ rfl
      obtain ⟨i, hi, hi1, hsw⟩ := SS.out k hlt
      have SW := Lib.hid (fun W h => swapM v0 (nowAt n ls k) i w.heap.size W h hi1 (by have := NL.out k; omega))
      rw [hi] at r0
      have NM := Lib.hid hsw
      generalize ls[k].f1 = y at r1
      have hbs := BW.out.size
      have LT := Lib.hid (fun x hx => (OO.out.lt x hx).1)
      clear z0 hi hsw hi1
      go_wp2_with (go_at_call 65; refine (SW.out _ (OO.out.alloc _)).mono ?_; rintro e w3 ⟨rfl, o3, g3⟩; have B3 := Lib.hid ((BW.out.alloc hbs _).grown g3 (by simp; omega) LT.out); have O3 := Lib.hid (show OwnI w3 w.heap.size v0 (nowAt n ls (k + 1)) by rw [NM.out]; exact o3); clear o3 g3)
      exact ⟨⟨k + 1, by omega, by go_num, O3, B3⟩, by simp [intOf]; omega⟩
end Go.Proofs.Ythijfipjfdmoeaa
