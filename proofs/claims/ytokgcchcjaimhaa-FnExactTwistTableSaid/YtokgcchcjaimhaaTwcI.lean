/- The contract of impl.TotalTwist. Condition: the crossings lie in a row of their own. -/
import Derived.Test.YtokgcchcjaimhaaTwaI
import Derived.Test.YtokgcchcjaimhaaTwdM
namespace Go.Proofs.Ytokgcchcjaimhaa
set_option linter.unusedVariables false
set_option linter.unusedSimpArgs false
open Go.RowKit

set_option maxRecDepth 100000 in
set_option maxHeartbeats 1600000 in
theorem implTot (n : Int) (v : Value) (ls : List RCross) (b : Nat) (w : World) (h : OwnCross w b v ls) (hl : ls.length ≤ 2000000) :
    Calls Try.prog 19 #[.int .i64 n, v] w fun e w' => e = .returned (.int .i64 (totalTw n ls)) ∧ Below w.heap.size w w' := by
  have CK := Lib.hid (implCrOk n v ls b w h hl)
  obtain ⟨A, c, rfl⟩ := h.slice
  have O := Lib.hid h
  clear h
  cases hc : crossOk n ls with
  | false =>
    have R := Lib.hid (show totalTw n ls = 0 by unfold totalTw; rw [hc]; rfl)
    rw [hc] at CK
    go_enter Try.func19, Try.ntmps19
    go_wp2_with (go_at_call 39; refine CK.out.mono ?_; rintro e w1 ⟨rfl, b1⟩; have B1 := Lib.hid b1; clear b1)
    go_ret
    exact ⟨by rw [R.out]; rfl, B1.out⟩
  | true =>
    have h40 := (crossOk_has hc).2.1
    have R := Lib.hid (show totalTw n ls = totTo ls ls.length by unfold totalTw; rw [if_pos hc])
    rw [hc] at CK
    have SM := Lib.hid (fun k => tot_small ls k)
    have ST := Lib.hid (show ∀ k (hk : k < ls.length), totTo ls (k + 1) = totTo ls k + if ls[k].f1 = true then 1 else -1 from fun k hk => by rw [totTo, List.getD_eq_getElem?_getD, List.getElem?_eq_getElem hk]; rfl)
    go_enter Try.func19, Try.ntmps19
    go_wp2_with (go_at_call 39; refine CK.out.mono ?_; rintro e w1 ⟨rfl, b1⟩; have B1 := Lib.hid b1; clear b1)
    go_loopw [5, 14] (fun ov iv wr => ∃ k : Nat, k ≤ ls.length ∧ iv = .int .i64 (k : Int) ∧ ov = .int .i64 (totTo ls k) ∧ Hid (Below w.heap.size w wr)) (fun _ iv _ => ls.length - (intOf iv).toNat)
    case atStart => exact ⟨0, by omega, rfl, rfl, B1⟩
    case round =>
      clear B1
      obtain ⟨k, hk, rfl, rfl, BW⟩ := hrel
      by_cases hlt : k < ls.length
      rotate_left
      · obtain rfl : k = ls.length := by omega
        go_wp2
        go_ret
        exact ⟨by rw [R.out]; rfl, BW.out⟩
      have hk0 : (0 : Int) ≤ (k : Int) := by omega
      have hk1 : (k : Int) < (ls.length : Int) := by omega
      obtain ⟨gl, _, f1, _, lt1, z0, _⟩ := O.out.spot hlt
      simp only [Value.slice.injEq] at f1
      obtain ⟨rfl, -, rfl⟩ := f1
      have l0 : wr.cell? ⟨gl, k * 2, none⟩ = some (.int .i64 ls[k].f0) := (z0.below BW.out lt1) 0 _ rfl
      have l1 : wr.cell? ⟨gl, k * 2 + 1, none⟩ = some (.bool ls[k].f1) := (z0.below BW.out lt1) 1 _ rfl
      have sm := SM.out k
      have st := ST.out k hlt
      have BY := Lib.hid (fun W => implBy ls[k].f0 ls[k].f1 W)
      obtain ⟨s, hs, hs1, hs2⟩ : ∃ s : Int, (if ls[k].f1 = true then (1 : Int) else -1) = s ∧ -1 ≤ s ∧ s ≤ 1 := ⟨_, rfl, by split <;> omega, by split <;> omega⟩
      rw [hs] at BY st
      generalize ls[k].f0 = x at l0 BY
      generalize ls[k].f1 = y at l1 BY hs
      generalize totTo ls k = z at sm st ⊢
      have ST2 := Lib.hid st
      clear st z0 hs
      have e2 : IntKind.i64.wrap (z + s) = z + s := IntWalk.i64_in _ (by omega)
      have B2 := Lib.hid ((BW.out.alloc BW.out.size (.cells #[.int .i64 x, .bool y] 60)).alloc (by have := BW.out.size; simp; omega) (.cells #[.int .i64 x, .bool y] 60))
      go_wp2_with (go_at_call 47; refine (BY.out _).mono ?_; rintro e w' ⟨rfl, rfl⟩)
      exact ⟨⟨k + 1, by omega, by go_num, by rw [ST2.out], B2⟩, by simp [intOf]; omega⟩
end Go.Proofs.Ytokgcchcjaimhaa
