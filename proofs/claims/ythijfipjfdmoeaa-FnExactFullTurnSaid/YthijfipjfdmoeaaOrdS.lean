/- The contract of spec.CountInversions. Condition: the numbers lie in a row of their own. -/
import Derived.Test.YthijfipjfdmoeaaSrtM
import Derived.Test.YthijfipjfdmoeaaOrdO
import Derived.BigQuiet
namespace Go.Proofs.Ythijfipjfdmoeaa
set_option linter.unusedVariables false
set_option linter.unusedSimpArgs false
open Go.RowKit

set_option maxRecDepth 100000 in
set_option maxHeartbeats 1600000 in
theorem specInv (v : Value) (zs : List Int) (b : Nat) (w : World) (h : OwnI w b v zs) (hl : zs.length ≤ 2000000) :
    Calls Try.prog 16 #[v] w fun e w' => e = .returned (.int .i64 (if orderOk zs = true then (invs zs : Int) else -1)) ∧ Below w.heap.size w w' := by
  have CO := Lib.hid (specOrder v zs b w h hl)
  obtain ⟨A, c, rfl⟩ := h.slice
  have O := Lib.hid h
  clear h
  cases hok : orderOk zs with
  | false =>
    have R := Lib.hid (show (if (false = true) then (invs zs : Int) else -1) = -1 from rfl)
    rw [hok] at CO
    go_enter Try.func16, Try.ntmps16
    go_wp2_with (go_at_call 43; refine CO.out.mono ?_; rintro e w1 ⟨rfl, b1⟩)
    go_ret
    exact ⟨rfl, b1⟩
  | true =>
  rw [hok] at CO
  rw [if_pos rfl]
  have hl7 := (order_iff.1 hok).len
  clear hok
  go_enter Try.func16, Try.ntmps16
  go_wp2_with fail
  refine CO.out.mono ?_
  rintro e w1 ⟨rfl, b1⟩
  have B1 := Lib.hid b1
  clear b1 CO
  go_wp2_with fail
  go_loopw [3, 4] (fun nv iv wr => ∃ k : Nat, k ≤ zs.length ∧ iv = .int .i64 (k : Int) ∧ nv = .int .i64 (invF (atI zs) k : Int) ∧ Hid (Below w.heap.size w wr)) (fun _ iv _ => zs.length - (intOf iv).toNat)
  case atStart => exact ⟨0, by omega, rfl, rfl, B1⟩
  case round =>
    clear B1
    obtain ⟨k, hk, rfl, rfl, BW⟩ := hrel
    by_cases hlt : k < zs.length
    rotate_left
    · obtain rfl : k = zs.length := by omega
      go_wp2
      go_ret
      exact ⟨rfl, BW.out⟩
    have hk0 : (0 : Int) ≤ (k : Int) := by omega
    have hk1 : (k : Int) < (zs.length : Int) := by omega
    have VL := Lib.hid (inv_le (atI zs) k)
    have STP := Lib.hid (show invF (atI zs) (k + 1) = invF (atI zs) k + above (atI zs) zs[k] k by rw [invF, atI_of hlt])
    have HK := Lib.hid (fun W (hb : Below w.heap.size w W) => (O.out.below hb).spot hlt)
    have AB := Lib.hid (fun i => above_le (atI zs) zs[k] i)
    have AM := Lib.hid (fun i (hi : i < zs.length) => (show above (atI zs) zs[k] (i + 1) = above (atI zs) zs[k] i + if zs[k] < zs[i] then 1 else 0 by rw [above, atI_of hi]))
    generalize zs[k] = x at STP HK AB AM
    have hv : (invF (atI zs) k : Int) ≤ 49 := by
      have h1 := VL.out
      have h2 : k * k ≤ 7 * 7 := Nat.mul_le_mul (by omega) (by omega)
      omega
    generalize hq : invF (atI zs) k = q at STP hv
    have HQ := Lib.hid hq
    clear hq
    go_wp2_with fail
    go_loopw [3, 5] (fun nv jv wr => ∃ i : Nat, i ≤ k ∧ jv = .int .i64 (i : Int) ∧ nv = .int .i64 ((q + above (atI zs) x i : Nat) : Int) ∧ Hid (Below w.heap.size w wr)) (fun _ jv _ => k - (intOf jv).toNat)
    case atStart => exact ⟨0, by omega, rfl, rfl, BW⟩
    case round =>
      clear BW
      obtain ⟨i, hi, rfl, rfl, BW⟩ := hrel
      by_cases hik : i < k
      · have hin : i < zs.length := by omega
        obtain ⟨g, _, f1, _, _, z0, _⟩ := HK.out _ BW.out
        simp only [Value.slice.injEq] at f1
        obtain ⟨rfl, em, rfl⟩ := f1
        clear em
        obtain ⟨_, _, f1, _, _, z1, _⟩ := (O.out.below BW.out).spot hin
        simp only [Value.slice.injEq, Option.some.injEq, Addr.mk.injEq] at f1
        obtain ⟨⟨rfl, _⟩, _⟩ := f1
        have MO := Lib.hid (AM.out i hin)
        have hal := AB.out i
        generalize zs[i] = y at z1 MO
        generalize above (atI zs) x i = t at MO hal
        have hi0 : (0 : Int) ≤ (i : Int) := by omega
        have hi1 : (i : Int) < (zs.length : Int) := by omega
        have hi2 : (i : Int) < (k : Int) := by omega
        by_cases he : x < y
        · have E := Lib.hid (show ((q + t : Nat) : Int) + 1 = ((q + above (atI zs) x (i + 1) : Nat) : Int) by rw [MO.out, if_pos he]; omega)
          have e2 : IntKind.i64.wrap (((q + t : Nat) : Int) + 1) = ((q + t : Nat) : Int) + 1 := IntWalk.i64_in _ (by omega)
          generalize ((q + t : Nat) : Int) = s at E e2
          have dx : decide (x < y) = true := decide_eq_true he
          clear he
          go_wp2
          go_quiet (fail)
          go_wp2
          exact ⟨⟨i + 1, by omega, by go_num, by rw [E.out], Lib.hid (below_drewN BW.out _)⟩, by simp [intOf]; omega⟩
        · have E := Lib.hid (show ((q + t : Nat) : Int) = ((q + above (atI zs) x (i + 1) : Nat) : Int) by rw [MO.out, if_neg he]; omega)
          generalize ((q + t : Nat) : Int) = s at E
          have dx : decide (x < y) = false := decide_eq_false he
          clear he
          go_wp2
          go_quiet (fail)
          go_wp2
          exact ⟨⟨i + 1, by omega, by go_num, by rw [E.out], Lib.hid (below_drewN BW.out _)⟩, by simp [intOf]; omega⟩
      · obtain rfl : i = k := by omega
        have E := Lib.hid (show ((q + above (atI zs) x i : Nat) : Int) = (invF (atI zs) (i + 1) : Int) by rw [STP.out])
        generalize ((q + above (atI zs) x i : Nat) : Int) = s at E
        have hi2 : ¬ (i : Int) < (i : Int) := by omega
        go_wp2
        exact ⟨⟨i + 1, by omega, by go_num, by rw [E.out], BW⟩, by simp [intOf]; omega⟩
end Go.Proofs.Ythijfipjfdmoeaa
