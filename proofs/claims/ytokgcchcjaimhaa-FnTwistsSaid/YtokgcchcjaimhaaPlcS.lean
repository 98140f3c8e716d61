/- The contract of spec.PlaceOf. Condition: the numbers lie in a row of their own. -/
import Derived.Test.YtokgcchcjaimhaaSrtM
import Derived.Test.YtokgcchcjaimhaaOrdO
import Derived.BigQuiet
namespace Go.Proofs.Ytokgcchcjaimhaa
set_option linter.unusedVariables false
set_option linter.unusedSimpArgs false
open Go.RowKit

set_option maxRecDepth 100000 in
set_option maxHeartbeats 1600000 in
theorem specPlace (v : Value) (zs : List Int) (x : Int) (b : Nat) (w : World) (h : OwnI w b v zs) (hl : zs.length ≤ 2000000) :
    Calls Try.prog 15 #[v, .int .i64 x] w fun e w' => e = .returned (.int .i64 (placeOf zs x)) ∧ Below w.heap.size w w' := by
  have CO := Lib.hid (fun W h => specOrder v zs b W h hl)
  obtain ⟨A, c, rfl⟩ := h.slice
  have O := Lib.hid h
  clear h
  cases hok : orderOk zs with
  | false =>
    have R := Lib.hid (show placeOf zs x = -1 by unfold placeOf; rw [hok]; rfl)
    rw [hok] at CO
    clear hok
    go_enter Try.func15, Try.ntmps15
    go_wp2_with fail
    go_loopw [5] (fun iv wr => iv = .int .i64 0 ∧ Hid (Below w.heap.size w wr)) (fun iv _ => 0)
    case atStart => exact ⟨rfl, Lib.hid (Below.refl _ _)⟩
    case round =>
      obtain ⟨rfl, BW⟩ := hrel
      have CW := Lib.hid (CO.out _ (O.out.below BW.out))
      by_cases h0 : zs.length = 0
      · have hk1 : ¬ (0 : Int) < (zs.length : Int) := by omega
        clear h0
        go_wp2
        go_ret
        exact ⟨by rw [R.out]; rfl, BW.out⟩
      · have hk1 : (0 : Int) < (zs.length : Int) := by omega
        clear h0
        go_wp2_with (go_at_call 46; refine CW.out.mono ?_; rintro e w1 ⟨rfl, b1⟩)
        go_ret
        exact ⟨by rw [R.out]; rfl, BW.out.trans (b1.mono BW.out.size)⟩
  | true =>
  have R := Lib.hid (show placeOf zs x = placeTo (atI zs) x zs.length by unfold placeOf; rw [hok]; rfl)
  rw [hok] at CO
  clear hok
  go_enter Try.func15, Try.ntmps15
  go_wp2_with fail
  go_loopw [5] (fun iv wr => ∃ k : Nat, k ≤ zs.length ∧ iv = .int .i64 (k : Int) ∧ Hid (placeTo (atI zs) x k = -1) ∧ Hid (Below w.heap.size w wr)) (fun iv _ => zs.length - (intOf iv).toNat)
  case atStart => exact ⟨0, by omega, rfl, rfl, Lib.hid (Below.refl _ _)⟩
  case round =>
    obtain ⟨k, hk, rfl, HP, BW⟩ := hrel
    by_cases hlt : k < zs.length
    rotate_left
    · obtain rfl : k = zs.length := by omega
      have R2 := Lib.hid (show placeOf zs x = -1 by rw [R.out, HP.out])
      go_wp2
      go_ret
      exact ⟨by rw [R2.out]; rfl, BW.out⟩
    have hk0 : (0 : Int) ≤ (k : Int) := by omega
    have hk1 : (k : Int) < (zs.length : Int) := by omega
    have CW := Lib.hid (CO.out _ (O.out.below BW.out))
    have HK := Lib.hid (fun W (hb : Below w.heap.size w W) => (O.out.below hb).spot hlt)
    have FD := Lib.hid (fun (e : zs[k] = x) => (show placeOf zs x = (k : Int) by rw [R.out]; exact place_keep hlt HP.out (by rw [atI_of hlt]; exact e)))
    have NF := Lib.hid (fun (e : ¬ zs[k] = x) => place_not HP.out (by rw [atI_of hlt]; exact e))
    generalize zs[k] = y at HK FD NF
    go_wp2_with fail
    refine CW.out.mono ?_
    rintro e w1 ⟨rfl, b1⟩
    have B1 := Lib.hid (BW.out.trans (b1.mono BW.out.size))
    clear b1 CW
    obtain ⟨g, _, f1, _, _, z0, _⟩ := HK.out _ B1.out
    simp only [Value.slice.injEq] at f1
    obtain ⟨rfl, em, rfl⟩ := f1
    clear em
    by_cases he : y = x
    · have R2 := Lib.hid (FD.out he)
      have hbe : (y == x) = true := by simpa using he
      clear he FD NF
      go_wp2
      go_ret
      exact ⟨by rw [R2.out]; rfl, B1.out⟩
    · have N2 := Lib.hid (NF.out he)
      have hbe : (y == x) = false := by simpa using he
      clear he FD NF
      go_wp2
      exact ⟨⟨k + 1, by omega, by go_num, N2, B1⟩, by simp [intOf]; omega⟩
end Go.Proofs.Ytokgcchcjaimhaa
