/- The contract of spec.OrderOk. Condition: the numbers lie in a row of their own. -/
import Derived.Test.YthijfipjfdmoeaaOrdM
import Derived.BigQuiet
namespace Go.Proofs.Ythijfipjfdmoeaa
set_option linter.unusedVariables false
set_option linter.unusedSimpArgs false
open Go.RowKit

set_option maxRecDepth 100000 in
set_option maxHeartbeats 1600000 in
theorem specOrder (v : Value) (zs : List Int) (b : Nat) (w : World) (h : OwnI w b v zs) (hl : zs.length ≤ 2000000) :
    Calls Try.prog 43 #[v] w fun e w' => e = .returned (.bool (orderOk zs)) ∧ Below w.heap.size w w' := by
  obtain ⟨A, c, rfl⟩ := h.slice
  have O := Lib.hid h
  have C0 := Lib.hid (fun v lo hi W => (l01In_any v lo hi W).mono fun e w' h => (show _ ∧ W = w' from ⟨h.1, h.2.symm⟩))
  have e1 := len_sub hl 1 (by omega) (by omega)
  clear h
  go_enter Try.func43, Try.ntmps43
  go_wp2_with fail
  go_loopw [3] (fun iv wr => ∃ k : Nat, k ≤ zs.length ∧ iv = .int .i64 (k : Int) ∧ Hid (ordTo zs k = true) ∧ Hid (Below w.heap.size w wr)) (fun iv _ => zs.length - (intOf iv).toNat)
  case atStart => exact ⟨0, by omega, rfl, rfl, Lib.hid (Below.refl _ _)⟩
  case round =>
    obtain ⟨k, hk, rfl, HT, BW⟩ := hrel
    by_cases hlt : k < zs.length
    rotate_left
    · obtain rfl : k = zs.length := by omega
      have R := Lib.hid (show orderOk zs = inB (zs.length : Int) 1 7 by unfold orderOk; rw [HT.out]; rfl)
      generalize inB (zs.length : Int) 1 7 = r at R
      have C1 := Lib.hid (C0.out (zs.length : Int) 1 7 wr)
      go_wp2_with (go_at_call 48; refine (C0.out _ _ _ _).mono ?_; rintro e w' ⟨rfl, rfl⟩)
      go_ret
      exact ⟨by unfold orderOk; rw [HT.out]; rfl, BW.out⟩
    have hk0 : (0 : Int) ≤ (k : Int) := by omega
    have hk1 : (k : Int) < (zs.length : Int) := by omega
    obtain ⟨g, _, f1, _, _, z0, _⟩ := (O.out.below BW.out).spot hlt
    simp only [Value.slice.injEq] at f1
    obtain ⟨rfl, em, rfl⟩ := f1
    clear em
    have NO := Lib.hid (fun hf => order_no (zs := zs) hlt hf)
    have AT := Lib.hid (show ordAt zs k = (inB zs[k] 0 ((zs.length : Int) - 1) && noneIs zs zs[k] k) by unfold ordAt; rw [atI_of hlt])
    have NM := Lib.hid (fun i (hi : i < zs.length) => noneIs_more (x := zs[k]) hi)
    have HK := Lib.hid (fun W (hb : Below w.heap.size w W) => (by
      obtain ⟨_, _, f1, _, _, z0, _⟩ := (O.out.below hb).spot hlt
      simp only [Value.slice.injEq, Option.some.injEq, Addr.mk.injEq] at f1
      obtain ⟨⟨rfl, _⟩, _⟩ := f1
      exact z0 : W.cell? ⟨g, k, none⟩ = some (.int .i64 zs[k])))
    generalize zs[k] = x at z0 AT NM HK
    cases hx : inB x 0 ((zs.length : Int) - 1) with
    | false =>
      have R := Lib.hid (NO.out (by rw [AT.out, hx]; rfl))
      go_wp2_with (go_at_call 48; refine (C0.out _ _ _ _).mono ?_; rintro e w' ⟨rfl, rfl⟩)
      go_ret
      exact ⟨by rw [R.out]; rfl, BW.out⟩
    | true =>
      go_wp2_with (go_at_call 48; refine (C0.out _ _ _ _).mono ?_; rintro e w' ⟨rfl, rfl⟩)
      clear z0
      go_loopw [4] (fun jv wr => ∃ i : Nat, i ≤ k ∧ jv = .int .i64 (i : Int) ∧ Hid (noneIs zs x i = true) ∧ Hid (Below w.heap.size w wr)) (fun jv _ => k - (intOf jv).toNat)
      case atStart => exact ⟨0, by omega, rfl, rfl, BW⟩
      case round =>
        clear BW
        obtain ⟨i, hi, rfl, HN, BW⟩ := hrel
        by_cases hik : i < k
        · have hin : i < zs.length := by omega
          have z0 := HK.out _ BW.out
          obtain ⟨_, _, f1, _, _, z1, _⟩ := (O.out.below BW.out).spot hin
          simp only [Value.slice.injEq, Option.some.injEq, Addr.mk.injEq] at f1
          obtain ⟨⟨rfl, _⟩, _⟩ := f1
          have MO := Lib.hid (NM.out i hin)
          have LE := Lib.hid (fun (hf : noneIs zs x (i + 1) = false) => (show noneIs zs x k = false by
            cases hh : noneIs zs x k with
            | false => rfl
            | true =>
              have := noneIs_of (zs := zs) (x := x) (k := i + 1) (by omega) fun j hj => noneIs_at hh (by omega) (by omega)
              rw [this] at hf
              cases hf))
          generalize zs[i] = y at z1 MO
          have hi0 : (0 : Int) ≤ (i : Int) := by omega
          have hi1 : (i : Int) < (zs.length : Int) := by omega
          have hi2 : (i : Int) < (k : Int) := by omega
          by_cases he : y = x
          · have R := Lib.hid (NO.out (by rw [AT.out, LE.out (by rw [MO.out, he]; simp), Bool.and_false]))
            have hbe : (y == x) = true := by simpa using he
            clear he
            go_wp2
            go_quiet (fail)
            go_wp2
            go_ret
            exact ⟨by rw [R.out]; rfl, below_drewN BW.out _⟩
          · have M2 := Lib.hid (show noneIs zs x (i + 1) = true by rw [MO.out, HN.out]; simpa using he)
            have hbe : (y == x) = false := by simpa using he
            clear he
            go_wp2
            go_quiet (fail)
            go_wp2
            exact ⟨⟨i + 1, by omega, by go_num, M2, Lib.hid (below_drewN BW.out _)⟩, by simp [intOf]; omega⟩
        · obtain rfl : i = k := by omega
          have T2 := Lib.hid (show ordTo zs (i + 1) = true by rw [ordTo, HT.out, AT.out, hx, HN.out]; rfl)
          have hi2 : ¬ (i : Int) < (i : Int) := by omega
          go_wp2
          exact ⟨⟨i + 1, by omega, by go_num, T2, BW⟩, by simp [intOf]; omega⟩
end Go.Proofs.Ythijfipjfdmoeaa
