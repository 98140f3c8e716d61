/- The contract of spec.SwapAt. Condition: the numbers lie in a row of their own. -/
import Derived.Test.YthijfipjfdmoeaaOrdO
import Derived.Test.YthijfipjfdmoeaaSwpM
import Derived.Test.YthijfipjfdmoeaaRowI
namespace Go.Proofs.Ythijfipjfdmoeaa
set_option linter.unusedVariables false
set_option linter.unusedSimpArgs false
open Go.RowKit

set_option maxRecDepth 100000 in
set_option maxHeartbeats 1600000 in
theorem specSwap (v : Value) (zs : List Int) (k : Int) (b : Nat) (w : World) (h : OwnI w b v zs) (hl : zs.length ≤ 2000000) :
    Calls Try.prog 45 #[v, .int .i64 k] w (IntsB w (swapR zs k)) := by
  have CO := Lib.hid (fun W h => specOrder v zs b W h hl)
  obtain ⟨A, c, rfl⟩ := h.slice
  have O := Lib.hid h
  have C0 := Lib.hid (fun v lo hi W => (l01In_any v lo hi W).mono fun e w' h => (show _ ∧ W = w' from ⟨h.1, h.2.symm⟩))
  have e1 := len_sub hl 2 (by omega) (by omega)
  have E0 := Lib.hid (ownI_empty w w.heap.size w.heap.size #[] rfl (Nat.le_refl _) rfl)
  have lo := fun q hq => (h.lt q hq).2
  clear h
  go_enter Try.func45, Try.ntmps45
  go_wp2_with (at_builtin; refine wpList_rowsI rfl (.tmp 7) (.tmp 8) rfl w.heap.size b (.slice (some ⟨w.heap.size, 0, none⟩) 0 0) (.slice A zs.length c) [] zs rfl rfl E0.out (O.out.alloc _) ?_ ?_ ?_; (simp only [List.length_nil]; omega); (simp); intro v1 w1 o1 g1 hat; replace o1 : OwnI w1 w.heap.size v1 zs := o1; obtain ⟨B, d, rfl⟩ := o1.slice; have b1 : Below w.heap.size w w1 := ((Below.refl _ _).alloc (Nat.le_refl _) _).grown g1 (by simp) (fun q hq => (E0.out.lt q hq).1); have O1 := Lib.hid o1; have B1 := Lib.hid b1; clear o1 b1 g1 hat)
  cases hok : orderOk zs with
  | false =>
    have R := Lib.hid (swapR_no (k := k) (.inl hok))
    have C1 := Lib.hid (hok ▸ CO.out _ (O.out.below B1.out))
    clear hok
    go_wp2_with (go_at_call 43; refine C1.out.mono ?_; rintro e w2 ⟨rfl, b2⟩)
    go_ret2
    exact ⟨_, by rw [R.out]; rfl, by rw [R.out]; exact O1.out.below b2, B1.out.trans (b2.mono B1.out.size)⟩
  | true =>
  have C1 := Lib.hid (hok ▸ CO.out _ (O.out.below B1.out))
  have HO := Lib.hid (order_iff.1 hok)
  clear CO hok
  cases hin : inB k 0 ((zs.length : Int) - 2) with
  | false =>
    have R := Lib.hid (swapR_no (zs := zs) (.inr hin))
    go_wp2_with (first | (go_at_call 43; refine C1.out.mono ?_; rintro e w2 ⟨rfl, b2⟩) | (go_at_call 48; refine (C0.out _ _ _ _).mono ?_; rintro e w' ⟨rfl, rfl⟩))
    go_ret2
    exact ⟨_, by rw [R.out]; rfl, by rw [R.out]; exact O1.out.below b2, B1.out.trans (b2.mono B1.out.size)⟩
  | true =>
  have hkr : 0 ≤ k ∧ k ≤ (zs.length : Int) - 2 := by simpa [inB] using hin
  obtain ⟨q, rfl⟩ := Int.eq_ofNat_of_zero_le hkr.1
  have hq1 : q + 1 < zs.length := by omega
  have hq : q < zs.length := by omega
  have R := Lib.hid (swapR_yes HO.out hq1)
  have hl7 := HO.out.len
  go_wp2_with fail
  refine C1.out.mono ?_
  rintro e w2 ⟨rfl, b2⟩
  have O2 := Lib.hid (O1.out.below b2)
  have B2 := Lib.hid (B1.out.trans (b2.mono B1.out.size))
  clear b2 C1 O1 B1
  obtain ⟨g, _, f1, _, _, z0, _⟩ := (O.out.below B2.out).spot hq
  simp only [Value.slice.injEq] at f1
  obtain ⟨rfl, em, rfl⟩ := f1
  clear em
  obtain ⟨_, _, f1, _, _, z1, _⟩ := (O.out.below B2.out).spot hq1
  simp only [Value.slice.injEq, Option.some.injEq, Addr.mk.injEq] at f1
  obtain ⟨⟨rfl, -⟩, -⟩ := f1
  obtain ⟨go, _, f2, hgo, _, u0, t0⟩ := O2.out.spot hq
  simp only [Value.slice.injEq] at f2
  obtain ⟨rfl, em, rfl⟩ := f2
  clear em
  obtain ⟨_, _, f2, _, _, u1, t1⟩ := O2.out.spot hq1
  simp only [Value.slice.injEq, Option.some.injEq, Addr.mk.injEq] at f2
  obtain ⟨⟨rfl, -⟩, -⟩ := f2
  have glt := lo g rfl
  have s1 := O2.out.set rfl q (atI zs (q + 1))
  have s2 := s1.1.set (by simp) (q + 1) (atI zs q)
  have FIN := Lib.hid (show OwnI _ w.heap.size _ (swapL zs q) ∧ Below w.heap.size w _ from ⟨s2.1, ((B2.out.grown s1.2 B2.out.size (fun x hx => by have := Option.some.inj hx; omega)).grown s2.2 (by simpa using B2.out.size) (fun x hx => by have := Option.some.inj hx; omega))⟩)
  rw [atI_of hq, atI_of hq1] at FIN
  clear s1 s2
  have hk0 : (0 : Int) ≤ (q : Int) := by omega
  have hk1 : (q : Int) < (zs.length : Int) := by omega
  have hk2 : (0 : Int) ≤ (q : Int) + 1 := by omega
  have hk3 : (q : Int) + 1 < (zs.length : Int) := by omega
  have e2 : IntKind.i64.wrap ((q : Int) + 1) = (q : Int) + 1 := IntWalk.i64_in _ (by omega)
  have n1 : ¬ g = go := by omega
  have n2 : ¬ go = g := by omega
  generalize zs[q] = x at z0 u0 FIN
  generalize zs[q + 1] = y at z1 u1 FIN
  go_wp2_with (go_at_call 48; refine (C0.out _ _ _ _).mono ?_; rintro e w' ⟨rfl, rfl⟩)
  go_ret2
  exact ⟨_, by rw [R.out]; rfl, by rw [R.out]; exact FIN.out.1, FIN.out.2⟩
end Go.Proofs.Ythijfipjfdmoeaa
