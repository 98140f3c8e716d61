/- The program's first descent and copy of an order; OrderOk. Condition: the numbers lie in a row of their own. -/
import Derived.Test.YthijfipjfdmoeaaOrdN
import Derived.Test.YthijfipjfdmoeaaRowI
import Derived.Test.YthijfipjfdmoeaaOrdW
namespace Go.Proofs.Ythijfipjfdmoeaa
set_option linter.unusedVariables false
set_option linter.unusedSimpArgs false
open Go.RowKit

set_option maxRecDepth 100000 in
set_option maxHeartbeats 800000 in
theorem fallM (v : Value) (zs : List Int) (b : Nat) (w : World) (h : OwnI w b v zs) (ho : IsOrd zs) :
    Calls Try.prog 64 #[v] w fun e w' => e = .returned (.int .i64 (fall zs)) ∧ Below w.heap.size w w' := by
  have hl7 := ho.len
  obtain ⟨A, c, rfl⟩ := h.slice
  have O := Lib.hid h
  have HO := Lib.hid ho
  have e1 := len_sub (show zs.length ≤ 2000000 by omega) 1 (by omega) (by omega)
  clear h
  go_enter Try.func64, Try.ntmps64
  go_wp2_with fail
  go_loopw [7] (fun iv wr => ∃ k : Nat, k + 1 ≤ zs.length ∧ iv = .int .i64 (k : Int) ∧ Hid (∀ i, i < k → ¬ atI zs (i + 1) < atI zs i) ∧ Hid (Below w.heap.size w wr)) (fun iv _ => zs.length - (intOf iv).toNat)
  case atStart => exact ⟨0, by omega, rfl, Lib.hid (fun i hi => absurd hi (by omega)), Lib.hid (Below.refl _ _)⟩
  case round =>
    obtain ⟨k, hk, rfl, HN, BW⟩ := hrel
    by_cases hlt : k + 1 < zs.length
    rotate_left
    · obtain hkk : k + 1 = zs.length := by omega
      have R := Lib.hid (fall_not (zs := zs) fun i hi => HN.out i (by omega))
      have hk2 : ¬ (k : Int) < (zs.length : Int) - 1 := by omega
      go_wp2
      go_ret
      exact ⟨by rw [R.out]; rfl, BW.out⟩
    have h1 : k < zs.length := by omega
    have hk0 : (0 : Int) ≤ (k : Int) := by omega
    have hk1 : (k : Int) < (zs.length : Int) := by omega
    have hk2 : (k : Int) < (zs.length : Int) - 1 := by omega
    have hk3 : (0 : Int) ≤ (k : Int) + 1 := by omega
    have hk4 : (k : Int) + 1 < (zs.length : Int) := by omega
    have e2 : IntKind.i64.wrap ((k : Int) + 1) = (k : Int) + 1 := IntWalk.i64_in _ (by omega)
    have FD := Lib.hid (fun h => fall_at HO.out hlt HN.out h)
    have NF := Lib.hid (fun (h : ¬ atI zs (k + 1) < atI zs k) => (show ∀ i, i < k + 1 → ¬ atI zs (i + 1) < atI zs i from fun i hi => by
      rcases Nat.lt_or_ge i k with q | q
      · exact HN.out i q
      · obtain rfl : i = k := by omega
        exact h))
    rw [atI_of h1, atI_of hlt] at FD NF
    obtain ⟨g, _, f1, _, _, z0, _⟩ := (O.out.below BW.out).spot h1
    simp only [Value.slice.injEq] at f1
    obtain ⟨rfl, em, rfl⟩ := f1
    clear em
    obtain ⟨_, _, f1, _, _, z1, _⟩ := (O.out.below BW.out).spot hlt
    simp only [Value.slice.injEq, Option.some.injEq, Addr.mk.injEq] at f1
    obtain ⟨⟨rfl, _⟩, _⟩ := f1
    generalize zs[k] = x at z0 FD NF
    generalize zs[k + 1] = y at z1 FD NF
    by_cases he : y < x
    · have R := Lib.hid (FD.out he)
      have dx : decide (y < x) = true := decide_eq_true he
      clear he FD NF
      go_wp2
      go_quiet (fail)
      go_wp2
      go_ret
      exact ⟨by rw [R.out]; rfl, below_drewN BW.out _⟩
    · have N2 := Lib.hid (NF.out he)
      have dx : decide (y < x) = false := decide_eq_false he
      clear he FD NF
      go_wp2
      go_quiet (fail)
      go_wp2
      exact ⟨⟨_, _, _, ⟨k + 1, by omega, by go_num, N2, Lib.hid (below_drewN BW.out _)⟩, rfl, rfl, rfl⟩, by simp [intOf]; omega⟩

set_option maxHeartbeats 800000 in
theorem cloneI_any (v : Value) (zs : List Int) (base : Nat) (w : World) (hown : OwnI w base v zs) (hl : zs.length ≤ 3000000) :
    Calls Try.prog 63 #[v] w fun e w' => ∃ v', e = .returned v' ∧ OwnI w' w.heap.size v' zs ∧ Below w.heap.size w w' := by
  rcases id hown.2 with ⟨rfl, hn⟩ | ⟨g, cap, cur, rfl, _⟩
  · have hy : zs = [] := List.eq_nil_of_length_eq_zero hn
    subst hy
    have ke := fun W => Lib.run_eql_slice_nil (P := Try.prog) W 36 3 none 0 0 0 0 Try.underlying36
    clear hown hn
    go_enter Try.func63, Try.ntmps63
    go_wp2
    go_ret
    exact ⟨_, rfl, ⟨rfl, .inl ⟨rfl, rfl⟩⟩, Below.refl _ _⟩
  · have OWN := Lib.hid (hown.alloc (.cells #[] 3))
    have O0 := Lib.hid (ownI_empty w w.heap.size w.heap.size #[] rfl (Nat.le_refl _) rfl)
    have ke := fun W => Lib.run_eql_slice_nil (P := Try.prog) W 36 3 (some ⟨g, 0, none⟩) zs.length cap 0 0 Try.underlying36
    clear hown
    go_enter Try.func63, Try.ntmps63
    go_wp2_with (at_builtin; refine wpList_rowsI rfl (.tmp 5) (.tmp 6) rfl w.heap.size base (.slice (some ⟨w.heap.size, 0, none⟩) 0 0) (.slice (some ⟨g, 0, none⟩) zs.length cap) [] zs rfl rfl O0.out OWN.out ?_ ?_ ?_; (simp; omega); (simp); intro v' w1 own1 hgrow hat)
    go_ret
    refine ⟨_, rfl, own1, ((Below.refl w.heap.size w).alloc (Nat.le_refl _) _).grown hgrow (by simp) (fun k hk => ?_)⟩
    have : w.heap.size = k := by simpa [Value.ownBlock] using hk
    omega

theorem implOrder (v : Value) (zs : List Int) (b : Nat) (w : World) (h : OwnI w b v zs) (hl : zs.length ≤ 2000000) :
    Calls Try.prog 62 #[v] w fun e w' => e = .returned (.bool (orderOk zs)) ∧ Below w.heap.size w w' := by
  have C := Lib.hid ((isOkM v zs b w h hl).mono fun e w' h => (show _ ∧ w = w' from ⟨h.1, h.2.symm⟩))
  obtain ⟨A, c, rfl⟩ := h.slice
  clear h
  go_enter Try.func62, Try.ntmps62
  go_wp2_with (go_at_call 71; refine C.out.mono ?_; rintro e w' ⟨rfl, rfl⟩)
  go_ret
  exact ⟨rfl, Below.refl _ _⟩
theorem orderQ (v : Value) (zs : List Int) (b : Nat) (w : World) (h : OwnI w b v zs) (hl : zs.length ≤ 2000000) :
    Calls Try.prog 62 #[v] w fun e w' => e = .returned (.bool (orderOk zs)) ∧ w = w' := by
  have C := Lib.hid ((isOkM v zs b w h hl).mono fun e w' h => (show _ ∧ w = w' from ⟨h.1, h.2.symm⟩))
  obtain ⟨A, c, rfl⟩ := h.slice
  clear h
  go_enter Try.func62, Try.ntmps62
  go_wp2_with (go_at_call 71; refine C.out.mono ?_; rintro e w' ⟨rfl, rfl⟩)
  go_ret
  exact ⟨rfl, rfl⟩
end Go.Proofs.Ythijfipjfdmoeaa
