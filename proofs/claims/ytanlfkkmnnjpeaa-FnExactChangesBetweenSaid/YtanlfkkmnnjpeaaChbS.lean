/- The contract of spec.ChangesBetween. Condition: the numbers lie in rows of their own. -/
import Derived.Test.YtanlfkkmnnjpeaaChgM
import Derived.Test.YtanlfkkmnnjpeaaRowB
import Derived.BigQuiet
namespace Go.Proofs.Ytanlfkkmnnjpeaa
set_option linter.unusedVariables false
set_option linter.unusedSimpArgs false
open Go.RowKit

theorem ch_max {ps cast nx af : List Int} (h1 : ps.length ≤ 2000000) (h2 : nx.length ≤ 2000000) {i : Nat} (hi : i ≤ ps.length) : 0 ≤ chTo ps cast nx af i ∧ chTo ps cast nx af i ≤ 4000000000000 := by
  have h := chTo_small ps cast nx af i
  have e : (nx.length : Int) * (i : Int) ≤ 2000000 * 2000000 := Int.mul_le_mul (by omega) (by omega) (by omega) (by omega)
  omega

set_option maxRecDepth 100000 in
set_option maxHeartbeats 3200000 in
theorem specChb (v1 v2 v3 v4 : Value) (ps cast nx af : List Int) (b1 b2 b3 b4 : Nat) (w : World) (o1 : OwnI w b1 v1 ps) (o2 : OwnI w b2 v2 cast) (o3 : OwnI w b3 v3 nx) (o4 : OwnI w b4 v4 af)
    (l1 : ps.length ≤ 2000000) (l2 : cast.length ≤ 2000000) (l3 : nx.length ≤ 2000000) (l4 : af.length ≤ 2000000) :
    Calls Try.prog 35 #[v1, v2, v3, v4] w fun e w' => e = .returned (.int .i64 (changesB ps cast nx af)) ∧ Below w.heap.size w w' := by
  obtain ⟨A1, c1, rfl⟩ := o1.slice
  obtain ⟨A2, c2, rfl⟩ := o2.slice
  obtain ⟨A3, c3, rfl⟩ := o3.slice
  obtain ⟨A4, c4, rfl⟩ := o4.slice
  have O1 := Lib.hid o1
  have O2 := Lib.hid o2
  have O3 := Lib.hid o3
  have O4 := Lib.hid o4
  clear o1 o2 o3 o4
  by_cases e1 : ps.length = cast.length
  rotate_left
  · have R := Lib.hid (show changesB ps cast nx af = -1 by unfold changesB; rw [if_neg (fun x => e1 x.1)])
    have d1 : ((ps.length : Int) != (cast.length : Int)) = true := by rw [bne_iff_ne]; omega
    clear e1
    generalize ps.length = n1 at *
    generalize cast.length = n2 at *
    go_enter Try.func35, Try.ntmps35
    go_wp2
    go_ret
    exact ⟨by rw [R.out]; try rfl, Below.refl _ _⟩
  have d1 : ((ps.length : Int) != (cast.length : Int)) = false := by rw [e1]; simp
  by_cases e2 : nx.length = af.length
  rotate_left
  · have R := Lib.hid (show changesB ps cast nx af = -1 by unfold changesB; rw [if_neg (fun x => e2 x.2)])
    have d2 : ((nx.length : Int) != (af.length : Int)) = true := by rw [bne_iff_ne]; omega
    clear e2 e1
    generalize nx.length = n3 at *
    generalize af.length = n4 at *
    generalize ps.length = n1 at *
    generalize cast.length = n2 at *
    go_enter Try.func35, Try.ntmps35
    go_wp2
    go_ret
    exact ⟨by rw [R.out]; try rfl, Below.refl _ _⟩
  have R := Lib.hid (show changesB ps cast nx af = chTo ps cast nx af ps.length by unfold changesB; rw [if_pos ⟨e1, e2⟩])
  have MX := Lib.hid (fun i (hi : i ≤ ps.length) => ch_max (cast := cast) (af := af) l1 l3 hi)
  have KX := Lib.hid (fun i k => chK_small ps cast nx af i k)
  have TN := Lib.hid (fun i => (show chTo ps cast nx af (i + 1) = chTo ps cast nx af i + chK ps cast nx af i nx.length from rfl))
  have KN := Lib.hid (fun i k => (show chK ps cast nx af i (k + 1) = if ps.getD i 0 = nx.getD k 0 ∧ cast.getD i 0 ≠ af.getD k 0 then chK ps cast nx af i k + 1 else chK ps cast nx af i k from rfl))
  have E1 := Lib.hid e1
  have E2 := Lib.hid e2
  have d2 : ((nx.length : Int) != (af.length : Int)) = false := by rw [e2]; simp
  have gA : ∀ (zs : List Int) t (ht : t < zs.length), zs[t] = zs.getD t 0 := fun zs t ht => by rw [List.getD_eq_getElem?_getD, List.getElem?_eq_getElem ht]; rfl
  have GA := Lib.hid gA
  have L2 := Lib.hid l2
  have L4 := Lib.hid l4
  clear e1 e2 gA l2 l4
  go_enter Try.func35, Try.ntmps35
  go_wp2_with fail
  go_loopw [9, 10] (fun nv iv wr => ∃ i : Nat, i ≤ ps.length ∧ nv = .int .i64 (chTo ps cast nx af i) ∧ iv = .int .i64 (i : Int) ∧ Hid (Below w.heap.size w wr)) (fun _ iv _ => ps.length - (intOf iv).toNat)
  case atStart => exact ⟨0, by omega, rfl, rfl, Lib.hid (Below.refl _ _)⟩
  case round =>
    obtain ⟨i, hi, rfl, rfl, BW⟩ := hrel
    by_cases hlt : i < ps.length
    rotate_left
    · obtain rfl : i = ps.length := by omega
      rw [← R.out]
      go_wp2
      go_ret
      exact ⟨rfl, BW.out⟩
    have hi0 : (0 : Int) ≤ (i : Int) := by omega
    have hi1 : (i : Int) < (ps.length : Int) := by omega
    have TX := Lib.hid (TN.out i)
    have mx := MX.out i hi
    generalize chTo ps cast nx af i = s at TX mx ⊢
    go_wp2_with fail
    go_loopw [9, 11] (fun nv kv wx => ∃ k : Nat, k ≤ nx.length ∧ nv = .int .i64 (s + chK ps cast nx af i k) ∧ kv = .int .i64 (k : Int) ∧ Hid (Below w.heap.size w wx)) (fun _ kv _ => nx.length - (intOf kv).toNat)
    case atStart => exact ⟨0, by omega, by rw [chK, Int.add_zero], rfl, BW⟩
    case round =>
      clear BW
      obtain ⟨k, hk, rfl, rfl, BX⟩ := hrel
      by_cases hlk : k < nx.length
      rotate_left
      · obtain rfl : k = nx.length := by omega
        go_wp2
        exact ⟨⟨i + 1, by omega, by rw [TX.out], by go_num, BX⟩, by simp [intOf]; omega⟩
      have hk0 : (0 : Int) ≤ (k : Int) := by omega
      have hk1 : (k : Int) < (nx.length : Int) := by omega
      have hi2 : (i : Int) < (cast.length : Int) := by have := E1.out; omega
      have hk2 : (k : Int) < (af.length : Int) := by have := E2.out; omega
      obtain ⟨g1, _, f1, -, -, x1, -⟩ := (O1.out.below BX.out).spot hlt
      simp only [Value.slice.injEq] at f1
      obtain ⟨rfl, -, -⟩ := f1
      obtain ⟨g2, _, f1, -, -, x2, -⟩ := (O2.out.below BX.out).spot (k := i) (by rw [← E1.out]; exact hlt)
      simp only [Value.slice.injEq] at f1
      obtain ⟨rfl, -, -⟩ := f1
      obtain ⟨g3, _, f1, -, -, x3, -⟩ := (O3.out.below BX.out).spot hlk
      simp only [Value.slice.injEq] at f1
      obtain ⟨rfl, -, -⟩ := f1
      obtain ⟨g4, _, f1, -, -, x4, -⟩ := (O4.out.below BX.out).spot (k := k) (by rw [← E2.out]; exact hlk)
      simp only [Value.slice.injEq] at f1
      obtain ⟨rfl, -, -⟩ := f1
      rw [GA.out] at x1 x2 x3 x4
      have KX2 := KX.out i k
      have NX := Lib.hid (KN.out i k)
      have WY := Lib.hid (fun q => (below_drewN BX.out q : Below w.heap.size w (wr.drewN q)))
      generalize chK ps cast nx af i k = t at NX KX2 ⊢
      have ew : IntKind.i64.wrap (s + t + 1) = s + t + 1 := IntWalk.i64_in _ (by omega)
      generalize ps.getD i 0 = a at x1 NX
      generalize cast.getD i 0 = p at x2 NX
      generalize nx.getD k 0 = a2 at x3 NX
      generalize af.getD k 0 = p2 at x4 NX
      by_cases ha : a = a2
      · subst ha
        have da : (a == a) = true := by simp
        by_cases hp : p = p2
        · subst hp
          have dp : (p == p) = true := by simp
          have N2 := Lib.hid (show chK ps cast nx af i (k + 1) = t by rw [NX.out, if_neg (by simp)])
          clear NX
          go_wp2_with fail
          go_quiet (fail)
          go_wp2
          exact ⟨⟨k + 1, by omega, by rw [N2.out], by go_num, Lib.hid (WY.out _)⟩, by simp [intOf]; omega⟩
        · have dp : (p == p2) = false := by rw [beq_eq_false_iff_ne]; exact hp
          have N2 := Lib.hid (show chK ps cast nx af i (k + 1) = t + 1 by rw [NX.out, if_pos ⟨rfl, hp⟩])
          clear NX hp
          go_wp2_with fail
          go_quiet (fail)
          go_wp2
          exact ⟨⟨k + 1, by omega, by rw [N2.out, Int.add_assoc], by go_num, Lib.hid (WY.out _)⟩, by simp [intOf]; omega⟩
      · have da : (a == a2) = false := by rw [beq_eq_false_iff_ne]; exact ha
        have N2 := Lib.hid (show chK ps cast nx af i (k + 1) = t by rw [NX.out, if_neg (fun x => ha x.1)])
        clear NX ha
        go_wp2_with fail
        go_quiet (fail)
        go_wp2
        exact ⟨⟨k + 1, by omega, by rw [N2.out], by go_num, Lib.hid (WY.out _)⟩, by simp [intOf]; omega⟩
end Go.Proofs.Ytanlfkkmnnjpeaa
