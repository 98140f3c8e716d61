/- The program's inversions, first descent, exchange in place and copy of an order; OrderOk, PlaceOf and CountInversions. Condition: the numbers lie in a row of their own. -/
import Derived.Test.YtgkkiimpgdkpkaaOrdN
import Derived.Test.YtgkkiimpgdkpkaaRowI
namespace Go.Proofs.Ytgkkiimpgdkpkaa
set_option linter.unusedVariables false
set_option linter.unusedSimpArgs false
open Go.RowKit

set_option maxRecDepth 100000 in
set_option maxHeartbeats 800000 in
theorem invM (v : Value) (zs : List Int) (b : Nat) (w : World) (h : OwnI w b v zs) (hl : zs.length ≤ 7) :
    Calls Try.prog 32 #[v] w fun e w' => e = .returned (.int .i64 (invs zs : Int)) ∧ w' = w := by
  obtain ⟨A, c, rfl⟩ := h.slice
  have O := Lib.hid h
  have rm := h.room
  clear h
  go_enter Try.func32, Try.ntmps32
  go_wp2_with fail
  go_loopw [3, 10] (fun nv iv wr => w = wr ∧ ∃ k : Nat, k ≤ zs.length ∧ iv = .int .i64 (k : Int) ∧ nv = .int .i64 (invF (atI zs) k : Int)) (fun _ iv _ => zs.length - (intOf iv).toNat)
  case atStart => exact ⟨rfl, 0, by omega, rfl, rfl⟩
  case round =>
    obtain ⟨rfl, k, hk, rfl, rfl⟩ := hrel
    by_cases hlt : k < zs.length
    rotate_left
    · obtain rfl : k = zs.length := by omega
      go_wp2
      go_ret
      exact ⟨rfl, rfl⟩
    have hk0 : (0 : Int) ≤ (k : Int) := by omega
    have hk1 : (k : Int) < (zs.length : Int) := by omega
    have hkc : (k : Int) ≤ (c : Int) := by omega
    have VL := Lib.hid (inv_le (atI zs) k)
    have STP := Lib.hid (show invF (atI zs) (k + 1) = invF (atI zs) k + above (atI zs) zs[k] k by rw [invF, atI_of hlt])
    have AB := Lib.hid (fun i => above_le (atI zs) zs[k] i)
    have AM := Lib.hid (fun i (hi : i < zs.length) => (show above (atI zs) zs[k] (i + 1) = above (atI zs) zs[k] i + if zs[k] < zs[i] then 1 else 0 by rw [above, atI_of hi]))
    obtain ⟨g, _, f1, _, _, z0, _⟩ := O.out.spot hlt
    simp only [Value.slice.injEq] at f1
    obtain ⟨rfl, em, rfl⟩ := f1
    clear em
    generalize zs[k] = x at STP z0 AB AM
    have hv : (invF (atI zs) k : Int) ≤ 49 := by
      have h1 := VL.out
      have h2 : k * k ≤ 7 * 7 := Nat.mul_le_mul (by omega) (by omega)
      omega
    generalize hq : invF (atI zs) k = q at STP hv
    have HQ := Lib.hid hq
    clear hq
    go_wp2_with fail
    go_loopw [3, 19] (fun nv jv wr => w = wr ∧ ∃ i : Nat, i ≤ k ∧ jv = .int .i64 (i : Int) ∧ nv = .int .i64 ((q + above (atI zs) x i : Nat) : Int)) (fun _ jv _ => k - (intOf jv).toNat)
    case atStart => exact ⟨rfl, 0, by omega, rfl, rfl⟩
    case round =>
      obtain ⟨rfl, i, hi, rfl, rfl⟩ := hrel
      by_cases hik : i < k
      · have hin : i < zs.length := by omega
        obtain ⟨_, _, f1, _, _, z1, _⟩ := O.out.spot hin
        simp only [Value.slice.injEq, Option.some.injEq, Addr.mk.injEq] at f1
        obtain ⟨⟨rfl, _⟩, _⟩ := f1
        have MO := Lib.hid (AM.out i hin)
        have hal := AB.out i
        generalize zs[i] = y at z1 MO
        generalize above (atI zs) x i = t at MO hal
        have hi0 : (0 : Int) ≤ (i : Int) := by omega
        have hi1 : (i : Int) < (zs.length : Int) := by omega
        have hi2 : (i : Int) < (k : Int) := by omega
        by_cases he : x < y
        · have E := Lib.hid (show ((q + t : Nat) : Int) + 1 = ((q + above (atI zs) x (i + 1) : Nat) : Int) by rw [MO.out, if_pos he]; omega)
          have e2 : IntKind.i64.wrap (((q + t : Nat) : Int) + 1) = ((q + t : Nat) : Int) + 1 := IntWalk.i64_in _ (by omega)
          generalize ((q + t : Nat) : Int) = s at E e2
          go_wp2
          exact ⟨⟨by trivial, i + 1, by omega, by go_num, by rw [E.out]⟩, by simp [intOf]; omega⟩
        · have E := Lib.hid (show ((q + t : Nat) : Int) = ((q + above (atI zs) x (i + 1) : Nat) : Int) by rw [MO.out, if_neg he]; omega)
          generalize ((q + t : Nat) : Int) = s at E
          go_wp2
          exact ⟨⟨by trivial, i + 1, by omega, by go_num, by rw [E.out]⟩, by simp [intOf]; omega⟩
      · obtain rfl : i = k := by omega
        have E := Lib.hid (show ((q + above (atI zs) x i : Nat) : Int) = (invF (atI zs) (i + 1) : Int) by rw [STP.out])
        generalize ((q + above (atI zs) x i : Nat) : Int) = s at E
        have hi2 : ¬ (i : Int) < (i : Int) := by omega
        go_wp2
        exact ⟨⟨by trivial, i + 1, by omega, by go_num, by rw [E.out]⟩, by simp [intOf]; omega⟩

set_option maxRecDepth 100000 in
set_option maxHeartbeats 800000 in
theorem fallM (v : Value) (zs : List Int) (b : Nat) (w : World) (h : OwnI w b v zs) (ho : IsOrd zs) :
    Calls Try.prog 34 #[v] w fun e w' => e = .returned (.int .i64 (fall zs)) ∧ Below w.heap.size w w' := by
  have hl7 := ho.len
  obtain ⟨A, c, rfl⟩ := h.slice
  have O := Lib.hid h
  have HO := Lib.hid ho
  have e1 := len_sub (show zs.length ≤ 2000000 by omega) 1 (by omega) (by omega)
  clear h
  go_enter Try.func34, Try.ntmps34
  go_wp2_with fail
  go_loopw [7] (fun iv wr => ∃ k : Nat, k + 1 ≤ zs.length ∧ iv = .int .i64 (k : Int) ∧ Hid (∀ i, i < k → ¬ atI zs (i + 1) < atI zs i) ∧ Hid (Below w.heap.size w wr)) (fun iv _ => zs.length - (intOf iv).toNat)
  case atStart => exact ⟨0, by omega, rfl, Lib.hid (fun i hi => absurd hi (by omega)), Lib.hid (Below.refl _ _)⟩
  case round =>
    obtain ⟨k, hk, rfl, HN, BW⟩ := hrel
    by_cases hlt : k + 1 < zs.length
    rotate_left
    · obtain hkk : k + 1 = zs.length := by omega
      have R := Lib.hid (fall_not (zs := zs) fun i hi => HN.out i (by omega))
      have hk2 : ¬ (k : Int) < (zs.length : Int) - 1 := by omega
      go_wp2
      go_ret
      exact ⟨by rw [R.out]; rfl, BW.out⟩
    have h1 : k < zs.length := by omega
    have hk0 : (0 : Int) ≤ (k : Int) := by omega
    have hk1 : (k : Int) < (zs.length : Int) := by omega
    have hk2 : (k : Int) < (zs.length : Int) - 1 := by omega
    have hk3 : (0 : Int) ≤ (k : Int) + 1 := by omega
    have hk4 : (k : Int) + 1 < (zs.length : Int) := by omega
    have e2 : IntKind.i64.wrap ((k : Int) + 1) = (k : Int) + 1 := IntWalk.i64_in _ (by omega)
    have FD := Lib.hid (fun h => fall_at HO.out hlt HN.out h)
    have NF := Lib.hid (fun (h : ¬ atI zs (k + 1) < atI zs k) => (show ∀ i, i < k + 1 → ¬ atI zs (i + 1) < atI zs i from fun i hi => by
      rcases Nat.lt_or_ge i k with q | q
      · exact HN.out i q
      · obtain rfl : i = k := by omega
        exact h))
    rw [atI_of h1, atI_of hlt] at FD NF
    obtain ⟨g, _, f1, _, _, z0, _⟩ := (O.out.below BW.out).spot h1
    simp only [Value.slice.injEq] at f1
    obtain ⟨rfl, em, rfl⟩ := f1
    clear em
    obtain ⟨_, _, f1, _, _, z1, _⟩ := (O.out.below BW.out).spot hlt
    simp only [Value.slice.injEq, Option.some.injEq, Addr.mk.injEq] at f1
    obtain ⟨⟨rfl, _⟩, _⟩ := f1
    generalize zs[k] = x at z0 FD NF
    generalize zs[k + 1] = y at z1 FD NF
    by_cases he : y < x
    · have R := Lib.hid (FD.out he)
      have dx : decide (y < x) = true := decide_eq_true he
      clear he FD NF
      go_wp2
      go_quiet (fail)
      go_wp2
      go_ret
      exact ⟨by rw [R.out]; rfl, below_drewN BW.out _⟩
    · have N2 := Lib.hid (NF.out he)
      have dx : decide (y < x) = false := decide_eq_false he
      clear he FD NF
      go_wp2
      go_quiet (fail)
      go_wp2
      exact ⟨⟨_, _, _, ⟨k + 1, by omega, by go_num, N2, Lib.hid (below_drewN BW.out _)⟩, rfl, rfl, rfl⟩, by simp [intOf]; omega⟩

set_option maxRecDepth 100000 in
set_option maxHeartbeats 800000 in
theorem swapM (v : Value) (zs : List Int) (k : Nat) (b : Nat) (w : World) (h : OwnI w b v zs) (hk : k + 1 < zs.length) (hl : zs.length ≤ 2000000) :
    Calls Try.prog 35 #[v, .int .i64 (k : Int)] w fun e w' => e = .returned (.tuple #[]) ∧ OwnI w' b v (swapL zs k) ∧ w.grownBy w' v.ownBlock := by
  have h1 : k < zs.length := by omega
  have hk0 : (0 : Int) ≤ (k : Int) := by omega
  have hk1 : (k : Int) < (zs.length : Int) := by omega
  have hk3 : (0 : Int) ≤ (k : Int) + 1 := by omega
  have hk4 : (k : Int) + 1 < (zs.length : Int) := by omega
  have e2 : IntKind.i64.wrap ((k : Int) + 1) = (k : Int) + 1 := IntWalk.i64_in _ (by omega)
  obtain ⟨A, c, rfl⟩ := h.slice
  obtain ⟨g, _, f1, _, _, z0, u0⟩ := h.spot h1
  simp only [Value.slice.injEq] at f1
  obtain ⟨rfl, em, rfl⟩ := f1
  clear em
  obtain ⟨_, _, f1, _, _, z1, u1⟩ := h.spot hk
  simp only [Value.slice.injEq, Option.some.injEq, Addr.mk.injEq] at f1
  obtain ⟨⟨rfl, _⟩, _⟩ := f1
  have O := Lib.hid h
  clear h
  have AT := Lib.hid (And.intro (atI_of h1) (atI_of hk))
  generalize zs[k] = x at z0 AT
  generalize zs[k + 1] = y at z1 AT
  go_enter Try.func35, Try.ntmps35
  go_wp2
  go_region
  go_end0
  obtain ⟨s1, g1⟩ := O.out.set rfl k y
  obtain ⟨s2, g2⟩ := s1.set (by simp) (k + 1) x
  have gg := grown_then g1 g2
  refine ⟨rfl, ?_, ⟨gg.os, gg.tape, gg.output, gg.size, gg.block⟩⟩
  have := s2.below (Below.refl _ _).drew
  unfold swapL
  rw [AT.out.1, AT.out.2]
  exact this

set_option maxHeartbeats 800000 in
theorem cloneI_any (v : Value) (zs : List Int) (base : Nat) (w : World) (hown : OwnI w base v zs) (hl : zs.length ≤ 3000000) :
    Calls Try.prog 33 #[v] w fun e w' => ∃ v', e = .returned v' ∧ OwnI w' w.heap.size v' zs ∧ Below w.heap.size w w' := by
  rcases id hown.2 with ⟨rfl, hn⟩ | ⟨g, cap, cur, rfl, _⟩
  · have hy : zs = [] := List.eq_nil_of_length_eq_zero hn
    subst hy
    have ke := fun W => Lib.run_eql_slice_nil (P := Try.prog) W 24 3 none 0 0 0 0 Try.underlying24
    clear hown hn
    go_enter Try.func33, Try.ntmps33
    go_wp2
    go_ret
    exact ⟨_, rfl, ⟨rfl, .inl ⟨rfl, rfl⟩⟩, Below.refl _ _⟩
  · have OWN := Lib.hid (hown.alloc (.cells #[] 3))
    have O0 := Lib.hid (ownI_empty w w.heap.size w.heap.size #[] rfl (Nat.le_refl _) rfl)
    have ke := fun W => Lib.run_eql_slice_nil (P := Try.prog) W 24 3 (some ⟨g, 0, none⟩) zs.length cap 0 0 Try.underlying24
    clear hown
    go_enter Try.func33, Try.ntmps33
    go_wp2_with (at_builtin; refine wpList_rowsI rfl (.tmp 5) (.tmp 6) rfl w.heap.size base (.slice (some ⟨w.heap.size, 0, none⟩) 0 0) (.slice (some ⟨g, 0, none⟩) zs.length cap) [] zs rfl rfl O0.out OWN.out ?_ ?_ ?_; (simp; omega); (simp); intro v' w1 own1 hgrow hat)
    go_ret
    refine ⟨_, rfl, own1, ((Below.refl w.heap.size w).alloc (Nat.le_refl _) _).grown hgrow (by simp) (fun k hk => ?_)⟩
    have : w.heap.size = k := by simpa [Value.ownBlock] using hk
    omega

theorem implOrder (v : Value) (zs : List Int) (b : Nat) (w : World) (h : OwnI w b v zs) (hl : zs.length ≤ 2000000) :
    Calls Try.prog 19 #[v] w fun e w' => e = .returned (.bool (orderOk zs)) ∧ Below w.heap.size w w' := by
  have C := Lib.hid ((isOkM v zs b w h hl).mono fun e w' h => (show _ ∧ w = w' from ⟨h.1, h.2.symm⟩))
  obtain ⟨A, c, rfl⟩ := h.slice
  clear h
  go_enter Try.func19, Try.ntmps19
  go_wp2_with (go_at_call 36; refine C.out.mono ?_; rintro e w' ⟨rfl, rfl⟩)
  go_ret
  exact ⟨rfl, Below.refl _ _⟩
theorem orderQ (v : Value) (zs : List Int) (b : Nat) (w : World) (h : OwnI w b v zs) (hl : zs.length ≤ 2000000) :
    Calls Try.prog 19 #[v] w fun e w' => e = .returned (.bool (orderOk zs)) ∧ w = w' := by
  have C := Lib.hid ((isOkM v zs b w h hl).mono fun e w' h => (show _ ∧ w = w' from ⟨h.1, h.2.symm⟩))
  obtain ⟨A, c, rfl⟩ := h.slice
  clear h
  go_enter Try.func19, Try.ntmps19
  go_wp2_with (go_at_call 36; refine C.out.mono ?_; rintro e w' ⟨rfl, rfl⟩)
  go_ret
  exact ⟨rfl, rfl⟩

theorem implInv (v : Value) (zs : List Int) (b : Nat) (w : World) (h : OwnI w b v zs) (hl : zs.length ≤ 2000000) :
    Calls Try.prog 12 #[v] w fun e w' => e = .returned (.int .i64 (if orderOk zs = true then (invs zs : Int) else -1)) ∧ Below w.heap.size w w' := by
  have C := Lib.hid (orderQ v zs b w h hl)
  have CI := Lib.hid (fun h7 => (invM v zs b w h h7).mono fun e w' h => (show _ ∧ w = w' from ⟨h.1, h.2.symm⟩))
  obtain ⟨A, c, rfl⟩ := h.slice
  clear h
  cases hok : orderOk zs with
  | false =>
    have R := Lib.hid (show (if (false = true) then (invs zs : Int) else -1) = -1 from rfl)
    rw [hok] at C
    go_enter Try.func12, Try.ntmps12
    go_wp2_with (go_at_call 19; refine C.out.mono ?_; rintro e w' ⟨rfl, rfl⟩)
    go_ret
    exact ⟨rfl, Below.refl _ _⟩
  | true =>
    have C1 := Lib.hid (CI.out (order_iff.1 hok).len.2)
    rw [hok] at C
    rw [if_pos rfl]
    go_enter Try.func12, Try.ntmps12
    go_wp2_with (first | (go_at_call 19; refine C.out.mono ?_; rintro e w' ⟨rfl, rfl⟩) | (go_at_call 32; refine C1.out.mono ?_; rintro e w' ⟨rfl, rfl⟩))
    go_ret
    exact ⟨rfl, Below.refl _ _⟩

theorem implPlace (v : Value) (zs : List Int) (x : Int) (b : Nat) (w : World) (h : OwnI w b v zs) (hl : zs.length ≤ 2000000) :
    Calls Try.prog 15 #[v, .int .i64 x] w fun e w' => e = .returned (.int .i64 (placeOf zs x)) ∧ Below w.heap.size w w' := by
  have C := Lib.hid (orderQ v zs b w h hl)
  have C1 := Lib.hid ((placeM v zs x b w h hl).mono fun e w' h => (show _ ∧ w = w' from ⟨h.1, h.2.symm⟩))
  obtain ⟨A, c, rfl⟩ := h.slice
  clear h
  cases hok : orderOk zs with
  | false =>
    have R := Lib.hid (show placeOf zs x = -1 by unfold placeOf; rw [hok]; rfl)
    rw [hok] at C
    go_enter Try.func15, Try.ntmps15
    go_wp2_with (go_at_call 19; refine C.out.mono ?_; rintro e w' ⟨rfl, rfl⟩)
    go_ret
    exact ⟨by rw [R.out]; rfl, Below.refl _ _⟩
  | true =>
    have R := Lib.hid (show placeOf zs x = placeTo (atI zs) x zs.length by unfold placeOf; rw [hok]; rfl)
    rw [hok] at C
    go_enter Try.func15, Try.ntmps15
    go_wp2_with (first | (go_at_call 19; refine C.out.mono ?_; rintro e w' ⟨rfl, rfl⟩) | (go_at_call 38; refine C1.out.mono ?_; rintro e w' ⟨rfl, rfl⟩))
    go_ret
    exact ⟨by rw [R.out]; rfl, Below.refl _ _⟩
end Go.Proofs.Ytgkkiimpgdkpkaa
