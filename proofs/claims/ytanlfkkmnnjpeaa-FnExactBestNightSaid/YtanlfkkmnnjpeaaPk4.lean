/- Texts of this seat laid together, each with its own first sentence below: NokI ChbS ChbI CncS CncI CgtM. -/
import Derived.Test.YtanlfkkmnnjpeaaPk3
import Derived.Test.YtanlfkkmnnjpeaaPk2
import Derived.Test.YtanlfkkmnnjpeaaPk1
import Derived.BigQuiet
import Derived.Deep.RegionHeld3
/- The contract of the program's NightOk. Condition: the players and the rows of numbers are the call's own. -/
namespace Go.Proofs.Ytanlfkkmnnjpeaa
set_option linter.unusedVariables false
set_option linter.unusedSimpArgs false
open Go.RowKit

set_option maxRecDepth 100000 in
set_option maxHeartbeats 1600000 in
theorem implNOk (v : Value) (ls : List RPlayer) (b : Nat) (w : World) (h : OwnPlayer w b v ls) (hl : ls.length ≤ 2000000) (hr : ∀ k (hk : k < ls.length), ls[k].f0.length ≤ 2000000) (u : Value) (nt : List (List Int)) (b2 : Nat) (h2 : OwnR w b2 u nt) (hn : nt.length ≤ 2000000) (hnr : ∀ k (hk : k < nt.length), nt[k].length ≤ 2000000) :
    Calls Try.prog 19 #[v, u] w fun e w' => e = .returned (.bool (nightOk ls nt)) ∧ Below w.heap.size w w' := by
  have CK := Lib.hid (implPOk v ls b w h hl hr)
  have C0 := Lib.hid (fun W => (inRange_any (nt.length : Int) 1 6 W).mono fun e w' h => (show _ ∧ W = w' from ⟨h.1, h.2.symm⟩))
  obtain ⟨A, c, rfl⟩ := h.slice
  obtain ⟨D, d, rfl⟩ := h2.slice
  have O := Lib.hid h
  have N := Lib.hid h2
  have HN := Lib.hid hnr
  have RB := Lib.hid (fun k (hk : k < nt.length) (h : momentOk nt[k] = false) => nok_bad (ls := ls) hk h)
  have RA := Lib.hid (fun h => nok_all (ls := ls) (nt := nt) h)
  clear h h2 hnr
  cases hok : playersOk ls with
  | false =>
    have R := Lib.hid (show nightOk ls nt = false by rw [nok_is, hok, Bool.false_and, Bool.and_false])
    rw [hok] at CK
    clear hok RA RB
    go_enter Try.func19, Try.ntmps19
    go_wp2_with (go_at_call 51; refine CK.out.mono ?_; rintro e w1 ⟨rfl, b1⟩; have B1 := Lib.hid b1; clear b1)
    go_ret
    exact ⟨by rw [R.out]; rfl, B1.out⟩
  | true =>
  rw [hok] at CK
  cases hin : inB (nt.length : Int) 1 6 with
  | false =>
    have R := Lib.hid (show nightOk ls nt = false by rw [nok_is, hin, Bool.and_false, Bool.and_false])
    rw [hin] at C0
    clear hok hin RA RB
    go_enter Try.func19, Try.ntmps19
    go_wp2_with (first | (go_at_call 51; refine CK.out.mono ?_; rintro e w1 ⟨rfl, b1⟩; have B1 := Lib.hid b1; clear b1) | (go_at_call 52; refine (C0.out _).mono ?_; rintro e w' ⟨rfl, rfl⟩))
    go_ret
    exact ⟨by rw [R.out]; rfl, B1.out⟩
  | true =>
  rw [hin] at C0
  rw [hok, hin] at RA
  clear hok hin
  go_enter Try.func19, Try.ntmps19
  go_wp2_with (first | (go_at_call 51; refine CK.out.mono ?_; rintro e w1 ⟨rfl, b1⟩; have B1 := Lib.hid b1; clear b1) | (go_at_call 52; refine (C0.out _).mono ?_; rintro e w' ⟨rfl, rfl⟩))
  go_loopw [18] (fun iv wr => w1 = wr ∧ ∃ k : Nat, k ≤ nt.length ∧ iv = .int .i64 (k : Int) ∧ Hid (∀ i (hi : i < nt.length), i < k → momentOk nt[i] = true)) (fun iv _ => nt.length - (intOf iv).toNat)
  case atStart => exact ⟨rfl, 0, by omega, rfl, Lib.hid (fun i _ hi => absurd hi (by omega))⟩
  case round =>
    obtain ⟨rfl, k, hk, rfl, HT⟩ := hrel
    by_cases hlt : k < nt.length
    rotate_left
    · obtain rfl : k = nt.length := by omega
      have R := Lib.hid (RA.out (fun i hi => HT.out i hi hi))
      go_wp2
      go_ret
      exact ⟨by rw [R.out]; rfl, B1.out⟩
    have hk0 : (0 : Int) ≤ (k : Int) := by omega
    have hk1 : (k : Int) < (nt.length : Int) := by omega
    obtain ⟨g, _, A1, c1, f1, x0, -, o1⟩ := (N.out.below B1.out).spot hlt
    simp only [Value.slice.injEq] at f1
    obtain ⟨rfl, -, rfl⟩ := f1
    have hrr := HN.out k hlt
    have MK := Lib.hid (show momentOk nt[k] = (decide (nt[k].length ≤ 4) && rising nt[k] 6) from rfl)
    have NX := Lib.hid (fun (h : momentOk nt[k] = true) => (show ∀ i (hi : i < nt.length), i < k + 1 → momentOk nt[i] = true from fun i hi hj => by
      rcases (by omega : i < k ∨ i = k) with q | rfl
      · exact HT.out i hi q
      · exact h))
    have RX := Lib.hid (RB.out k hlt)
    have CR := Lib.hid (implPup _ nt[k] _ w1 o1 hrr)
    clear o1
    generalize nt[k] = l at x0 hrr MK NX RX CR
    by_cases h4 : l.length ≤ 4
    · have d4 : ¬ (4 : Int) < (l.length : Int) := by omega
      cases hq : rising l 6 with
      | false =>
        have R := Lib.hid (RX.out (by rw [MK.out, hq, Bool.and_false]))
        rw [hq] at CR
        clear RX NX MK hq h4
        go_wp2_with (go_at_call 53; refine CR.out.mono ?_; rintro e w' ⟨rfl, rfl⟩)
        go_ret
        exact ⟨by rw [R.out]; rfl, B1.out⟩
      | true =>
        have N2 := Lib.hid (NX.out (by rw [MK.out, hq, decide_eq_true h4]; rfl))
        rw [hq] at CR
        clear RX NX MK hq h4
        go_wp2_with (go_at_call 53; refine CR.out.mono ?_; rintro e w' ⟨rfl, rfl⟩)
        exact ⟨⟨trivial, k + 1, by omega, by go_num, N2⟩, by simp [intOf]; omega⟩
    · have d4 : (4 : Int) < (l.length : Int) := by omega
      have R := Lib.hid (RX.out (by rw [MK.out, decide_eq_false h4]; rfl))
      clear RX NX MK h4
      go_wp2
      go_ret
      exact ⟨by rw [R.out]; rfl, B1.out⟩
end Go.Proofs.Ytanlfkkmnnjpeaa

/- The contract of spec.ChangesBetween. Condition: the numbers lie in rows of their own. -/
namespace Go.Proofs.Ytanlfkkmnnjpeaa
set_option linter.unusedVariables false
set_option linter.unusedSimpArgs false
open Go.RowKit

theorem ch_max {ps cast nx af : List Int} (h1 : ps.length ≤ 2000000) (h2 : nx.length ≤ 2000000) {i : Nat} (hi : i ≤ ps.length) : 0 ≤ chTo ps cast nx af i ∧ chTo ps cast nx af i ≤ 4000000000000 := by
  have h := chTo_small ps cast nx af i
  have e : (nx.length : Int) * (i : Int) ≤ 2000000 * 2000000 := Int.mul_le_mul (by omega) (by omega) (by omega) (by omega)
  omega

set_option maxRecDepth 100000 in
set_option maxHeartbeats 3200000 in
theorem specChb (v1 v2 v3 v4 : Value) (ps cast nx af : List Int) (b1 b2 b3 b4 : Nat) (w : World) (o1 : OwnI w b1 v1 ps) (o2 : OwnI w b2 v2 cast) (o3 : OwnI w b3 v3 nx) (o4 : OwnI w b4 v4 af)
    (l1 : ps.length ≤ 2000000) (l2 : cast.length ≤ 2000000) (l3 : nx.length ≤ 2000000) (l4 : af.length ≤ 2000000) :
    Calls Try.prog 35 #[v1, v2, v3, v4] w fun e w' => e = .returned (.int .i64 (changesB ps cast nx af)) ∧ Below w.heap.size w w' := by
  obtain ⟨A1, c1, rfl⟩ := o1.slice
  obtain ⟨A2, c2, rfl⟩ := o2.slice
  obtain ⟨A3, c3, rfl⟩ := o3.slice
  obtain ⟨A4, c4, rfl⟩ := o4.slice
  have O1 := Lib.hid o1
  have O2 := Lib.hid o2
  have O3 := Lib.hid o3
  have O4 := Lib.hid o4
  clear o1 o2 o3 o4
  by_cases e1 : ps.length = cast.length
  rotate_left
  · have R := Lib.hid (show changesB ps cast nx af = -1 by unfold changesB; rw [if_neg (fun x => e1 x.1)])
    have d1 : ((ps.length : Int) != (cast.length : Int)) = true := by rw [bne_iff_ne]; omega
    clear e1
    generalize ps.length = n1 at *
    generalize cast.length = n2 at *
    go_enter Try.func35, Try.ntmps35
    go_wp2
    go_ret
    exact ⟨by rw [R.out]; try rfl, Below.refl _ _⟩
  have d1 : ((ps.length : Int) != (cast.length : Int)) = false := by rw [e1]; simp
  by_cases e2 : nx.length = af.length
  rotate_left
  · have R := Lib.hid (show changesB ps cast nx af = -1 by unfold changesB; rw [if_neg (fun x => e2 x.2)])
    have d2 : ((nx.length : Int) != (af.length : Int)) = true := by rw [bne_iff_ne]; omega
    clear e2 e1
    generalize nx.length = n3 at *
    generalize af.length = n4 at *
    generalize ps.length = n1 at *
    generalize cast.length = n2 at *
    go_enter Try.func35, Try.ntmps35
    go_wp2
    go_ret
    exact ⟨by rw [R.out]; try rfl, Below.refl _ _⟩
  have R := Lib.hid (show changesB ps cast nx af = chTo ps cast nx af ps.length by unfold changesB; rw [if_pos ⟨e1, e2⟩])
  have MX := Lib.hid (fun i (hi : i ≤ ps.length) => ch_max (cast := cast) (af := af) l1 l3 hi)
  have KX := Lib.hid (fun i k => chK_small ps cast nx af i k)
  have TN := Lib.hid (fun i => (show chTo ps cast nx af (i + 1) = chTo ps cast nx af i + chK ps cast nx af i nx.length from rfl))
  have KN := Lib.hid (fun i k => (show chK ps cast nx af i (k + 1) = if ps.getD i 0 = nx.getD k 0 ∧ cast.getD i 0 ≠ af.getD k 0 then chK ps cast nx af i k + 1 else chK ps cast nx af i k from rfl))
  have E1 := Lib.hid e1
  have E2 := Lib.hid e2
  have d2 : ((nx.length : Int) != (af.length : Int)) = false := by rw [e2]; simp
  have gA : ∀ (zs : List Int) t (ht : t < zs.length), zs[t] = zs.getD t 0 := fun zs t ht => by rw [List.getD_eq_getElem?_getD, List.getElem?_eq_getElem ht]; rfl
  have GA := Lib.hid gA
  have L2 := Lib.hid l2
  have L4 := Lib.hid l4
  clear e1 e2 gA l2 l4
  go_enter Try.func35, Try.ntmps35
  go_wp2_with fail
  go_loopw [9, 10] (fun nv iv wr => ∃ i : Nat, i ≤ ps.length ∧ nv = .int .i64 (chTo ps cast nx af i) ∧ iv = .int .i64 (i : Int) ∧ Hid (Below w.heap.size w wr)) (fun _ iv _ => ps.length - (intOf iv).toNat)
  case atStart => exact ⟨0, by omega, rfl, rfl, Lib.hid (Below.refl _ _)⟩
  case round =>
    obtain ⟨i, hi, rfl, rfl, BW⟩ := hrel
    by_cases hlt : i < ps.length
    rotate_left
    · obtain rfl : i = ps.length := by omega
      rw [← R.out]
      go_wp2
      go_ret
      exact ⟨rfl, BW.out⟩
    have hi0 : (0 : Int) ≤ (i : Int) := by omega
    have hi1 : (i : Int) < (ps.length : Int) := by omega
    have TX := Lib.hid (TN.out i)
    have mx := MX.out i hi
    generalize chTo ps cast nx af i = s at TX mx ⊢
    go_wp2_with fail
    go_loopw [9, 11] (fun nv kv wx => ∃ k : Nat, k ≤ nx.length ∧ nv = .int .i64 (s + chK ps cast nx af i k) ∧ kv = .int .i64 (k : Int) ∧ Hid (Below w.heap.size w wx)) (fun _ kv _ => nx.length - (intOf kv).toNat)
    case atStart => exact ⟨0, by omega, by rw [chK, Int.add_zero], rfl, BW⟩
    case round =>
      clear BW
      obtain ⟨k, hk, rfl, rfl, BX⟩ := hrel
      by_cases hlk : k < nx.length
      rotate_left
      · obtain rfl : k = nx.length := by omega
        go_wp2
        exact ⟨⟨i + 1, by omega, by rw [TX.out], by go_num, BX⟩, by simp [intOf]; omega⟩
      have hk0 : (0 : Int) ≤ (k : Int) := by omega
      have hk1 : (k : Int) < (nx.length : Int) := by omega
      have hi2 : (i : Int) < (cast.length : Int) := by have := E1.out; omega
      have hk2 : (k : Int) < (af.length : Int) := by have := E2.out; omega
      obtain ⟨g1, _, f1, -, -, x1, -⟩ := (O1.out.below BX.out).spot hlt
      simp only [Value.slice.injEq] at f1
      obtain ⟨rfl, -, -⟩ := f1
      obtain ⟨g2, _, f1, -, -, x2, -⟩ := (O2.out.below BX.out).spot (k := i) (by rw [← E1.out]; exact hlt)
      simp only [Value.slice.injEq] at f1
      obtain ⟨rfl, -, -⟩ := f1
      obtain ⟨g3, _, f1, -, -, x3, -⟩ := (O3.out.below BX.out).spot hlk
      simp only [Value.slice.injEq] at f1
      obtain ⟨rfl, -, -⟩ := f1
      obtain ⟨g4, _, f1, -, -, x4, -⟩ := (O4.out.below BX.out).spot (k := k) (by rw [← E2.out]; exact hlk)
      simp only [Value.slice.injEq] at f1
      obtain ⟨rfl, -, -⟩ := f1
      rw [GA.out] at x1 x2 x3 x4
      have KX2 := KX.out i k
      have NX := Lib.hid (KN.out i k)
      have WY := Lib.hid (fun q => (below_drewN BX.out q : Below w.heap.size w (wr.drewN q)))
      generalize chK ps cast nx af i k = t at NX KX2 ⊢
      have ew : IntKind.i64.wrap (s + t + 1) = s + t + 1 := IntWalk.i64_in _ (by omega)
      generalize ps.getD i 0 = a at x1 NX
      generalize cast.getD i 0 = p at x2 NX
      generalize nx.getD k 0 = a2 at x3 NX
      generalize af.getD k 0 = p2 at x4 NX
      by_cases ha : a = a2
      · subst ha
        have da : (a == a) = true := by simp
        by_cases hp : p = p2
        · subst hp
          have dp : (p == p) = true := by simp
          have N2 := Lib.hid (show chK ps cast nx af i (k + 1) = t by rw [NX.out, if_neg (by simp)])
          clear NX
          go_wp2_with fail
          go_quiet (fail)
          go_wp2
          exact ⟨⟨k + 1, by omega, by rw [N2.out], by go_num, Lib.hid (WY.out _)⟩, by simp [intOf]; omega⟩
        · have dp : (p == p2) = false := by rw [beq_eq_false_iff_ne]; exact hp
          have N2 := Lib.hid (show chK ps cast nx af i (k + 1) = t + 1 by rw [NX.out, if_pos ⟨rfl, hp⟩])
          clear NX hp
          go_wp2_with fail
          go_quiet (fail)
          go_wp2
          exact ⟨⟨k + 1, by omega, by rw [N2.out, Int.add_assoc], by go_num, Lib.hid (WY.out _)⟩, by simp [intOf]; omega⟩
      · have da : (a == a2) = false := by rw [beq_eq_false_iff_ne]; exact ha
        have N2 := Lib.hid (show chK ps cast nx af i (k + 1) = t by rw [NX.out, if_neg (fun x => ha x.1)])
        clear NX ha
        go_wp2_with fail
        go_quiet (fail)
        go_wp2
        exact ⟨⟨k + 1, by omega, by rw [N2.out], by go_num, Lib.hid (WY.out _)⟩, by simp [intOf]; omega⟩
end Go.Proofs.Ytanlfkkmnnjpeaa

/- The contract of the program's ChangesBetween. Condition: the four rows of numbers are the call's own. -/
namespace Go.Proofs.Ytanlfkkmnnjpeaa
set_option linter.unusedVariables false
set_option linter.unusedSimpArgs false
open Go.RowKit

set_option maxRecDepth 100000 in
set_option maxHeartbeats 3200000 in
theorem implChb (v1 v2 v3 v4 : Value) (ps cast nx af : List Int) (b1 b2 b3 b4 : Nat) (w : World) (o1 : OwnI w b1 v1 ps) (o2 : OwnI w b2 v2 cast) (o3 : OwnI w b3 v3 nx) (o4 : OwnI w b4 v4 af)
    (l1 : ps.length ≤ 2000000) (l2 : cast.length ≤ 2000000) (l3 : nx.length ≤ 2000000) (l4 : af.length ≤ 2000000) :
    Calls Try.prog 20 #[v1, v2, v3, v4] w fun e w' => e = .returned (.int .i64 (changesB ps cast nx af)) ∧ Below w.heap.size w w' := by
  obtain ⟨A1, c1, rfl⟩ := o1.slice
  obtain ⟨A2, c2, rfl⟩ := o2.slice
  obtain ⟨A3, c3, rfl⟩ := o3.slice
  obtain ⟨A4, c4, rfl⟩ := o4.slice
  have O1 := Lib.hid o1
  have O2 := Lib.hid o2
  have O3 := Lib.hid o3
  have O4 := Lib.hid o4
  clear o1 o2 o3 o4
  by_cases e1 : ps.length = cast.length
  rotate_left
  · have R := Lib.hid (show changesB ps cast nx af = -1 by unfold changesB; rw [if_neg (fun x => e1 x.1)])
    have d1 : ((ps.length : Int) != (cast.length : Int)) = true := by rw [bne_iff_ne]; omega
    clear e1
    generalize ps.length = n1 at *
    generalize cast.length = n2 at *
    go_enter Try.func20, Try.ntmps20
    go_wp2
    go_ret
    exact ⟨by rw [R.out]; try rfl, Below.refl _ _⟩
  have d1 : ((ps.length : Int) != (cast.length : Int)) = false := by rw [e1]; simp
  by_cases e2 : nx.length = af.length
  rotate_left
  · have R := Lib.hid (show changesB ps cast nx af = -1 by unfold changesB; rw [if_neg (fun x => e2 x.2)])
    have d2 : ((nx.length : Int) != (af.length : Int)) = true := by rw [bne_iff_ne]; omega
    clear e2 e1
    generalize nx.length = n3 at *
    generalize af.length = n4 at *
    generalize ps.length = n1 at *
    generalize cast.length = n2 at *
    go_enter Try.func20, Try.ntmps20
    go_wp2
    go_ret
    exact ⟨by rw [R.out]; try rfl, Below.refl _ _⟩
  have R := Lib.hid (show changesB ps cast nx af = chTo ps cast nx af ps.length by unfold changesB; rw [if_pos ⟨e1, e2⟩])
  have MX := Lib.hid (fun i (hi : i ≤ ps.length) => ch_max (cast := cast) (af := af) l1 l3 hi)
  have KX := Lib.hid (fun i k => chK_small ps cast nx af i k)
  have TN := Lib.hid (fun i => (show chTo ps cast nx af (i + 1) = chTo ps cast nx af i + chK ps cast nx af i nx.length from rfl))
  have KN := Lib.hid (fun i k => (show chK ps cast nx af i (k + 1) = if ps.getD i 0 = nx.getD k 0 ∧ cast.getD i 0 ≠ af.getD k 0 then chK ps cast nx af i k + 1 else chK ps cast nx af i k from rfl))
  have E1 := Lib.hid e1
  have E2 := Lib.hid e2
  have d2 : ((nx.length : Int) != (af.length : Int)) = false := by rw [e2]; simp
  have gA : ∀ (zs : List Int) t (ht : t < zs.length), zs[t] = zs.getD t 0 := fun zs t ht => by rw [List.getD_eq_getElem?_getD, List.getElem?_eq_getElem ht]; rfl
  have GA := Lib.hid gA
  have L2 := Lib.hid l2
  have L4 := Lib.hid l4
  clear e1 e2 gA l2 l4
  go_enter Try.func20, Try.ntmps20
  go_wp2_with fail
  go_loopw [9, 28] (fun nv iv wr => ∃ i : Nat, i ≤ ps.length ∧ nv = .int .i64 (chTo ps cast nx af i) ∧ iv = .int .i64 (i : Int) ∧ Hid (Below w.heap.size w wr)) (fun _ iv _ => ps.length - (intOf iv).toNat)
  case atStart => exact ⟨0, by omega, rfl, rfl, Lib.hid (Below.refl _ _)⟩
  case round =>
    obtain ⟨i, hi, rfl, rfl, BW⟩ := hrel
    by_cases hlt : i < ps.length
    rotate_left
    · obtain rfl : i = ps.length := by omega
      rw [← R.out]
      go_wp2
      go_ret
      exact ⟨rfl, BW.out⟩
    have hi0 : (0 : Int) ≤ (i : Int) := by omega
    have hi1 : (i : Int) < (ps.length : Int) := by omega
    have TX := Lib.hid (TN.out i)
    have mx := MX.out i hi
    generalize chTo ps cast nx af i = s at TX mx ⊢
    obtain ⟨g1, _, f1, -, -, x1, -⟩ := (O1.out.below BW.out).spot hlt
    simp only [Value.slice.injEq] at f1
    obtain ⟨rfl, -, -⟩ := f1
    rw [GA.out] at x1
    obtain ⟨a, ha0⟩ : ∃ a, ps.getD i 0 = a := ⟨_, rfl⟩
    rw [ha0] at x1
    have HA0 := Lib.hid ha0
    clear ha0
    go_wp2_with fail
    go_loopw [9, 35] (fun nv kv wx => ∃ k : Nat, k ≤ nx.length ∧ nv = .int .i64 (s + chK ps cast nx af i k) ∧ kv = .int .i64 (k : Int) ∧ Hid (Below w.heap.size w wx)) (fun _ kv _ => nx.length - (intOf kv).toNat)
    case atStart => exact ⟨0, by omega, by rw [chK, Int.add_zero], rfl, BW⟩
    case round =>
      clear BW
      obtain ⟨k, hk, rfl, rfl, BX⟩ := hrel
      by_cases hlk : k < nx.length
      rotate_left
      · obtain rfl : k = nx.length := by omega
        go_wp2
        exact ⟨⟨i + 1, by omega, by rw [TX.out], by go_num, BX⟩, by simp [intOf]; omega⟩
      have hk0 : (0 : Int) ≤ (k : Int) := by omega
      have hk1 : (k : Int) < (nx.length : Int) := by omega
      have hi2 : (i : Int) < (cast.length : Int) := by have := E1.out; omega
      have hk2 : (k : Int) < (af.length : Int) := by have := E2.out; omega
      obtain ⟨g2, _, f1, -, -, x2, -⟩ := (O2.out.below BX.out).spot (k := i) (by rw [← E1.out]; exact hlt)
      simp only [Value.slice.injEq] at f1
      obtain ⟨rfl, -, -⟩ := f1
      obtain ⟨g3, _, f1, -, -, x3, -⟩ := (O3.out.below BX.out).spot hlk
      simp only [Value.slice.injEq] at f1
      obtain ⟨rfl, -, -⟩ := f1
      obtain ⟨g4, _, f1, -, -, x4, -⟩ := (O4.out.below BX.out).spot (k := k) (by rw [← E2.out]; exact hlk)
      simp only [Value.slice.injEq] at f1
      obtain ⟨rfl, -, -⟩ := f1
      rw [GA.out] at x2 x3 x4
      have KX2 := KX.out i k
      have NX := Lib.hid (KN.out i k)
      have WY := Lib.hid (fun q => (below_drewN BX.out q : Below w.heap.size w (wr.drewN q)))
      generalize chK ps cast nx af i k = t at NX KX2 ⊢
      have ew : IntKind.i64.wrap (s + t + 1) = s + t + 1 := IntWalk.i64_in _ (by omega)
      rw [HA0.out] at NX
      generalize cast.getD i 0 = p at x2 NX
      generalize nx.getD k 0 = a2 at x3 NX
      generalize af.getD k 0 = p2 at x4 NX
      by_cases ha : a = a2
      · subst ha
        have da : (a == a) = true := by simp
        by_cases hp : p = p2
        · subst hp
          have dp : (p == p) = true := by simp
          have N2 := Lib.hid (show chK ps cast nx af i (k + 1) = t by rw [NX.out, if_neg (by simp)])
          clear NX
          go_wp2_with fail
          go_quiet (fail)
          go_wp2
          exact ⟨⟨k + 1, by omega, by rw [N2.out], by go_num, Lib.hid (WY.out _)⟩, by simp [intOf]; omega⟩
        · have dp : (p == p2) = false := by rw [beq_eq_false_iff_ne]; exact hp
          have N2 := Lib.hid (show chK ps cast nx af i (k + 1) = t + 1 by rw [NX.out, if_pos ⟨rfl, hp⟩])
          clear NX hp
          go_wp2_with fail
          go_quiet (fail)
          go_wp2
          exact ⟨⟨k + 1, by omega, by rw [N2.out, Int.add_assoc], by go_num, Lib.hid (WY.out _)⟩, by simp [intOf]; omega⟩
      · have da : (a == a2) = false := by rw [beq_eq_false_iff_ne]; exact ha
        have N2 := Lib.hid (show chK ps cast nx af i (k + 1) = t by rw [NX.out, if_neg (fun x => ha x.1)])
        clear NX ha
        go_wp2_with fail
        go_quiet (fail)
        go_wp2
        exact ⟨⟨k + 1, by omega, by rw [N2.out], by go_num, Lib.hid (WY.out _)⟩, by simp [intOf]; omega⟩
end Go.Proofs.Ytanlfkkmnnjpeaa

/- The contract of spec.CountChanges. Condition: the rows of numbers are the call's own. -/
namespace Go.Proofs.Ytanlfkkmnnjpeaa
set_option linter.unusedVariables false
set_option linter.unusedSimpArgs false
open Go.RowKit

def chFine (nt cs : List (List Int)) (m : Nat) : Bool := decide (m = 0) || decide (0 ≤ chAt nt cs m)
theorem countCh_is (nt cs : List (List Int)) : countCh nt cs = if (decide (nt.length = cs.length) && (List.range nt.length).all (chFine nt cs)) = true then sumCh nt cs nt.length else -1 := rfl
theorem sumCh_small {nt cs : List (List Int)} (h : ∀ m, m < nt.length → chAt nt cs m ≤ 4000000000000) (hf : ∀ m, 0 < m → m < nt.length → 0 ≤ chAt nt cs m) : ∀ m, m ≤ nt.length → 0 ≤ sumCh nt cs m ∧ sumCh nt cs m ≤ 4000000000000 * (m : Int) := by
  intro m
  induction m with
  | zero => intro _; rw [sumCh]; omega
  | succ m ih =>
    intro hm
    have a := ih (by omega)
    have b := h m (by omega)
    rw [sumCh]
    split
    · omega
    · have c := hf m (by omega) (by omega)
      rw [show ((m + 1 : Nat) : Int) = (m : Int) + 1 from rfl]
      omega
theorem changes_max {ps cast nx af : List Int} (h1 : ps.length ≤ 2000000) (h2 : nx.length ≤ 2000000) : -1 ≤ changesB ps cast nx af ∧ changesB ps cast nx af ≤ 4000000000000 := by
  unfold changesB
  split
  · have := ch_max (cast := cast) (af := af) h1 h2 (i := ps.length) (Nat.le_refl _); omega
  · omega

set_option maxRecDepth 100000 in
set_option maxHeartbeats 3200000 in
theorem specCnc (v1 v2 : Value) (nt cs : List (List Int)) (b1 b2 : Nat) (w : World) (h1 : OwnR w b1 v1 nt) (h2 : OwnR w b2 v2 cs) (l1 : nt.length ≤ 1048576) (l2 : cs.length ≤ 1048576)
    (r1 : ∀ k (h : k < nt.length), nt[k].length ≤ 2000000) (r2 : ∀ k (h : k < cs.length), cs[k].length ≤ 2000000) :
    Calls Try.prog 38 #[v1, v2] w fun e w' => e = .returned (.int .i64 (countCh nt cs)) ∧ Below w.heap.size w w' := by
  obtain ⟨A1, c1, rfl⟩ := h1.slice
  obtain ⟨A2, c2, rfl⟩ := h2.slice
  have N := Lib.hid h1
  have C := Lib.hid h2
  have R1 := Lib.hid r1
  have R2 := Lib.hid r2
  clear h1 h2 r1 r2
  by_cases e1 : nt.length = cs.length
  rotate_left
  · have R := Lib.hid (show countCh nt cs = -1 by rw [countCh_is, decide_eq_false e1]; rfl)
    have d1 : ((nt.length : Int) == (cs.length : Int)) = false := by rw [beq_eq_false_iff_ne]; omega
    have d2 : ((nt.length : Int) != (cs.length : Int)) = true := by rw [bne_iff_ne]; omega
    clear e1 R1 R2 N C
    generalize nt.length = n1 at *
    generalize cs.length = n2 at *
    go_enter Try.func38, Try.ntmps38
    go_wp2
    go_ret
    exact ⟨by rw [R.out]; try rfl, Below.refl _ _⟩
  have d1 : ((nt.length : Int) == (cs.length : Int)) = true := by rw [e1]; simp
  have d2 : ((nt.length : Int) != (cs.length : Int)) = false := by rw [e1]; simp
  have E1 := Lib.hid e1
  have RN := Lib.hid (fun m (hm : m < nt.length) (h0 : 0 < m) (h : chAt nt cs m < 0) => (show countCh nt cs = -1 by
    rw [countCh_is, show (List.range nt.length).all (chFine nt cs) = false from List.all_eq_false.2 ⟨m, List.mem_range.2 hm, by unfold chFine; rw [decide_eq_false (by omega), decide_eq_false (by omega)]; simp⟩, Bool.and_false]
    rfl))
  have RY := Lib.hid (fun (h : ∀ m, 0 < m → m < nt.length → 0 ≤ chAt nt cs m) => (show countCh nt cs = sumCh nt cs nt.length by
    rw [countCh_is, decide_eq_true e1, show (List.range nt.length).all (chFine nt cs) = true from List.all_eq_true.2 fun m hm => by
      unfold chFine
      rcases Nat.eq_zero_or_pos m with q | q
      · rw [decide_eq_true q]; rfl
      · rw [decide_eq_true (h m q (List.mem_range.1 hm)), Bool.or_true]]
    rfl))
  have gR : ∀ (zss : List (List Int)) t (ht : t < zss.length), zss.getD t [] = zss[t] := fun zss t ht => by rw [List.getD_eq_getElem?_getD, List.getElem?_eq_getElem ht]; rfl
  have GR := Lib.hid gR
  have D1 := Lib.hid (fun k (h : k < nt.length) => (show (nt.getD k []).length ≤ 2000000 by rw [gR nt k h]; exact R1.out k h))
  have D2 := Lib.hid (fun k (h : k < cs.length) => (show (cs.getD k []).length ≤ 2000000 by rw [gR cs k h]; exact R2.out k h))
  have CX := Lib.hid (fun m (h0 : 0 < m) (hm : m < nt.length) => (show -1 ≤ chAt nt cs m ∧ chAt nt cs m ≤ 4000000000000 from changes_max (D1.out (m - 1) (by omega)) (D1.out m hm)))
  have SN := Lib.hid (fun m (h0 : 0 < m) => (show sumCh nt cs (m + 1) = sumCh nt cs m + chAt nt cs m by rw [sumCh, if_neg (by omega)]))
  have S1 := Lib.hid (show sumCh nt cs 1 = 0 from rfl)
  clear e1 gR
  go_enter Try.func38, Try.ntmps38
  go_wp2_with fail
  go_loopw [5, 6] (fun nv mv wr => ∃ (m : Nat) (s : Int), 0 < m ∧ (m ≤ nt.length ∨ m = 1) ∧ nv = .int .i64 s ∧ mv = .int .i64 (m : Int) ∧ Hid (s = sumCh nt cs m) ∧ Hid (0 ≤ s ∧ s ≤ 4000000000000 * (m : Int)) ∧ Hid (∀ i, 0 < i → i < m → 0 ≤ chAt nt cs i) ∧ Hid (Below w.heap.size w wr)) (fun _ mv _ => nt.length + 1 - (intOf mv).toNat)
  case atStart => exact ⟨1, 0, by omega, .inr rfl, rfl, rfl, S1, Lib.hid (by omega), Lib.hid (fun i h0 hi => absurd hi (by omega)), Lib.hid (Below.refl _ _)⟩
  case round =>
    obtain ⟨m, s, h0, hm, rfl, rfl, SM, SX, HF, BW⟩ := hrel
    by_cases hlt : m < nt.length
    rotate_left
    · have R := Lib.hid (show s = countCh nt cs by
        rw [RY.out (fun i hi hi2 => HF.out i hi (by omega)), SM.out]
        rcases hm with q | q
        · rw [show m = nt.length by omega]
        · rcases Nat.eq_zero_or_pos nt.length with e | e
          · rw [q, e]; rfl
          · rw [show m = nt.length by omega])
      have hm1 : ¬ (m : Int) < (nt.length : Int) := by omega
      clear SM SX
      go_wp2
      go_ret
      exact ⟨by rw [R.out]; try rfl, BW.out⟩
    have hm1 : (m : Int) < (nt.length : Int) := by omega
    obtain ⟨j, rfl⟩ : ∃ j, m = j + 1 := ⟨m - 1, by omega⟩
    have hj : j < nt.length := by omega
    have E := E1.out
    obtain ⟨g1, _, P1, d1_, f1, x1, -, p1⟩ := (N.out.below BW.out).spot hj
    simp only [Value.slice.injEq] at f1
    obtain ⟨rfl, -, -⟩ := f1
    obtain ⟨_, _, P2, d2_, f1, x2, -, p2⟩ := (N.out.below BW.out).spot hlt
    simp only [Value.slice.injEq, Option.some.injEq, Addr.mk.injEq] at f1
    obtain ⟨⟨rfl, _⟩, -, -⟩ := f1
    obtain ⟨g2, _, Q1, d3_, f1, y1, -, q1⟩ := (C.out.below BW.out).spot (k := j) (by omega)
    simp only [Value.slice.injEq] at f1
    obtain ⟨rfl, -, -⟩ := f1
    obtain ⟨_, _, Q2, d4_, f1, y2, -, q2⟩ := (C.out.below BW.out).spot (k := j + 1) (by omega)
    simp only [Value.slice.injEq, Option.some.injEq, Addr.mk.injEq] at f1
    obtain ⟨⟨rfl, _⟩, -, -⟩ := f1
    rw [← GR.out] at x1 x2 y1 y2 p1 p2 q1 q2
    have ca : chAt nt cs (j + 1) = changesB (nt.getD j []) (cs.getD j []) (nt.getD (j + 1) []) (cs.getD (j + 1) []) := rfl
    have cx := CX.out (j + 1) h0 hlt
    have SX2 := SX.out
    have SS := Lib.hid (SN.out (j + 1) h0)
    have CB := Lib.hid (fun W (hb : Below wr.heap.size wr W) => specChb _ _ _ _ (nt.getD j []) (cs.getD j []) (nt.getD (j + 1) []) (cs.getD (j + 1) []) _ _ _ _ W (p1.below hb) (q1.below hb) (p2.below hb) (q2.below hb) (D1.out j hj) (D2.out j (by omega)) (D1.out (j + 1) hlt) (D2.out (j + 1) (by omega)))
    have RNX := Lib.hid (RN.out (j + 1) hlt h0)
    have HFX := Lib.hid (fun (h : 0 ≤ chAt nt cs (j + 1)) => (show ∀ i, 0 < i → i < j + 1 + 1 → 0 ≤ chAt nt cs i from fun i hi hi2 => by
      rcases (by omega : i < j + 1 ∨ i = j + 1) with q | rfl
      · exact HF.out i hi q
      · exact h))
    rw [← ca] at CB
    have ej : ((j + 1 : Nat) : Int) - 1 = (j : Int) := by omega
    have ejw : IntKind.i64.wrap (((j + 1 : Nat) : Int) - 1) = (j : Int) := by rw [ej]; exact IntWalk.i64_in _ (by omega)
    have ej1 : IntKind.i64.wrap (j : Int) = (j : Int) := IntWalk.i64_in _ (by omega)
    have ej2 : IntKind.i64.wrap ((j : Int) + 1 - 1) = (j : Int) := by rw [IntWalk.i64_in _ (by omega)]; omega
    have hp0 : (0 : Int) ≤ (j : Int) + 1 := by omega
    have hp1 : (j : Int) + 1 < (nt.length : Int) := by omega
    have hp2 : (j : Int) + 1 < (cs.length : Int) := by omega
    have hj0 : (0 : Int) ≤ (j : Int) := by omega
    have hj1 : (j : Int) < (nt.length : Int) := by omega
    have hj2 : (j : Int) < (cs.length : Int) := by omega
    have hm2 : ((j + 1 : Nat) : Int) < (cs.length : Int) := by omega
    have hm0 : (0 : Int) ≤ ((j + 1 : Nat) : Int) := by omega
    have HM := Lib.hid (And.intro hm (And.intro h0 hlt))
    clear E p1 p2 q1 q2 ca hm h0
    generalize (nt.getD j []).length = n1 at x1 CB
    generalize (nt.getD (j + 1) []).length = n2 at x2 CB
    generalize (cs.getD j []).length = n3 at y1 CB
    generalize (cs.getD (j + 1) []).length = n4 at y2 CB
    generalize hca : chAt nt cs (j + 1) = ch at CB cx SS RNX HFX
    have XC := Lib.hid (show wr.cell? ⟨g1, j, none⟩ = some (.slice P1 n1 d1_) ∧ wr.cell? ⟨g1, j + 1, none⟩ = some (.slice P2 n2 d2_) ∧ wr.cell? ⟨g2, j, none⟩ = some (.slice Q1 n3 d3_) ∧ wr.cell? ⟨g2, j + 1, none⟩ = some (.slice Q2 n4 d4_) from ⟨x1, x2, y1, y2⟩)
    clear hca
    go_wp2_with fail
    go_region_held3 (fun W => W.cell? ⟨g1, j, none⟩ = some (.slice P1 n1 d1_) ∧ W.cell? ⟨g1, j + 1, none⟩ = some (.slice P2 n2 d2_) ∧ W.cell? ⟨g2, j, none⟩ = some (.slice Q1 n3 d3_) ∧ W.cell? ⟨g2, j + 1, none⟩ = some (.slice Q2 n4 d4_))
      (first | exact XC.out | exact X2.out)
      (first | (go_at_call 35; refine (CB.out _ (Below.refl _ _).drew).mono ?_; rintro e w2 ⟨rfl, b2⟩; have b3 := undrew b2; have X2 := Lib.hid (show _ ∧ _ ∧ _ ∧ _ from ⟨cell_below XC.out.1 b3, cell_below XC.out.2.1 b3, cell_below XC.out.2.2.1 b3, cell_below XC.out.2.2.2 b3⟩)))
    have B2 := Lib.hid (BW.out.trans ((undrew b2).mono BW.out.size))
    clear b2 b3 XC X2 CB x1 x2 y1 y2 N C
    have ew : IntKind.i64.wrap (s + ch) = s + ch := IntWalk.i64_in _ (by have := HM.out.2.2; omega)
    by_cases hn : ch < 0
    · have R := Lib.hid (RNX.out hn)
      clear SM
      go_wp2
      go_ret
      exact ⟨by rw [R.out]; try rfl, B2.out⟩
    · have H2 := Lib.hid (HFX.out (by omega))
      have N2 := Lib.hid (show s + ch = sumCh nt cs (j + 1 + 1) by rw [SS.out, SM.out])
      have M2 := Lib.hid (show 0 ≤ s + ch ∧ s + ch ≤ 4000000000000 * ((j + 1 + 1 : Nat) : Int) by omega)
      clear SM
      go_wp2
      exact ⟨⟨j + 1 + 1, s + ch, by omega, .inl (by have := HM.out.2.2; omega), rfl, by go_num, N2, M2, H2, B2⟩, by have := HM.out.2.2; simp [intOf]; omega⟩
end Go.Proofs.Ytanlfkkmnnjpeaa

/- The contract of the program's CountChanges. Condition: both rows of rows are the call's own. -/
namespace Go.Proofs.Ytanlfkkmnnjpeaa
set_option linter.unusedVariables false
set_option linter.unusedSimpArgs false
open Go.RowKit

set_option maxRecDepth 100000 in
set_option maxHeartbeats 3200000 in
theorem implCnc (v1 v2 : Value) (nt cs : List (List Int)) (b1 b2 : Nat) (w : World) (h1 : OwnR w b1 v1 nt) (h2 : OwnR w b2 v2 cs) (l1 : nt.length ≤ 1048576) (l2 : cs.length ≤ 1048576)
    (r1 : ∀ k (h : k < nt.length), nt[k].length ≤ 2000000) (r2 : ∀ k (h : k < cs.length), cs[k].length ≤ 2000000) :
    Calls Try.prog 14 #[v1, v2] w fun e w' => e = .returned (.int .i64 (countCh nt cs)) ∧ Below w.heap.size w w' := by
  obtain ⟨A1, c1, rfl⟩ := h1.slice
  obtain ⟨A2, c2, rfl⟩ := h2.slice
  have N := Lib.hid h1
  have C := Lib.hid h2
  have R1 := Lib.hid r1
  have R2 := Lib.hid r2
  clear h1 h2 r1 r2
  by_cases e1 : nt.length = cs.length
  rotate_left
  · have R := Lib.hid (show countCh nt cs = -1 by rw [countCh_is, decide_eq_false e1]; rfl)
    have d1 : ((nt.length : Int) == (cs.length : Int)) = false := by rw [beq_eq_false_iff_ne]; omega
    have d2 : ((nt.length : Int) != (cs.length : Int)) = true := by rw [bne_iff_ne]; omega
    clear e1 R1 R2 N C
    generalize nt.length = n1 at *
    generalize cs.length = n2 at *
    go_enter Try.func14, Try.ntmps14
    go_wp2
    go_ret
    exact ⟨by rw [R.out]; try rfl, Below.refl _ _⟩
  have d1 : ((nt.length : Int) == (cs.length : Int)) = true := by rw [e1]; simp
  have d2 : ((nt.length : Int) != (cs.length : Int)) = false := by rw [e1]; simp
  have E1 := Lib.hid e1
  have RN := Lib.hid (fun m (hm : m < nt.length) (h0 : 0 < m) (h : chAt nt cs m < 0) => (show countCh nt cs = -1 by
    rw [countCh_is, show (List.range nt.length).all (chFine nt cs) = false from List.all_eq_false.2 ⟨m, List.mem_range.2 hm, by unfold chFine; rw [decide_eq_false (by omega), decide_eq_false (by omega)]; simp⟩, Bool.and_false]
    rfl))
  have RY := Lib.hid (fun (h : ∀ m, 0 < m → m < nt.length → 0 ≤ chAt nt cs m) => (show countCh nt cs = sumCh nt cs nt.length by
    rw [countCh_is, decide_eq_true e1, show (List.range nt.length).all (chFine nt cs) = true from List.all_eq_true.2 fun m hm => by
      unfold chFine
      rcases Nat.eq_zero_or_pos m with q | q
      · rw [decide_eq_true q]; rfl
      · rw [decide_eq_true (h m q (List.mem_range.1 hm)), Bool.or_true]]
    rfl))
  have gR : ∀ (zss : List (List Int)) t (ht : t < zss.length), zss.getD t [] = zss[t] := fun zss t ht => by rw [List.getD_eq_getElem?_getD, List.getElem?_eq_getElem ht]; rfl
  have GR := Lib.hid gR
  have D1 := Lib.hid (fun k (h : k < nt.length) => (show (nt.getD k []).length ≤ 2000000 by rw [gR nt k h]; exact R1.out k h))
  have D2 := Lib.hid (fun k (h : k < cs.length) => (show (cs.getD k []).length ≤ 2000000 by rw [gR cs k h]; exact R2.out k h))
  have CX := Lib.hid (fun m (h0 : 0 < m) (hm : m < nt.length) => (show -1 ≤ chAt nt cs m ∧ chAt nt cs m ≤ 4000000000000 from changes_max (D1.out (m - 1) (by omega)) (D1.out m hm)))
  have SN := Lib.hid (fun m (h0 : 0 < m) => (show sumCh nt cs (m + 1) = sumCh nt cs m + chAt nt cs m by rw [sumCh, if_neg (by omega)]))
  have S1 := Lib.hid (show sumCh nt cs 1 = 0 from rfl)
  clear e1 gR
  go_enter Try.func14, Try.ntmps14
  go_wp2_with fail
  go_loopw [5, 6] (fun nv mv wr => ∃ (m : Nat) (s : Int), 0 < m ∧ (m ≤ nt.length ∨ m = 1) ∧ nv = .int .i64 s ∧ mv = .int .i64 (m : Int) ∧ Hid (s = sumCh nt cs m) ∧ Hid (0 ≤ s ∧ s ≤ 4000000000000 * (m : Int)) ∧ Hid (∀ i, 0 < i → i < m → 0 ≤ chAt nt cs i) ∧ Hid (Below w.heap.size w wr)) (fun _ mv _ => nt.length + 1 - (intOf mv).toNat)
  case atStart => exact ⟨1, 0, by omega, .inr rfl, rfl, rfl, S1, Lib.hid (by omega), Lib.hid (fun i h0 hi => absurd hi (by omega)), Lib.hid (Below.refl _ _)⟩
  case round =>
    obtain ⟨m, s, h0, hm, rfl, rfl, SM, SX, HF, BW⟩ := hrel
    by_cases hlt : m < nt.length
    rotate_left
    · have R := Lib.hid (show s = countCh nt cs by
        rw [RY.out (fun i hi hi2 => HF.out i hi (by omega)), SM.out]
        rcases hm with q | q
        · rw [show m = nt.length by omega]
        · rcases Nat.eq_zero_or_pos nt.length with e | e
          · rw [q, e]; rfl
          · rw [show m = nt.length by omega])
      have hm1 : ¬ (m : Int) < (nt.length : Int) := by omega
      clear SM SX
      go_wp2
      go_ret
      exact ⟨by rw [R.out]; try rfl, BW.out⟩
    have hm1 : (m : Int) < (nt.length : Int) := by omega
    obtain ⟨j, rfl⟩ : ∃ j, m = j + 1 := ⟨m - 1, by omega⟩
    have hj : j < nt.length := by omega
    have E := E1.out
    obtain ⟨g1, _, P1, d1_, f1, x1, -, p1⟩ := (N.out.below BW.out).spot hj
    simp only [Value.slice.injEq] at f1
    obtain ⟨rfl, -, -⟩ := f1
    obtain ⟨_, _, P2, d2_, f1, x2, -, p2⟩ := (N.out.below BW.out).spot hlt
    simp only [Value.slice.injEq, Option.some.injEq, Addr.mk.injEq] at f1
    obtain ⟨⟨rfl, _⟩, -, -⟩ := f1
    obtain ⟨g2, _, Q1, d3_, f1, y1, -, q1⟩ := (C.out.below BW.out).spot (k := j) (by omega)
    simp only [Value.slice.injEq] at f1
    obtain ⟨rfl, -, -⟩ := f1
    obtain ⟨_, _, Q2, d4_, f1, y2, -, q2⟩ := (C.out.below BW.out).spot (k := j + 1) (by omega)
    simp only [Value.slice.injEq, Option.some.injEq, Addr.mk.injEq] at f1
    obtain ⟨⟨rfl, _⟩, -, -⟩ := f1
    rw [← GR.out] at x1 x2 y1 y2 p1 p2 q1 q2
    have ca : chAt nt cs (j + 1) = changesB (nt.getD j []) (cs.getD j []) (nt.getD (j + 1) []) (cs.getD (j + 1) []) := rfl
    have cx := CX.out (j + 1) h0 hlt
    have SX2 := SX.out
    have SS := Lib.hid (SN.out (j + 1) h0)
    have CB := Lib.hid (fun W (hb : Below wr.heap.size wr W) => implChb _ _ _ _ (nt.getD j []) (cs.getD j []) (nt.getD (j + 1) []) (cs.getD (j + 1) []) _ _ _ _ W (p1.below hb) (q1.below hb) (p2.below hb) (q2.below hb) (D1.out j hj) (D2.out j (by omega)) (D1.out (j + 1) hlt) (D2.out (j + 1) (by omega)))
    have RNX := Lib.hid (RN.out (j + 1) hlt h0)
    have HFX := Lib.hid (fun (h : 0 ≤ chAt nt cs (j + 1)) => (show ∀ i, 0 < i → i < j + 1 + 1 → 0 ≤ chAt nt cs i from fun i hi hi2 => by
      rcases (by omega : i < j + 1 ∨ i = j + 1) with q | rfl
      · exact HF.out i hi q
      · exact h))
    rw [← ca] at CB
    have ej : ((j + 1 : Nat) : Int) - 1 = (j : Int) := by omega
    have ejw : IntKind.i64.wrap (((j + 1 : Nat) : Int) - 1) = (j : Int) := by rw [ej]; exact IntWalk.i64_in _ (by omega)
    have ej1 : IntKind.i64.wrap (j : Int) = (j : Int) := IntWalk.i64_in _ (by omega)
    have ej2 : IntKind.i64.wrap ((j : Int) + 1 - 1) = (j : Int) := by rw [IntWalk.i64_in _ (by omega)]; omega
    have hp0 : (0 : Int) ≤ (j : Int) + 1 := by omega
    have hp1 : (j : Int) + 1 < (nt.length : Int) := by omega
    have hp2 : (j : Int) + 1 < (cs.length : Int) := by omega
    have hj0 : (0 : Int) ≤ (j : Int) := by omega
    have hj1 : (j : Int) < (nt.length : Int) := by omega
    have hj2 : (j : Int) < (cs.length : Int) := by omega
    have hm2 : ((j + 1 : Nat) : Int) < (cs.length : Int) := by omega
    have hm0 : (0 : Int) ≤ ((j + 1 : Nat) : Int) := by omega
    have HM := Lib.hid (And.intro hm (And.intro h0 hlt))
    clear E p1 p2 q1 q2 ca hm h0
    generalize (nt.getD j []).length = n1 at x1 CB
    generalize (nt.getD (j + 1) []).length = n2 at x2 CB
    generalize (cs.getD j []).length = n3 at y1 CB
    generalize (cs.getD (j + 1) []).length = n4 at y2 CB
    generalize hca : chAt nt cs (j + 1) = ch at CB cx SS RNX HFX
    have XC := Lib.hid (show wr.cell? ⟨g1, j, none⟩ = some (.slice P1 n1 d1_) ∧ wr.cell? ⟨g1, j + 1, none⟩ = some (.slice P2 n2 d2_) ∧ wr.cell? ⟨g2, j, none⟩ = some (.slice Q1 n3 d3_) ∧ wr.cell? ⟨g2, j + 1, none⟩ = some (.slice Q2 n4 d4_) from ⟨x1, x2, y1, y2⟩)
    clear hca
    go_wp2_with fail
    go_region_held3 (fun W => W.cell? ⟨g1, j, none⟩ = some (.slice P1 n1 d1_) ∧ W.cell? ⟨g1, j + 1, none⟩ = some (.slice P2 n2 d2_) ∧ W.cell? ⟨g2, j, none⟩ = some (.slice Q1 n3 d3_) ∧ W.cell? ⟨g2, j + 1, none⟩ = some (.slice Q2 n4 d4_))
      (first | exact XC.out | exact X2.out)
      (first | (go_at_call 20; refine (CB.out _ (Below.refl _ _).drew).mono ?_; rintro e w2 ⟨rfl, b2⟩; have b3 := undrew b2; have X2 := Lib.hid (show _ ∧ _ ∧ _ ∧ _ from ⟨cell_below XC.out.1 b3, cell_below XC.out.2.1 b3, cell_below XC.out.2.2.1 b3, cell_below XC.out.2.2.2 b3⟩)))
    have B2 := Lib.hid (BW.out.trans ((undrew b2).mono BW.out.size))
    clear b2 b3 XC X2 CB x1 x2 y1 y2 N C
    have ew : IntKind.i64.wrap (s + ch) = s + ch := IntWalk.i64_in _ (by have := HM.out.2.2; omega)
    by_cases hn : ch < 0
    · have R := Lib.hid (RNX.out hn)
      clear SM
      go_wp2
      go_ret
      exact ⟨by rw [R.out]; try rfl, B2.out⟩
    · have H2 := Lib.hid (HFX.out (by omega))
      have N2 := Lib.hid (show s + ch = sumCh nt cs (j + 1 + 1) by rw [SS.out, SM.out])
      have M2 := Lib.hid (show 0 ≤ s + ch ∧ s + ch ≤ 4000000000000 * ((j + 1 + 1 : Nat) : Int) by omega)
      clear SM
      go_wp2
      exact ⟨⟨j + 1 + 1, s + ch, by omega, .inl (by have := HM.out.2.2; omega), rfl, by go_num, N2, M2, H2, B2⟩, by have := HM.out.2.2; simp [intOf]; omega⟩
end Go.Proofs.Ytanlfkkmnnjpeaa

/- Castings made longer, puppet by puppet: they are the castings in their order. No condition. -/
namespace Go.Proofs.Ytanlfkkmnnjpeaa
set_option linter.unusedVariables false
set_option linter.unusedSimpArgs false
open Go.RowKit

/-- A casting with one more player behind it: of the first k players those that fit. -/
def extK (ls : List RPlayer) (qs c : List Int) : Nat → List (List Int)
  | 0 => []
  | k + 1 => if isCasting ls qs (c ++ [(k : Int)]) = true then extK ls qs c k ++ [c ++ [(k : Int)]] else extK ls qs c k
/-- The same for the first j castings. -/
def extTo (ls : List RPlayer) (qs : List Int) (cs : List (List Int)) : Nat → List (List Int)
  | 0 => []
  | j + 1 => extTo ls qs cs j ++ extK ls qs (cs.getD j []) ls.length
/-- All castings of the first i puppets. -/
def lay (ls : List RPlayer) (ps : List Int) (i : Nat) : List (List Int) := castsTo (fun x => castOr ls (ps.take i) (dig ls.length i x)) (ls.length ^ i)
theorem casts_add (f : Nat → Option (List Int)) (a : Nat) : ∀ c, castsTo f (a + c) = castsTo f a ++ castsTo (fun y => f (a + y)) c := by
  intro c
  induction c with
  | zero => rw [Nat.add_zero, castsTo, List.append_nil]
  | succ c ih =>
    rw [show a + (c + 1) = (a + c) + 1 from rfl, castsTo, ih, castsTo]
    cases f (a + c) with
    | none => rfl
    | some x => exact List.append_assoc ..
theorem casts_congr {f g : Nat → Option (List Int)} : ∀ n, (∀ p, p < n → f p = g p) → castsTo f n = castsTo g n := by
  intro n
  induction n with
  | zero => intro _; rfl
  | succ n ih => intro h; rw [castsTo, castsTo, ih (fun p hp => h p (by omega)), h n (by omega)]
theorem ext_casts (ls : List RPlayer) (qs c : List Int) : ∀ k, castsTo (fun y => castOr ls qs (c ++ [(y : Int)])) k = extK ls qs c k := by
  intro k
  induction k with
  | zero => rfl
  | succ k ih =>
    rw [castsTo, extK, ih]
    show (match castOr ls qs (c ++ [(k : Int)]) with | some x => extK ls qs c k ++ [x] | none => extK ls qs c k) = _
    unfold castOr
    by_cases h : isCasting ls qs (c ++ [(k : Int)]) = true
    · rw [if_pos h, if_pos h]
    · rw [if_neg h, if_neg h]
theorem ext_none {ls : List RPlayer} {qs c : List Int} (h : ∀ k : Nat, isCasting ls qs (c ++ [(k : Int)]) = false) : ∀ k, extK ls qs c k = [] := by
  intro k
  induction k with
  | zero => rfl
  | succ k ih => rw [extK, if_neg (by rw [h k]; simp), ih]
theorem extTo_app (ls : List RPlayer) (qs : List Int) (cs : List (List Int)) (c : List Int) : ∀ j, j ≤ cs.length → extTo ls qs (cs ++ [c]) j = extTo ls qs cs j := by
  intro j
  induction j with
  | zero => intro _; rfl
  | succ j ih =>
    intro hj
    rw [extTo, extTo, ih (by omega), List.getD_eq_getElem?_getD, List.getElem?_append_left (by omega), ← List.getD_eq_getElem?_getD]
theorem cntI_up (zs : List Int) (k : Int) {i : Nat} : ∀ {j : Nat}, i ≤ j → cntI zs k i ≤ cntI zs k j := by
  intro j h
  exact cnt_up zs k h
theorem rising_take {zs : List Int} {m : Int} (h : rising zs m = true) (i : Nat) (hi : i ≤ zs.length) : rising (zs.take i) m = true := by
  unfold rising at h ⊢
  rw [rise_iff] at h ⊢
  intro k hk
  have hl : (zs.take i).length = i := by rw [List.length_take]; omega
  rw [hl] at hk
  have := h k (by omega)
  have e : ∀ j, j < i → (zs.take i).getD j 0 = zs.getD j 0 := fun j hj => by
    rw [List.getD_eq_getElem?_getD, List.getElem?_take_of_lt hj, ← List.getD_eq_getElem?_getD]
  unfold riseAt at this ⊢
  rw [e k hk]
  cases k with
  | zero => exact this
  | succ k =>
    simp only [Nat.add_sub_cancel] at this ⊢
    rw [e k (by omega)]
    exact this
theorem take_one (ps : List Int) {i : Nat} (hi : i < ps.length) : ps.take (i + 1) = ps.take i ++ [ps.getD i 0] := by
  rw [List.take_add_one, List.getD_eq_getElem?_getD, List.getElem?_eq_getElem hi]; rfl
/-- What is cut off a casting leaves a casting. -/
theorem cast_cut {ls : List RPlayer} {ps c : List Int} {k : Int} {i : Nat} (hi : i < ps.length) (hr : rising ps 6 = true) (h : isCasting ls (ps.take (i + 1)) (c ++ [k]) = true) : isCasting ls (ps.take i) c = true := by
  unfold isCasting at h ⊢
  simp only [Bool.and_eq_true, decide_eq_true_eq] at h ⊢
  obtain ⟨h1, h2, h3, h4, h5⟩ := h
  have hl : c.length = i := by
    rw [List.length_append, List.length_singleton, List.length_take] at h3
    omega
  refine ⟨h1, rising_take hr i (by omega), by rw [List.length_take]; omega, range_yes fun j hj => ?_, range_yes fun p hp => ?_⟩
  · have := List.all_eq_true.1 h4 j (List.mem_range.2 (by rw [List.length_append]; omega))
    unfold castAt at this ⊢
    rw [take_one ps hi] at this
    rw [List.getD_eq_getElem?_getD (l := c ++ [k]), List.getElem?_append_left hj, ← List.getD_eq_getElem?_getD, List.getD_eq_getElem?_getD (l := ps.take i ++ _), List.getElem?_append_left (by rw [List.length_take]; omega), ← List.getD_eq_getElem?_getD] at this
    exact this
  · have := List.all_eq_true.1 h5 p (List.mem_range.2 hp)
    unfold loadFit at this ⊢
    rw [cnt_more] at this
    simp only [Bool.not_eq_true', decide_eq_false_iff_not, Int.not_lt] at this ⊢
    split at this <;> omega
section
variable {ls : List RPlayer} {ps : List Int} (hok : playersOk ls = true) (hr : rising ps 6 = true)
include hok hr
theorem lay_next {i : Nat} (hi : i < ps.length) : lay ls ps (i + 1) = extTo ls (ps.take (i + 1)) (lay ls ps i) (lay ls ps i).length := by
  have hb : 0 < ls.length := by have := (playersOk_has hok).1; omega
  obtain ⟨g, hg⟩ : ∃ g : Nat → Option (List Int), g = fun x => castOr ls (ps.take i) (dig ls.length i x) := ⟨_, rfl⟩
  have e1 : lay ls ps i = castsTo g (ls.length ^ i) := by rw [hg]; rfl
  rw [e1]
  show castsTo (fun x => castOr ls (ps.take (i + 1)) (dig ls.length (i + 1) x)) (ls.length ^ i * ls.length) = _
  generalize ls.length ^ i = T
  induction T with
  | zero => rw [Nat.zero_mul]; rfl
  | succ T ih =>
    rw [Nat.succ_mul, casts_add, ih]
    have e2 : castsTo (fun y => castOr ls (ps.take (i + 1)) (dig ls.length (i + 1) (T * ls.length + y))) ls.length = extK ls (ps.take (i + 1)) (dig ls.length i T) ls.length := by
      rw [← ext_casts]
      refine casts_congr _ fun y hy => ?_
      rw [dig]
      have d1 : (T * ls.length + y) / ls.length = T := by rw [Nat.mul_comm, Nat.mul_add_div hb, Nat.div_eq_of_lt hy, Nat.add_zero]
      have d2 : (T * ls.length + y) % ls.length = y := by rw [Nat.mul_comm, Nat.mul_add_mod, Nat.mod_eq_of_lt hy]
      rw [d1, d2]
    rw [e2, castsTo]
    have eg : g T = castOr ls (ps.take i) (dig ls.length i T) := by rw [hg]
    rw [eg]
    by_cases q : isCasting ls (ps.take i) (dig ls.length i T) = true
    · have eq : castOr ls (ps.take i) (dig ls.length i T) = some (dig ls.length i T) := by unfold castOr; rw [if_pos q]
      rw [eq]
      show _ = extTo ls (ps.take (i + 1)) (castsTo g T ++ [dig ls.length i T]) (castsTo g T ++ [dig ls.length i T]).length
      rw [List.length_append, List.length_singleton, extTo, extTo_app _ _ _ _ _ (Nat.le_refl _), List.getD_eq_getElem?_getD, List.getElem?_append_right (Nat.le_refl _), Nat.sub_self]
      rfl
    · have eq : castOr ls (ps.take i) (dig ls.length i T) = none := by unfold castOr; rw [if_neg q]
      rw [eq]
      show _ = extTo ls (ps.take (i + 1)) (castsTo g T) (castsTo g T).length
      rw [ext_none (fun k => by
        cases c : isCasting ls (ps.take (i + 1)) (dig ls.length i T ++ [(k : Int)]) with
        | false => rfl
        | true => exact absurd (cast_cut hi hr c) q), List.append_nil]
omit hr in
theorem lay_zero : lay ls ps 0 = [[]] := by
  have h : isCasting ls [] [] = true := by
    unfold isCasting
    rw [hok]
    show (true && (decide (([] : List Int).length = ([] : List Int).length) && ((List.range 0).all (castAt ls [] []) && (List.range ls.length).all (loadFit ls [])))) = true
    rw [range_yes (p := loadFit ls []) fun p hp => ?_]
    · rfl
    · unfold loadFit
      show (!decide ((ls.getD p RPlayer.zero).f1 < 0)) = true
      have := (player_fine ((playersOk_has hok).2 p hp)).2
      rw [List.getD_eq_getElem?_getD, List.getElem?_eq_getElem hp, Option.getD_some]
      rw [decide_eq_false (by omega)]
      rfl
  unfold lay
  rw [Nat.pow_zero, castsTo, castsTo, List.take_zero]
  show (match castOr ls [] [] with | some c => [] ++ [c] | none => []) = _
  unfold castOr
  rw [if_pos h]
  rfl
theorem lay_all (h4 : ps.length ≤ 4) : castingsOf ls ps = lay ls ps ps.length := by
  unfold castingsOf lay proofOk
  rw [hok, hr, decide_eq_true h4, List.take_length]
  rfl
omit hok hr in
theorem lay_len (i : Nat) : (lay ls ps i).length ≤ ls.length ^ i := casts_len _ _
end
theorem pow_six {b k : Nat} (hb : b ≤ 6) (hk : k ≤ 4) : b ^ k ≤ 1296 :=
  Nat.le_trans (Nat.pow_le_pow_left hb k) (Nat.le_trans (Nat.pow_le_pow_right (by omega) hk) (by decide))
theorem extK_len (ls : List RPlayer) (qs c : List Int) : ∀ k, (extK ls qs c k).length ≤ k := by
  intro k
  induction k with
  | zero => exact Nat.le_refl _
  | succ k ih =>
    rw [extK]
    split
    · rw [List.length_append, List.length_singleton]; omega
    · omega
theorem extTo_len (ls : List RPlayer) (qs : List Int) (cs : List (List Int)) : ∀ j, (extTo ls qs cs j).length ≤ j * ls.length := by
  intro j
  induction j with
  | zero => rw [extTo]; simp
  | succ j ih =>
    rw [extTo, List.length_append, Nat.succ_mul]
    have := extK_len ls qs (cs.getD j []) ls.length
    omega
/-- How long a casting of the first i puppets is. -/
theorem lay_row {ls : List RPlayer} {ps c : List Int} {i : Nat} (h : c ∈ lay ls ps i) (hi : i ≤ ps.length) : c.length = i := by
  unfold lay at h
  obtain ⟨x, _, e⟩ := casts_mem _ h
  unfold castOr at e
  split at e
  · rw [← Option.some.inj e, dig_len]
  · cases e
end Go.Proofs.Ytanlfkkmnnjpeaa
