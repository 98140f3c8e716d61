/- The contracts of the program's small readings of a control. Condition: the arms and the cords lie in rows of their own. -/
import Derived.Test.YtigiechidcndpaaCtlM
import Derived.Test.YtigiechidcndpaaCtl
import Derived.Test.YtigiechidcndpaaRng
namespace Go.Proofs.Ytigiechidcndpaa
set_option linter.unusedVariables false
open Go.RowKit

/-- Is arm i one of n? -/
def hasB (n i : Int) : Bool := inB i 0 (n - 1)
theorem hasArm_any (H : Int) (A : Option Addr) (n a : Nat) (vc : Value) (i : Int) (w : World) (hc : ∃ C m c, vc = .slice C m c) (hn : n ≤ 2000000) :
    Calls Try.prog 40 #[ctlV H (.slice A n a) vc, .int .i64 i] w fun e w' => e = .returned (.bool (hasB n i)) ∧ Below w.heap.size w w' := by
  obtain ⟨C, m, c, rfl⟩ := hc
  unfold ctlV
  by_cases h0 : 0 ≤ i
  · by_cases h1 : i < (n : Int)
    · have e := inB_yes (v := i) (lo := 0) (hi := (n : Int) - 1) (by omega)
      unfold hasB
      rw [e]
      go_enter Try.func40, Try.ntmps40
      go_wp2
      go_ret
      exact ⟨rfl, (Below.refl w.heap.size w).alloc (Nat.le_refl _) _⟩
    · have e := inB_no (v := i) (lo := 0) (hi := (n : Int) - 1) (by omega)
      unfold hasB
      rw [e]
      go_enter Try.func40, Try.ntmps40
      go_wp2
      go_ret
      exact ⟨rfl, (Below.refl w.heap.size w).alloc (Nat.le_refl _) _⟩
  · have e := inB_no (v := i) (lo := 0) (hi := (n : Int) - 1) (by omega)
    unfold hasB
    rw [e]
    go_enter Try.func40, Try.ntmps40
    go_wp2
    go_ret
    exact ⟨rfl, (Below.refl w.heap.size w).alloc (Nat.le_refl _) _⟩
theorem opposite_any (H : Int) (A : Option Addr) (n a : Nat) (vc : Value) (i : Int) (w : World) (hc : ∃ C m c, vc = .slice C m c) (hn : n ≤ 2000000) (h0 : 0 ≤ i) (h1 : i < (n : Int)) :
    Calls Try.prog 41 #[ctlV H (.slice A n a) vc, .int .i64 i] w fun e w' => e = .returned (.int .i64 ((n : Int) - 1 - i)) ∧ Below w.heap.size w w' := by
  obtain ⟨C, m, c, rfl⟩ := hc
  unfold ctlV
  go_enter Try.func41, Try.ntmps41
  go_wp2
  go_ret
  exact ⟨rfl, (Below.refl w.heap.size w).alloc (Nat.le_refl _) _⟩

/-- Are there at most eight arms, all in the range? -/
def armsB (zs : List Int) : Bool := decide (zs.length ≤ 8) && zs.all armB
set_option maxHeartbeats 400000 in
theorem armsFit_any (va : Value) (zs : List Int) (b : Nat) (w : World) (h : OwnI w b va zs) (hl : zs.length ≤ 2000000) :
    Calls Try.prog 38 #[va] w fun e w' => e = .returned (.bool (armsB zs)) ∧ w' = w := by
  have C0 := Lib.hid ((allIn_any va zs (-50) 50 b w h hl).mono fun e w' h => (show _ ∧ w = w' from ⟨h.1, h.2.symm⟩))
  obtain ⟨A, a, rfl⟩ := h.slice
  clear h
  by_cases h8 : zs.length ≤ 8
  · have R := Lib.hid (show armsB zs = allIn (-50) 50 zs by unfold armsB allIn; rw [decide_eq_true h8, Bool.true_and]; rfl)
    have h8' : (zs.length : Int) ≤ 8 := by omega
    generalize allIn (-50) 50 zs = r at C0 R
    go_enter Try.func38, Try.ntmps38
    go_wp2_with (go_at_call 55; (with_reducible refine C0.out.mono ?_); rintro e w' ⟨rfl, rfl⟩)
    go_ret
    exact ⟨by rw [R.out]; rfl, rfl⟩
  · have R := Lib.hid (show armsB zs = false by simp [armsB, h8])
    have h8' : ¬ (zs.length : Int) ≤ 8 := by omega
    go_enter Try.func38, Try.ntmps38
    go_wp2
    go_ret
    exact ⟨by rw [R.out]; rfl, rfl⟩

/-- Has one of the first k cords joint j? -/
def holdB (cs : List Lb) (j : Int) : Bool := cs.any fun c => decide (c.b = j)
set_option maxHeartbeats 400000 in
/-- The first n cords of a row. -/
theorem holds_any (C : Option Addr) (n c : Nat) (j : Int) (cs : List Lb) (m cc b : Nat) (w : World) (h : OwnC w b (.slice C m cc) cs) (hn : n ≤ cs.length) (hl : cs.length ≤ 2000000) (C' : Option Addr) (hC : n = 0 ∨ C' = C) :
    Calls Try.prog 37 #[.slice C' n c, .int .i64 j] w fun e w' => e = .returned (.bool (holdB (cs.take n) j)) ∧ Below w.heap.size w w' := by
  have O := Lib.hid h
  clear h
  have PL : (cs.take n).length = n := by rw [List.length_take]; omega
  go_enter Try.func37, Try.ntmps37
  go_wp2
  go_loopw [9] (fun iv wr => ∃ k : Nat, k ≤ n ∧ iv = .int .i64 (k : Int) ∧ Below w.heap.size w wr ∧ Hid (((cs.take n).take k).any (fun c => decide (c.b = j)) = false)) (fun iv _ => n - (intOf iv).toNat)
  case atStart => exact ⟨0, by omega, rfl, Below.refl _ _, rfl⟩
  case round =>
    obtain ⟨k, hk, rfl, hb, HA⟩ := hrel
    by_cases hlt : k < n
    · obtain rfl : C' = C := by rcases hC with h | h; omega; exact h
      obtain ⟨g, _, f1, _, lg, rg, _⟩ := O.out.spot (k := k) (by omega)
      simp only [Value.slice.injEq] at f1
      obtain ⟨rfl, em, rfl⟩ := f1
      clear em
      have hk0 : (0 : Int) ≤ (k : Int) := by omega
      have hk1 : (k : Int) < (n : Int) := by omega
      replace rg := rg.below hb lg
      have AM := Lib.hid (any_upto (p := fun c : Lb => decide (c.b = j)) (l := cs.take n) (k := k) (by omega))
      have YS := Lib.hid (show decide (cs[k].b = j) = true → holdB (cs.take n) j = true from fun h => List.any_eq_true.2 ⟨cs[k], by rw [List.mem_take_iff_getElem]; exact ⟨k, by omega, rfl⟩, h⟩)
      have e : (cs.take n)[k] = cs[k] := List.getElem_take
      rw [e] at AM
      have r0 : wr.cell? ⟨g, k * 3, none⟩ = some (.int .i64 cs[k].a) := rg 0 _ rfl
      have r1 : wr.cell? ⟨g, k * 3 + 1, none⟩ = some (.int .i64 cs[k].b) := rg 1 _ rfl
      have r2 : wr.cell? ⟨g, k * 3 + 2, none⟩ = some (.int .i64 cs[k].n) := rg 2 _ rfl
      have B2 := Lib.hid (hb.alloc hb.size (.cells #[.int .i64 cs[k].a, .int .i64 cs[k].b, .int .i64 cs[k].n] 55))
      clear rg hb e
      generalize cs[k] = q at r0 r1 r2 AM YS B2
      obtain ⟨qa, qb, qn⟩ := q
      simp only at r0 r1 r2 AM YS B2
      by_cases hq : qb = j
      · have R := Lib.hid (YS.out (decide_eq_true hq))
        subst hq
        go_wp2
        go_ret
        exact ⟨by rw [R.out]; rfl, B2.out⟩
      · have A2 := Lib.hid (show ((cs.take n).take (k + 1)).any (fun c => decide (c.b = j)) = false by rw [AM.out, HA.out]; simp [hq])
        have hq' : (qb == j) = false := by simpa using hq
        go_wp2
        exact ⟨⟨k + 1, by omega, by go_num, B2.out, A2⟩, by simp [intOf]; omega⟩
    · obtain rfl : k = n := by omega
      have R := Lib.hid (show holdB (cs.take k) j = false by have := HA.out; rw [List.take_take, Nat.min_self] at this; exact this)
      go_wp2
      go_ret
      exact ⟨by rw [R.out]; rfl, hb⟩

/-- Is this cord right on n arms and for J joints? -/
theorem cordFits_any (H : Int) (A : Option Addr) (n a : Nat) (vc : Value) (qa qb qn J : Int) (w : World) (hc : ∃ C m c, vc = .slice C m c) (hn : n ≤ 2000000) :
    Calls Try.prog 39 #[ctlV H (.slice A n a) vc, .agg #[.int .i64 qa, .int .i64 qb, .int .i64 qn], .int .i64 J] w fun e w' => e = .returned (.bool (cordB n J ⟨qa, qb, qn⟩)) ∧ Below w.heap.size w w' := by
  have C0 := Lib.hid (fun v lo hi W => (inRange_any v lo hi W).mono fun e w' h => (show _ ∧ W = w' from ⟨h.1, h.2.symm⟩))
  have CH := Lib.hid (fun i W => hasArm_any H A n a vc i W hc hn)
  obtain ⟨C, m, c, rfl⟩ := hc
  unfold ctlV at CH ⊢
  go_enter Try.func39, Try.ntmps39
  go_wp2_with fail
  refine (CH.out _ _).mono ?_
  rintro e w1 ⟨rfl, b1⟩
  have x := (boxV_new (w.alloc (.cells #[.int .i64 H, .slice A n a, .slice C m c] 27)) [.int .i64 qa, .int .i64 qb, .int .i64 qn] 55).below b1
  have x1 := x 1 _ rfl
  have x2 := x 2 _ rfl
  simp only [World.size_alloc] at x1 x2
  have B := Lib.hid ((((Below.refl w.heap.size w).alloc (Nat.le_refl _) _).alloc (by simp) _).trans (b1.mono (by simp <;> omega)))
  clear x b1
  cases g1 : hasB n qa with
  | false =>
    have R := Lib.hid (show cordB n J ⟨qa, qb, qn⟩ = false by unfold hasB at g1; simp [cordB, g1])
    go_wp2_with (go_at_call 34; refine (C0.out _ _ _ _).mono ?_; rintro e w' ⟨rfl, rfl⟩)
    go_ret
    exact ⟨by rw [R.out]; rfl, B.out⟩
  | true =>
  cases g2 : inB qn 0 500 with
  | false =>
    have R := Lib.hid (show cordB n J ⟨qa, qb, qn⟩ = false by simp [cordB, g2])
    go_wp2_with (go_at_call 34; refine (C0.out _ _ _ _).mono ?_; rintro e w' ⟨rfl, rfl⟩)
    go_ret
    exact ⟨by rw [R.out]; rfl, B.out⟩
  | true =>
  have R := Lib.hid (show cordB n J ⟨qa, qb, qn⟩ = inB qb 0 (J - 1) by unfold hasB at g1; simp [cordB, g1, g2])
  by_cases h0 : 0 ≤ qb
  · by_cases h1 : qb < J
    · have R2 := Lib.hid (inB_yes (v := qb) (lo := 0) (hi := J - 1) (by omega))
      go_wp2_with (go_at_call 34; refine (C0.out _ _ _ _).mono ?_; rintro e w' ⟨rfl, rfl⟩)
      go_ret
      exact ⟨by rw [R.out, R2.out]; rfl, B.out⟩
    · have R2 := Lib.hid (inB_no (v := qb) (lo := 0) (hi := J - 1) (by omega))
      have D := Lib.hid (show decide (qb < J) = false from decide_eq_false h1)
      go_wp2_with (go_at_call 34; refine (C0.out _ _ _ _).mono ?_; rintro e w' ⟨rfl, rfl⟩)
      go_ret
      exact ⟨by rw [R.out, R2.out]; exact congrArg (fun b => Ending.returned (.bool b)) D.out, B.out⟩
  · have R2 := Lib.hid (inB_no (v := qb) (lo := 0) (hi := J - 1) (by omega))
    go_wp2_with (go_at_call 34; refine (C0.out _ _ _ _).mono ?_; rintro e w' ⟨rfl, rfl⟩)
    go_ret
    exact ⟨by rw [R.out, R2.out]; rfl, B.out⟩
end Go.Proofs.Ytigiechidcndpaa
