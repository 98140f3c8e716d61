/- The library's slices.Max, Min, Index and Equal at a row of numbers that is the call's own. Condition: for Max and Min the row is not empty. -/
import Derived.Test.YtnoocpokicccpaaInts
namespace Go.Proofs.Ytnoocpokicccpaa
open Go.RowKit

/-- The greatest, and the least, of the numbers up to place r. -/
def topTo (zs : List Int) : Nat → Int
  | 0 => zs.getD 0 0
  | r + 1 => max (topTo zs r) (zs.getD (r + 1) 0)
def lowTo (zs : List Int) : Nat → Int
  | 0 => zs.getD 0 0
  | r + 1 => min (lowTo zs r) (zs.getD (r + 1) 0)
theorem getD_at {zs : List Int} {k : Nat} (h : k < zs.length) : zs.getD k 0 = zs[k] := by
  rw [List.getD_eq_getElem?_getD, List.getElem?_eq_getElem h]
  rfl
theorem topTo_more {zs : List Int} {r : Nat} (h : r + 1 < zs.length) : topTo zs (r + 1) = if topTo zs r < zs[r + 1] then zs[r + 1] else topTo zs r := by
  show max (topTo zs r) (zs.getD (r + 1) 0) = _
  rw [getD_at h]
  split <;> omega
theorem lowTo_more {zs : List Int} {r : Nat} (h : r + 1 < zs.length) : lowTo zs (r + 1) = if zs[r + 1] < lowTo zs r then zs[r + 1] else lowTo zs r := by
  show min (lowTo zs r) (zs.getD (r + 1) 0) = _
  rw [getD_at h]
  split <;> omega

set_option maxHeartbeats 400000 in
theorem max_any (v : Value) (zs : List Int) (base : Nat) (w : World) (h : OwnI w base v zs) (hz : 0 < zs.length) (hl : zs.length ≤ 2000000) :
    Calls Try.prog 39 #[v] w fun e w' => e = .returned (.int .i64 (topTo zs (zs.length - 1))) ∧ w' = w := by
  obtain ⟨g, c, e1, _, _, r0, _⟩ := h.spot hz
  subst e1
  have H := Lib.hid h
  have E0 := Lib.hid (show topTo zs 0 = zs[0] from getD_at hz)
  have h1 : (1 : Int) ≤ (zs.length : Int) := by omega
  clear h
  generalize zs[0] = z0 at r0 E0
  go_enter Try.func39, Try.ntmps39
  go_wp2
  go_loopw [3, 4] (fun nv iv wr => wr = w ∧ ∃ r : Nat, r < zs.length ∧ iv = .int .i64 ((r : Int) + 1) ∧ nv = .int .i64 (topTo zs r)) (fun _ iv _ => zs.length - (intOf iv).toNat)
  case atStart => exact ⟨rfl, 0, hz, rfl, by rw [E0.out]⟩
  case round =>
    obtain ⟨rfl, r, hr, rfl, rfl⟩ := hrel
    by_cases hlt : r + 1 < zs.length
    · obtain ⟨g2, c2, e2, _, _, x0, _⟩ := H.out.spot hlt
      simp only [Value.slice.injEq, Option.some.injEq, Addr.mk.injEq] at e2
      obtain ⟨⟨rfl, _⟩, em, ec⟩ := e2
      clear em ec
      have TM := Lib.hid (topTo_more hlt)
      generalize zs[r + 1] = x at x0 TM
      generalize topTo zs r = t at TM
      have hr0 : (0 : Int) ≤ (r : Int) + 1 := by omega
      have hr1 : (r : Int) + 1 < (zs.length : Int) := by omega
      go_wp2
      exact ⟨⟨trivial, r + 1, by omega, by go_num, by rw [TM.out]⟩, by simp [intOf]; omega⟩
    · have hr1 : ¬ (r : Int) + 1 < (zs.length : Int) := by omega
      obtain rfl : r = zs.length - 1 := by omega
      go_wp2
      go_ret
      exact ⟨rfl, rfl⟩
set_option maxHeartbeats 400000 in
theorem min_any (v : Value) (zs : List Int) (base : Nat) (w : World) (h : OwnI w base v zs) (hz : 0 < zs.length) (hl : zs.length ≤ 2000000) :
    Calls Try.prog 42 #[v] w fun e w' => e = .returned (.int .i64 (lowTo zs (zs.length - 1))) ∧ w' = w := by
  obtain ⟨g, c, e1, _, _, r0, _⟩ := h.spot hz
  subst e1
  have H := Lib.hid h
  have E0 := Lib.hid (show lowTo zs 0 = zs[0] from getD_at hz)
  have h1 : (1 : Int) ≤ (zs.length : Int) := by omega
  clear h
  generalize zs[0] = z0 at r0 E0
  go_enter Try.func42, Try.ntmps42
  go_wp2
  go_loopw [3, 4] (fun nv iv wr => wr = w ∧ ∃ r : Nat, r < zs.length ∧ iv = .int .i64 ((r : Int) + 1) ∧ nv = .int .i64 (lowTo zs r)) (fun _ iv _ => zs.length - (intOf iv).toNat)
  case atStart => exact ⟨rfl, 0, hz, rfl, by rw [E0.out]⟩
  case round =>
    obtain ⟨rfl, r, hr, rfl, rfl⟩ := hrel
    by_cases hlt : r + 1 < zs.length
    · obtain ⟨g2, c2, e2, _, _, x0, _⟩ := H.out.spot hlt
      simp only [Value.slice.injEq, Option.some.injEq, Addr.mk.injEq] at e2
      obtain ⟨⟨rfl, _⟩, em, ec⟩ := e2
      clear em ec
      have TM := Lib.hid (lowTo_more hlt)
      generalize zs[r + 1] = x at x0 TM
      generalize lowTo zs r = t at TM
      have hr0 : (0 : Int) ≤ (r : Int) + 1 := by omega
      have hr1 : (r : Int) + 1 < (zs.length : Int) := by omega
      go_wp2
      exact ⟨⟨trivial, r + 1, by omega, by go_num, by rw [TM.out]⟩, by simp [intOf]; omega⟩
    · have hr1 : ¬ (r : Int) + 1 < (zs.length : Int) := by omega
      obtain rfl : r = zs.length - 1 := by omega
      go_wp2
      go_ret
      exact ⟨rfl, rfl⟩
set_option maxHeartbeats 400000 in
/-- slices.Index: the first place of a number that is there. -/
theorem index_is (v : Value) (zs : List Int) (base : Nat) (w : World) (h : OwnI w base v zs) (hl : zs.length ≤ 2000000) (k : Nat) (x : Int) (hk : k < zs.length) (hx : zs[k] = x) (hno : ∀ j (hj : j < zs.length), j < k → zs[j] ≠ x) :
    Calls Try.prog 41 #[v, .int .i64 x] w fun e w' => e = .returned (.int .i64 (k : Int)) ∧ w' = w := by
  obtain ⟨A, c, e1⟩ := h.slice
  subst e1
  have H := Lib.hid h
  have HX := Lib.hid hx
  have HN := Lib.hid hno
  clear h hx hno
  go_enter Try.func41, Try.ntmps41
  go_wp2
  go_loopw [8] (fun iv wr => wr = w ∧ ∃ r : Nat, r ≤ k ∧ iv = .int .i64 (r : Int)) (fun iv _ => zs.length - (intOf iv).toNat)
  case atStart => exact ⟨rfl, 0, by omega, rfl⟩
  case round =>
    obtain ⟨rfl, r, hr, rfl⟩ := hrel
    obtain ⟨g2, c2, e2, _, _, x0, _⟩ := H.out.spot (k := r) (by omega)
    simp only [Value.slice.injEq] at e2
    obtain ⟨rfl, em, rfl⟩ := e2
    clear em
    have hr0 : (0 : Int) ≤ (r : Int) := by omega
    have hr1 : (r : Int) < (zs.length : Int) := by omega
    by_cases e : r = k
    · subst e
      rw [HX.out] at x0
      go_wp2
      go_ret
      exact ⟨rfl, rfl⟩
    · have hne := HN.out r (by omega) (by omega)
      have hne' : (x == zs[r]) = false := by simpa using fun a : x = zs[r] => hne a.symm
      generalize zs[r] = y at x0 hne hne'
      go_wp2
      exact ⟨⟨trivial, r + 1, by omega, by go_num⟩, by simp [intOf]; omega⟩
/-- The numbers of two rows are the same at all places from k on. -/
def sameI (zs ys : List Int) : Bool := decide (zs = ys)
set_option maxHeartbeats 400000 in
theorem equal_any (v u : Value) (zs ys : List Int) (b1 b2 : Nat) (w : World) (h : OwnI w b1 v zs) (h' : OwnI w b2 u ys) (hl : zs.length ≤ 2000000) (hl' : ys.length = zs.length) :
    Calls Try.prog 43 #[v, u] w fun e w' => e = .returned (.bool (sameI zs ys)) ∧ Below w.heap.size w w' := by
  obtain ⟨A, c, e1⟩ := h.slice
  obtain ⟨A', c', e2⟩ := h'.slice
  subst e1 e2
  rw [hl']
  have H := Lib.hid h
  have H' := Lib.hid h'
  have HL := Lib.hid hl'
  clear h h' hl'
  go_enter Try.func43, Try.ntmps43
  go_wp2
  go_loopw [13] (fun iv wr => ∃ r : Nat, r ≤ zs.length ∧ iv = .int .i64 (r : Int) ∧ Hid (zs.take r = ys.take r) ∧ Below w.heap.size w wr) (fun iv _ => zs.length - (intOf iv).toNat)
  case atStart => exact ⟨0, by omega, rfl, Lib.hid rfl, Below.refl _ _⟩
  case round =>
    obtain ⟨r, hr, rfl, HS, hb⟩ := hrel
    by_cases hlt : r < zs.length
    · have hlt' : r < ys.length := by rw [HL.out]; exact hlt
      obtain ⟨g1, d1, e1, _, l1, r1, _⟩ := H.out.spot hlt
      obtain ⟨g2, d2, e2, _, l2, r2, _⟩ := H'.out.spot hlt'
      simp only [Value.slice.injEq] at e1 e2
      obtain ⟨rfl, _, rfl⟩ := e1
      obtain ⟨rfl, _, rfl⟩ := e2
      have hk0 : (0 : Int) ≤ (r : Int) := by omega
      have hk1 : (r : Int) < (zs.length : Int) := by omega
      replace r1 := (hb.cell l1).trans r1
      replace r2 := (hb.cell l2).trans r2
      by_cases e : zs[r] = ys[r]
      · have NX := Lib.hid (show zs.take (r + 1) = ys.take (r + 1) by rw [List.take_succ_eq_append_getElem hlt, List.take_succ_eq_append_getElem hlt', HS.out, e])
        rw [← e] at r2
        clear e
        generalize zs[r] = x at r1 r2
        go_wp2
        go_quiet (fail)
        go_wp2
        exact ⟨⟨r + 1, by omega, by go_num, NX, hb.trans (below_drewN (Below.refl _ _) _)⟩, by simp [intOf]; omega⟩
      · have NE := Lib.hid (show sameI zs ys = false from decide_eq_false fun a => e (by subst a; rfl))
        have hne' : (zs[r] == ys[r]) = false := by simpa using e
        generalize zs[r] = x at r1 e hne'
        generalize ys[r] = y at r2 e hne'
        go_wp2
        go_quiet (fail)
        go_wp2
        go_ret
        exact ⟨by rw [NE.out]; rfl, hb.trans (below_drewN (Below.refl _ _) _)⟩
    · obtain rfl : r = zs.length := by omega
      have EQ := Lib.hid (show sameI zs ys = true from decide_eq_true (by have := HS.out; rw [List.take_length, ← HL.out, List.take_length] at this; exact this))
      go_wp2
      go_ret
      exact ⟨by rw [EQ.out]; rfl, hb⟩
end Go.Proofs.Ytnoocpokicccpaa
