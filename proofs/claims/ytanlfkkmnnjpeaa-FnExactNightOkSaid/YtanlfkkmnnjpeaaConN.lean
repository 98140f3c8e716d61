/- The contracts of the library's slices.Index (any number) and slices.Contains at a row of numbers. Condition: the numbers lie in a row of their own. -/
import Derived.Test.YtanlfkkmnnjpeaaIntR
namespace Go.Proofs.Ytanlfkkmnnjpeaa
set_option linter.unusedVariables false
set_option linter.unusedSimpArgs false
open Go.RowKit

/-- Is the number among them? -/
def hasZ (zs : List Int) (x : Int) : Bool := zs.any fun z => decide (z = x)
theorem hasZ_yes {zs : List Int} {x : Int} {k : Nat} (hk : k < zs.length) (h : zs[k] = x) : hasZ zs x = true := List.any_eq_true.2 ⟨_, List.getElem_mem hk, decide_eq_true h⟩
theorem hasZ_no {zs : List Int} {x : Int} (h : ∀ k (hk : k < zs.length), zs[k] ≠ x) : hasZ zs x = false := by
  cases c : hasZ zs x with
  | false => rfl
  | true =>
    obtain ⟨z, hz, e⟩ := List.any_eq_true.1 c
    obtain ⟨k, hk, rfl⟩ := List.mem_iff_getElem.1 hz
    exact absurd (of_decide_eq_true e) (h k hk)

set_option maxHeartbeats 400000 in
/-- slices.Index: not negative just if the number is there. -/
theorem index_any (v : Value) (zs : List Int) (base : Nat) (w : World) (h : OwnI w base v zs) (hl : zs.length ≤ 2000000) (x : Int) :
    Calls Try.prog 74 #[v, .int .i64 x] w fun e w' => (∃ r : Int, e = .returned (.int .i64 r) ∧ (0 ≤ r ↔ hasZ zs x = true)) ∧ w = w' := by
  obtain ⟨A, c, e1⟩ := h.slice
  subst e1
  have H := Lib.hid h
  have YES := Lib.hid (fun k (hk : k < zs.length) (e : zs[k] = x) => hasZ_yes hk e)
  have NO := Lib.hid (fun h => hasZ_no (zs := zs) (x := x) h)
  clear h
  go_enter Try.func74, Try.ntmps74
  go_wp2
  go_loopw [8] (fun iv wr => w = wr ∧ ∃ r : Nat, r ≤ zs.length ∧ iv = .int .i64 (r : Int) ∧ Hid (∀ j (hj : j < zs.length), j < r → zs[j] ≠ x)) (fun iv _ => zs.length - (intOf iv).toNat)
  case atStart => exact ⟨rfl, 0, by omega, rfl, Lib.hid (fun j _ h => absurd h (by omega))⟩
  case round =>
    obtain ⟨rfl, r, hr, rfl, HN⟩ := hrel
    by_cases hlt : r < zs.length
    rotate_left
    · obtain rfl : r = zs.length := by omega
      have R := Lib.hid (NO.out (fun k hk => HN.out k hk hk))
      go_wp2
      go_ret
      exact ⟨⟨-1, rfl, by rw [R.out]; simp⟩, rfl⟩
    obtain ⟨g2, c2, e2, _, _, x0, _⟩ := H.out.spot (k := r) hlt
    simp only [Value.slice.injEq] at e2
    obtain ⟨rfl, -, rfl⟩ := e2
    have hr0 : (0 : Int) ≤ (r : Int) := by omega
    have hr1 : (r : Int) < (zs.length : Int) := by omega
    have Y := Lib.hid (YES.out r hlt)
    have NX := Lib.hid (fun (e : zs[r] ≠ x) => (show ∀ j (hj : j < zs.length), j < r + 1 → zs[j] ≠ x from fun j hj h => by
      rcases (by omega : j < r ∨ j = r) with q | rfl
      · exact HN.out j hj q
      · exact e))
    generalize zs[r] = y at x0 Y NX
    by_cases e : y = x
    · have R := Lib.hid (Y.out e)
      subst e
      go_wp2
      go_ret
      exact ⟨⟨r, rfl, by rw [R.out]; simp⟩, rfl⟩
    · have hne' : (x == y) = false := by simpa using fun a : x = y => e a.symm
      have N2 := Lib.hid (NX.out e)
      go_wp2
      exact ⟨⟨trivial, r + 1, by omega, by go_num, N2⟩, by simp [intOf]; omega⟩

theorem contains_any (v : Value) (zs : List Int) (base : Nat) (w : World) (h : OwnI w base v zs) (hl : zs.length ≤ 2000000) (x : Int) :
    Calls Try.prog 72 #[v, .int .i64 x] w fun e w' => e = .returned (.bool (hasZ zs x)) ∧ w = w' := by
  have C := Lib.hid (index_any v zs base w h hl x)
  obtain ⟨A, c, e1⟩ := h.slice
  subst e1
  clear h
  cases hb : hasZ zs x with
  | true =>
    rw [hb] at C
    go_enter Try.func72, Try.ntmps72
    go_wp2_with fail
    refine C.out.mono ?_
    rintro e w' ⟨⟨r, rfl, hr⟩, rfl⟩
    have hr2 : decide ((0 : Int) ≤ r) = true := decide_eq_true (by simpa using hr)
    clear hr
    go_wp2
    go_ret
    exact ⟨rfl, rfl⟩
  | false =>
    rw [hb] at C
    go_enter Try.func72, Try.ntmps72
    go_wp2_with fail
    refine C.out.mono ?_
    rintro e w' ⟨⟨r, rfl, hr⟩, rfl⟩
    have hr2 : decide ((0 : Int) ≤ r) = false := decide_eq_false (by simpa using hr)
    clear hr
    go_wp2
    go_ret
    exact ⟨rfl, rfl⟩
end Go.Proofs.Ytanlfkkmnnjpeaa
