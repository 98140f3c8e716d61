/- The library's slices.Min at a row of numbers that is the call's own. Condition: the row is not empty. -/
import Derived.Test.YtblbmppbbhibeaaIntR
namespace Go.Proofs.Ytblbmppbbhibeaa
set_option linter.unusedVariables false
set_option linter.unusedSimpArgs false
open Go.RowKit

/-- The least of the numbers up to place r. -/
def lowTo (zs : List Int) : Nat → Int
  | 0 => zs.getD 0 0
  | r + 1 => min (lowTo zs r) (zs.getD (r + 1) 0)
theorem getD_at {zs : List Int} {k : Nat} (h : k < zs.length) : zs.getD k 0 = zs[k] := by
  rw [List.getD_eq_getElem?_getD, List.getElem?_eq_getElem h]
  rfl
theorem lowTo_more {zs : List Int} {r : Nat} (h : r + 1 < zs.length) : lowTo zs (r + 1) = if zs[r + 1] < lowTo zs r then zs[r + 1] else lowTo zs r := by
  show min (lowTo zs r) (zs.getD (r + 1) 0) = _
  rw [getD_at h]
  split <;> omega

set_option maxHeartbeats 400000 in
theorem min_any (v : Value) (zs : List Int) (base : Nat) (w : World) (h : OwnI w base v zs) (hz : 0 < zs.length) (hl : zs.length ≤ 2000000) :
    Calls Try.prog 40 #[v] w fun e w' => e = .returned (.int .i64 (lowTo zs (zs.length - 1))) ∧ w' = w := by
  obtain ⟨g, c, e1, _, _, r0, _⟩ := h.spot hz
  subst e1
  have H := Lib.hid h
  have E0 := Lib.hid (show lowTo zs 0 = zs[0] from getD_at hz)
  have h1 : (1 : Int) ≤ (zs.length : Int) := by omega
  clear h
  generalize zs[0] = z0 at r0 E0
  go_enter Try.func40, Try.ntmps40
  go_wp2
  go_loopw [3, 4] (fun nv iv wr => wr = w ∧ ∃ r : Nat, r < zs.length ∧ iv = .int .i64 ((r : Int) + 1) ∧ nv = .int .i64 (lowTo zs r)) (fun _ iv _ => zs.length - (intOf iv).toNat)
  case atStart => exact ⟨rfl, 0, hz, rfl, by rw [E0.out]⟩
  case round =>
    obtain ⟨rfl, r, hr, rfl, rfl⟩ := hrel
    by_cases hlt : r + 1 < zs.length
    · obtain ⟨g2, c2, e2, _, _, x0, _⟩ := H.out.spot hlt
      simp only [Value.slice.injEq, Option.some.injEq, Addr.mk.injEq] at e2
      obtain ⟨⟨rfl, _⟩, em, ec⟩ := e2
      clear em ec
      have TM := Lib.hid (lowTo_more hlt)
      generalize zs[r + 1] = x at x0 TM
      generalize lowTo zs r = t at TM
      have hr0 : (0 : Int) ≤ (r : Int) + 1 := by omega
      have hr1 : (r : Int) + 1 < (zs.length : Int) := by omega
      go_wp2
      exact ⟨⟨trivial, r + 1, by omega, by go_num, by rw [TM.out]⟩, by simp [intOf]; omega⟩
    · have hr1 : ¬ (r : Int) + 1 < (zs.length : Int) := by omega
      obtain rfl : r = zs.length - 1 := by omega
      go_wp2
      go_ret
      exact ⟨rfl, rfl⟩
end Go.Proofs.Ytblbmppbbhibeaa
