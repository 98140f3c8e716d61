/- The contract of laws.eqIntSS at equal rows. Condition: the rows are the call's own. -/
import Derived.Test.YtanlfkkmnnjpeaaPk7
import Derived.Test.YtanlfkkmnnjpeaaPk3
import Derived.Deep.RegionHeld3
namespace Go.Proofs.Ytanlfkkmnnjpeaa
set_option linter.unusedVariables false
set_option linter.unusedSimpArgs false
open Go.RowKit

set_option maxRecDepth 100000 in
set_option maxHeartbeats 1600000 in
theorem eqIntSS_same (v1 v2 : Value) (zss : List (List Int)) (b1 b2 : Nat) (w : World) (h1 : OwnR w b1 v1 zss) (h2 : OwnR w b2 v2 zss) (hl : zss.length ≤ 2000000) (hr : ∀ r (h : r < zss.length), zss[r].length ≤ 2000000) :
    Calls Try.prog 27 #[v1, v2] w fun e w' => e = .returned (.bool true) ∧ Below w.heap.size w w' := by
  obtain ⟨P, c, rfl⟩ := h1.slice
  obtain ⟨Q, d, rfl⟩ := h2.slice
  have HP := Lib.hid h1
  have HQ := Lib.hid h2
  have HR := Lib.hid hr
  have hne : ((zss.length : Int) != (zss.length : Int)) = false := by simp
  clear h1 h2 hr
  go_enter Try.func27, Try.ntmps27
  go_wp2_with fail
  go_loopw [5] (fun iv wr => ∃ k : Nat, k ≤ zss.length ∧ iv = .int .i64 (k : Int) ∧ Hid (Below w.heap.size w wr)) (fun iv _ => zss.length - (intOf iv).toNat)
  case atStart => exact ⟨0, by omega, rfl, Lib.hid (Below.refl _ _)⟩
  case round =>
    obtain ⟨k, hk, rfl, BW⟩ := hrel
    by_cases hlt : k < zss.length
    · obtain ⟨g, _, A, c', f1, z0, _, o1⟩ := (HP.out.below BW.out).spot hlt
      simp only [Value.slice.injEq] at f1
      obtain ⟨rfl, em, rfl⟩ := f1
      clear em
      obtain ⟨gq, _, A2, d', f2, z1, _, o2⟩ := (HQ.out.below BW.out).spot hlt
      simp only [Value.slice.injEq] at f2
      obtain ⟨rfl, em, rfl⟩ := f2
      clear em
      have hk0 : (0 : Int) ≤ (k : Int) := by omega
      have hk1 : (k : Int) < (zss.length : Int) := by omega
      have hz := HR.out k hlt
      have C0 := Lib.hid (eqIntS_same _ _ zss[k] b1 b2 wr.drew (o1.below (Below.refl _ _).drew) (o2.below (Below.refl _ _).drew) hz)
      have X0 := Lib.hid (And.intro z0 z1)
      generalize zss[k] = zs at z0 z1 X0 C0
      clear o1 o2 hz
      go_wp2_with fail
      go_region_held3 (fun W => W.cell? ⟨g, k, none⟩ = some (.slice A zs.length c') ∧ W.cell? ⟨gq, k, none⟩ = some (.slice A2 zs.length d'))
        (first | exact X0.out | exact X3.out)
        (first | (go_at_call 30; (with_reducible refine C0.out.mono ?_); rintro e w3 ⟨rfl, b3⟩; have X3 := Lib.hid (And.intro (cell_below X0.out.1 (undrew b3)) (cell_below X0.out.2 (undrew b3)))))
      have B3 := Lib.hid (BW.out.trans ((undrew b3).mono BW.out.size))
      go_wp2
      exact ⟨⟨k + 1, by omega, by go_num, B3⟩, by simp [intOf]; omega⟩
    · obtain rfl : k = zss.length := by omega
      go_wp2
      go_ret
      exact ⟨rfl, BW.out⟩
end Go.Proofs.Ytanlfkkmnnjpeaa
