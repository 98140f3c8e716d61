/- The program's exchange in place of an order. Condition: the numbers lie in a row of their own. -/
import Derived.Test.YthijfipjfdmoeaaSwpM
import Derived.Test.YthijfipjfdmoeaaRowI
namespace Go.Proofs.Ythijfipjfdmoeaa
set_option linter.unusedVariables false
set_option linter.unusedSimpArgs false
open Go.RowKit

set_option maxRecDepth 100000 in
set_option maxHeartbeats 800000 in
theorem swapM (v : Value) (zs : List Int) (k : Nat) (b : Nat) (w : World) (h : OwnI w b v zs) (hk : k + 1 < zs.length) (hl : zs.length ≤ 2000000) :
    Calls Try.prog 65 #[v, .int .i64 (k : Int)] w fun e w' => e = .returned (.tuple #[]) ∧ OwnI w' b v (swapL zs k) ∧ w.grownBy w' v.ownBlock := by
  have h1 : k < zs.length := by omega
  have hk0 : (0 : Int) ≤ (k : Int) := by omega
  have hk1 : (k : Int) < (zs.length : Int) := by omega
  have hk3 : (0 : Int) ≤ (k : Int) + 1 := by omega
  have hk4 : (k : Int) + 1 < (zs.length : Int) := by omega
  have e2 : IntKind.i64.wrap ((k : Int) + 1) = (k : Int) + 1 := IntWalk.i64_in _ (by omega)
  obtain ⟨A, c, rfl⟩ := h.slice
  obtain ⟨g, _, f1, _, _, z0, u0⟩ := h.spot h1
  simp only [Value.slice.injEq] at f1
  obtain ⟨rfl, em, rfl⟩ := f1
  clear em
  obtain ⟨_, _, f1, _, _, z1, u1⟩ := h.spot hk
  simp only [Value.slice.injEq, Option.some.injEq, Addr.mk.injEq] at f1
  obtain ⟨⟨rfl, _⟩, _⟩ := f1
  have O := Lib.hid h
  clear h
  have AT := Lib.hid (And.intro (atI_of h1) (atI_of hk))
  generalize zs[k] = x at z0 AT
  generalize zs[k + 1] = y at z1 AT
  go_enter Try.func65, Try.ntmps65
  go_wp2
  go_region
  go_end0
  obtain ⟨s1, g1⟩ := O.out.set rfl k y
  obtain ⟨s2, g2⟩ := s1.set (by simp) (k + 1) x
  have gg := grown_then g1 g2
  refine ⟨rfl, ?_, ⟨gg.os, gg.tape, gg.output, gg.size, gg.block⟩⟩
  have := s2.below (Below.refl _ _).drew
  unfold swapL
  rw [AT.out.1, AT.out.2]
  exact this

end Go.Proofs.Ythijfipjfdmoeaa
