/- The contract of laws.at. Condition: the bytes can be read. -/
import Derived.Test.YthijfipjfdmoeaaDraw
namespace Go.Proofs.Ythijfipjfdmoeaa
set_option linter.unusedVariables false
open Go.RowKit

set_option maxHeartbeats 400000 in
theorem at_any (a : Option Addr) (n cap : Nat) (z : List Int) (w w' : World) (hr : IsRow .u8 w a n cap z) (hb : Below w.heap.size w w') (i : Nat) (hi : i ≤ 1000) (hn : n ≤ 1048576) :
    Calls Try.prog 13 #[.slice a n cap, .int .i64 (i : Int)] w' fun e w'' => ∃ x : Int, e = .returned (.int .i64 x) ∧ (0 ≤ x ∧ x < 256) ∧ w'' = w' := by
  by_cases h0 : n = 0
  · subst h0
    go_enter Try.func13, Try.ntmps13
    go_wp2
    go_ret
    exact ⟨0, rfl, by omega, rfl⟩
  · have hlt : (i * 5 + 1) % n < n := Nat.mod_lt _ (by omega)
    obtain ⟨xb, xo, v, rfl, hv, hv0, hv1, hxb⟩ := row_at hr hlt
    have hc := (hb.cell (p := ⟨xb, xo + (i * 5 + 1) % n, none⟩) hxb).trans hv
    have hne : ((n : Int) == 0) = false := by simp; omega
    have hp : (0 : Int) < (n : Int) := by omega
    have hm : ((i : Int) * 5 + 1) % (n : Int) = (((i * 5 + 1) % n : Nat) : Int) := by simp
    have hq0 : (0 : Int) ≤ (((i * 5 + 1) % n : Nat) : Int) := by omega
    have hq1 : (((i * 5 + 1) % n : Nat) : Int) < (n : Int) := by omega
    clear hr hb hv hlt
    generalize (i * 5 + 1) % n = q at hc hm hq0 hq1
    go_enter Try.func13, Try.ntmps13
    go_wp2
    go_ret
    exact ⟨v, rfl, by omega, rfl⟩

set_option maxHeartbeats 400000 in
/-- One number, whatever the world behind. -/
theorem at_fixed (a : Option Addr) (n cap : Nat) (z : List Int) (w : World) (hr : IsRow .u8 w a n cap z) (i : Nat) (hi : i ≤ 1000) (hn : n ≤ 1048576) :
    ∃ x : Int, (0 ≤ x ∧ x < 256) ∧ ∀ w', Below w.heap.size w w' → Calls Try.prog 13 #[.slice a n cap, .int .i64 (i : Int)] w' fun e w'' => e = .returned (.int .i64 x) ∧ w' = w'' := by
  by_cases h0 : n = 0
  · subst h0
    refine ⟨0, by omega, fun w' _ => ?_⟩
    go_enter Try.func13, Try.ntmps13
    go_wp2
    go_ret
    exact ⟨rfl, rfl⟩
  · have hlt : (i * 5 + 1) % n < n := Nat.mod_lt _ (by omega)
    obtain ⟨xb, xo, v, rfl, hv, hv0, hv1, hxb⟩ := row_at hr hlt
    refine ⟨v, by omega, fun w' hb => ?_⟩
    have hc := (hb.cell (p := ⟨xb, xo + (i * 5 + 1) % n, none⟩) hxb).trans hv
    have hne : ((n : Int) == 0) = false := by simp; omega
    have hp : (0 : Int) < (n : Int) := by omega
    have hm : ((i : Int) * 5 + 1) % (n : Int) = (((i * 5 + 1) % n : Nat) : Int) := by simp
    have hq0 : (0 : Int) ≤ (((i * 5 + 1) % n : Nat) : Int) := by omega
    have hq1 : (((i * 5 + 1) % n : Nat) : Int) < (n : Int) := by omega
    clear hr hb hv hlt
    generalize (i * 5 + 1) % n = q at hc hm hq0 hq1
    go_enter Try.func13, Try.ntmps13
    go_wp2
    go_ret
    exact ⟨rfl, rfl⟩
end Go.Proofs.Ythijfipjfdmoeaa
