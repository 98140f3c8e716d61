/- The contract of laws.heldCrossS (made by gen_rec.py). Condition: the marked structs lie in a row of their own. -/
import Derived.Test.YthijfipjfdmoeaaCrossL
namespace Go.Proofs.Ythijfipjfdmoeaa
set_option linter.unusedVariables false
set_option linter.unusedSimpArgs false
open Go.RowKit

set_option maxHeartbeats 800000 in
theorem heldCrossS_any (v : Value) (n : Nat) (base : Nat) (w : World) (u : Nat) (hown : OwnCross w base v (markCross u n)) (hl : n ≤ 2000000) (h1 : u ≤ 10000000) :
    Calls Try.prog 24 #[v, .int .i64 (u : Int)] w fun e w' => e = .returned (.int .i64 ((u + 2 * n : Nat) : Int)) ∧ Below w.heap.size w w' := by
  obtain ⟨A, c, e⟩ := hown.slice
  rw [markCross_len] at e
  subst e
  have HH := Lib.hid hown
  clear hown
  go_enter Try.func24, Try.ntmps24
  go_wp2
  go_loopw [1, 5] (fun kv i wr => ∃ k : Nat, k ≤ n ∧ i = .int .i64 k ∧ kv = .int .i64 ((u + 2 * k : Nat) : Int) ∧ Below w.heap.size w wr) (fun _ i _ => n - (intOf i).toNat)
  case atStart => exact ⟨0, by omega, rfl, rfl, Below.refl _ _⟩
  case round =>
    obtain ⟨k, hk, rfl, rfl, hb⟩ := hrel
    by_cases hlt : k < n
    · obtain ⟨g, c', e1, _, l1, rg, _⟩ := HH.out.spot (k := k) (by rw [markCross_len]; exact hlt)
      rw [markCross_at u n k hlt] at rg
      simp only [Value.slice.injEq] at e1
      obtain ⟨rfl, hloop, rfl⟩ := e1
      clear hloop
      replace rg := rg.below hb l1
      have r0 : wr.cell? ⟨g, k * 2, none⟩ = some (.int .i64 ((u + 2 * k : Nat) : Int)) := rg 0 _ rfl
      have r1 : wr.cell? ⟨g, k * 2 + 1, none⟩ = some (.bool (decide (((u + 2 * k + 1 : Nat) : Int) % 3 = 0))) := rg 1 _ rfl
      have hk0 : (0 : Int) ≤ (k : Int) := by omega
      have hk1 : (k : Int) < (n : Int) := by omega
      clear rg
      obtain ⟨bv1, hv1⟩ : ∃ b, (decide (((u + 2 * k + 1 : Nat) : Int) % 3 = 0)) = b := ⟨_, rfl⟩
      have hw1 : (((u : Int) + 2 * (k : Int) + 1) % 3 == 0) = bv1 := by rw [← hv1, show ((u + 2 * k + 1 : Nat) : Int) = (u : Int) + 2 * (k : Int) + 1 by omega]; rfl
      rw [hv1] at r1
      clear hv1
      go_wp2
      exact ⟨⟨k + 1, by omega, by go_num, by go_num, hb⟩, by simp [intOf]; omega⟩
    · have hke : k = n := by omega
      subst hke
      go_wp2
      go_ret
      exact ⟨rfl, hb⟩
end Go.Proofs.Ythijfipjfdmoeaa
