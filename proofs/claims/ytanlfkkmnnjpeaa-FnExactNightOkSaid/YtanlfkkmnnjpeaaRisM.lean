/- Rising rows of numbers as mathematics. No condition. -/
import Derived.Test.YtanlfkkmnnjpeaaIn
import Derived.Test.YtanlfkkmnnjpeaaIntR
namespace Go.Proofs.Ytanlfkkmnnjpeaa
set_option linter.unusedVariables false
set_option linter.unusedSimpArgs false
open Go.RowKit

/-- One number more of a rising row. -/
def riseAt (zs : List Int) (most : Int) (k : Nat) : Bool := inB (zs.getD k 0) 0 most && (decide (k = 0) || decide (zs.getD (k - 1) 0 < zs.getD k 0))
def risingTo (zs : List Int) (most : Int) : Nat → Bool
  | 0 => true
  | k + 1 => risingTo zs most k && riseAt zs most k
def rising (zs : List Int) (most : Int) : Bool := risingTo zs most zs.length
theorem rise_iff (zs : List Int) (most : Int) : ∀ n, risingTo zs most n = true ↔ ∀ k, k < n → riseAt zs most k = true := by
  intro n
  induction n with
  | zero => simp [risingTo]
  | succ n ih =>
    rw [risingTo, Bool.and_eq_true, ih]
    exact ⟨fun ⟨h1, h2⟩ k hk => by rcases (by omega : k < n ∨ k = n) with h | rfl; exact h1 k h; exact h2, fun h => ⟨fun k hk => h k (by omega), h n (by omega)⟩⟩
theorem rise_bad {zs : List Int} {most : Int} {k : Nat} (hk : k < zs.length) (h : riseAt zs most k = false) : rising zs most = false := by
  cases c : rising zs most with
  | false => rfl
  | true => rw [(rise_iff zs most _).1 c k hk] at h; cases h
end Go.Proofs.Ytanlfkkmnnjpeaa
