/- Sets of small numbers as bits of an int: what '|', '&', '<<' and '>>' give. No condition but that the sets lie below 2^62. -/
import Derived.Test.YtjpalndcfaeihaaIn
namespace Go.Proofs.Ytjpalndcfaeihaa
set_option linter.unusedVariables false
set_option linter.unusedSimpArgs false
open Go.RowKit

theorem or_nat {s t : Nat} (hs : s < 2 ^ 62) (ht : t < 2 ^ 62) : bits .or .i64 (s : Int) (t : Int) = ((s ||| t : Nat) : Int) := by
  have h : s ||| t < 2 ^ 62 := Nat.or_lt_two_pow hs ht
  have e : bits .or .i64 (s : Int) (t : Int) = IntKind.i64.wrap (((BitVec.ofInt 64 (s : Int)) ||| (BitVec.ofInt 64 (t : Int))).toNat : Int) := rfl
  rw [e, BitVec.toNat_or, BitVec.ofInt_natCast, BitVec.ofInt_natCast, BitVec.toNat_ofNat, BitVec.toNat_ofNat, Nat.mod_eq_of_lt (by omega), Nat.mod_eq_of_lt (by omega)]
  exact IntWalk.i64_in _ (by omega)
theorem and_nat {s t : Nat} (hs : s < 2 ^ 62) (ht : t < 2 ^ 62) : bits .and .i64 (s : Int) (t : Int) = ((s &&& t : Nat) : Int) := by
  have h : s &&& t < 2 ^ 62 := Nat.and_lt_two_pow s ht
  have e : bits .and .i64 (s : Int) (t : Int) = IntKind.i64.wrap (((BitVec.ofInt 64 (s : Int)) &&& (BitVec.ofInt 64 (t : Int))).toNat : Int) := rfl
  rw [e, BitVec.toNat_and, BitVec.ofInt_natCast, BitVec.ofInt_natCast, BitVec.toNat_ofNat, BitVec.toNat_ofNat, Nat.mod_eq_of_lt (by omega), Nat.mod_eq_of_lt (by omega)]
  exact IntWalk.i64_in _ (by omega)
theorem shr_nat (s m : Nat) (hm : m ≤ 60) : (s : Int) / 2 ^ min m 64 = ((s >>> m : Nat) : Int) := by
  rw [Nat.min_eq_left (by omega), Nat.shiftRight_eq_div_pow]
  push_cast
  rfl
theorem bit_nat (s m : Nat) (hm : m ≤ 60) (hs : s < 2 ^ 62) : bits .and .i64 ((s : Int) / 2 ^ min m 64) 1 = if s.testBit m = true then 1 else 0 := by
  have h1 : s >>> m < 2 ^ 62 := Nat.lt_of_le_of_lt (by rw [Nat.shiftRight_eq_div_pow]; exact Nat.div_le_self _ _) hs
  rw [shr_nat s m hm, show (1 : Int) = ((1 : Nat) : Int) from rfl, and_nat h1 (by omega)]
  have e : s.testBit m = (1 &&& (s >>> m) != 0) := rfl
  rw [e, Nat.and_comm 1 (s >>> m), Nat.and_one_is_mod]
  rcases (by omega : s >>> m % 2 = 0 ∨ s >>> m % 2 = 1) with h | h <;> rw [h] <;> simp
theorem bit_nat2 (s m : Nat) (hm : m ≤ 60) (hs : s < 2 ^ 62) : bits .and .i64 ((s : Int) / 2 ^ m) 1 = if s.testBit m = true then 1 else 0 := by
  have h := bit_nat s m hm hs
  rwa [Nat.min_eq_left (by omega)] at h
theorem shl_nat (j : Nat) (hj : j ≤ 60) : IntKind.i64.wrap (2 ^ min j 64) = ((1 <<< j : Nat) : Int) := by
  have h : 2 ^ j < 2 ^ 61 := Nat.pow_lt_pow_right (by omega) (by omega)
  rw [Nat.min_eq_left (by omega), Nat.shiftLeft_eq, Nat.one_mul]
  have e : ((2 ^ j : Nat) : Int) = (2 : Int) ^ j := by push_cast; rfl
  rw [← e]
  clear e
  generalize 2 ^ j = p at h ⊢
  exact IntWalk.i64_in _ (by omega)
theorem shl_nat64 (j : Nat) (hj : j ≤ 60) : wrap64 (2 ^ j) = ((1 <<< j : Nat) : Int) := by
  have h := shl_nat j hj
  rw [Nat.min_eq_left (by omega)] at h
  rw [← h]
  simp [wrap64, IntKind.wrap_i64]
end Go.Proofs.Ytjpalndcfaeihaa
