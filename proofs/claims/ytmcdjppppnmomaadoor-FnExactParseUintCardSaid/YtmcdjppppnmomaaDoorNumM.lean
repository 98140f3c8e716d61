/- Decimal numerals, as plain mathematics: reading a numeral gives its number. -/
import Derived.Lib.ItoaMem
import Derived.Lib.AtoiAll
import Derived.Test.YtmcdjppppnmomaaDoorBase
namespace Go.Proofs.YtmcdjppppnmomaaDoor

def DigB (c : UInt8) : Prop := 48 ≤ c.toNat ∧ c.toNat ≤ 57
def valFrom (a : Nat) (l : List UInt8) : Nat := l.foldl (fun a c => 10 * a + (c.toNat - 48)) a
theorem valFrom_snoc (a : Nat) (l : List UInt8) (c : UInt8) : valFrom a (l ++ [c]) = 10 * valFrom a l + (c.toNat - 48) := by simp [valFrom]

theorem dec_dig (u : Nat) : ∀ c ∈ Lib.decDigits u, DigB c := by
  induction u using Nat.strongRecOn with
  | _ u ih =>
    rw [Lib.decDigits]
    split
    · intro c hc
      simp only [List.mem_singleton] at hc
      subst hc
      simp [DigB, UInt8.toNat_ofNat']
      omega
    · intro c hc
      rw [List.mem_append] at hc
      rcases hc with hc | hc
      · exact ih (u / 10) (by omega) c hc
      · simp only [List.mem_singleton] at hc
        subst hc
        simp [DigB, UInt8.toNat_ofNat']
        omega
theorem val_dec (u : Nat) : valFrom 0 (Lib.decDigits u) = u := by
  induction u using Nat.strongRecOn with
  | _ u ih =>
    rw [Lib.decDigits]
    split
    · simp [valFrom, UInt8.toNat_ofNat']
      omega
    · rw [valFrom_snoc, ih (u / 10) (by omega)]
      simp [UInt8.toNat_ofNat']
      omega
theorem val_lt (l : List UInt8) : (∀ c ∈ l, DigB c) → ∀ a k : Nat, a < 10 ^ k → valFrom a l < 10 ^ (k + l.length) := by
  induction l with
  | nil => intro _ a k h; simpa [valFrom] using h
  | cons c l ih =>
    intro hd a k h
    have h1 := hd c (by simp)
    have := ih (fun x hx => hd x (by simp [hx])) (10 * a + (c.toNat - 48)) (k + 1) (by rw [Nat.pow_succ]; unfold DigB at h1; omega)
    rw [show k + (c :: l).length = k + 1 + l.length by simp; omega]
    exact this
theorem parse_dig (l : List UInt8) : (∀ c ∈ l, DigB c) → ∀ a k : Nat, a < 10 ^ k → k + l.length ≤ 18 → Lib.parseUint10 a l = .ok (valFrom a l) := by
  induction l with
  | nil => intro _ a k _ _; rfl
  | cons c l ih =>
    intro hd a k h hk
    have h1 := hd c (by simp)
    have hp : 10 ^ k ≤ 10 ^ 17 := Nat.pow_le_pow_right (by decide) (by simp at hk; omega)
    have e17 : (10 : Nat) ^ 17 = 100000000000000000 := by decide
    unfold DigB at h1
    simp only [Lib.parseUint10]
    rw [if_pos h1, if_neg (by omega), if_neg (by omega), ih (fun x hx => hd x (by simp [hx])) (a * 10 + (c.toNat - 48)) (k + 1) (by rw [Nat.pow_succ]; omega) (by simp at hk; omega)]
    simp [valFrom, Nat.mul_comm]

theorem dec_len_le (k : Nat) : ∀ u : Nat, u < 10 ^ (k + 1) → (Lib.decDigits u).length ≤ k + 1 := by
  induction k with
  | zero =>
    intro u hu
    rw [Lib.decDigits, dif_pos (by omega)]
    simp
  | succ k ih =>
    intro u hu
    by_cases h : u < 10
    · rw [Lib.decDigits, dif_pos h]
      simp
    · rw [Lib.decDigits, dif_neg h]
      have := ih (u / 10) (by rw [Nat.pow_succ] at hu; omega)
      simp
      omega
theorem dec_ne_nil (u : Nat) : Lib.decDigits u ≠ [] := by
  rw [Lib.decDigits]
  split <;> simp

/-- Reading the numeral of a number up to MaxUint gives the number. -/
theorem atoi_dec (u : Nat) (h : u ≤ 1000000000) : Lib.atoiAll (Lib.decDigits u) = .ok (u : Int) := by
  have hl := dec_len_le 9 u (by omega)
  have hd := dec_dig u
  have hp := parse_dig (Lib.decDigits u) hd 0 0 (by decide) (by omega)
  rw [val_dec] at hp
  have hn := dec_ne_nil u
  generalize Lib.decDigits u = l at *
  cases l with
  | nil => exact absurd rfl hn
  | cons c r =>
    have h1 := hd c (by simp)
    unfold DigB at h1
    unfold Lib.atoiAll
    simp only
    rw [if_neg (by omega)]
    unfold Lib.parseMag
    rw [if_neg hn, hp]
    simp only
    rw [if_neg (by omega), if_neg (by omega), if_neg (by omega)]
theorem itoa_nat (u : Nat) : Lib.itoa (u : Int) = Lib.decDigits u := Lib.itoa_nonneg u
end Go.Proofs.YtmcdjppppnmomaaDoor
