/- Decimal digits that are put in front of a text one by one. -/
import Derived.Test.YtmcdjppppnmomaaDoorBytes
import Derived.Lib.ItoaNum
namespace Go.Proofs.YtmcdjppppnmomaaDoor
open Go.RowKit

/-- The digits that are still to come; none for 0. -/
def preD (m : Nat) : List UInt8 := if m = 0 then [] else Lib.decDigits m
theorem preD_pos {m : Nat} (h : 0 < m) : preD m = preD (m / 10) ++ [UInt8.ofNat (48 + m % 10)] := by
  unfold preD
  rw [if_neg (by omega), Lib.decDigits]
  by_cases h10 : m < 10
  · rw [dif_pos h10, if_pos (by omega), Nat.mod_eq_of_lt h10]
    rfl
  · rw [dif_neg h10, if_neg (by omega)]

/-- A text of one byte, out of a row of one byte. -/
theorem conv_one (w : World) (x : Int) (h0 : 0 ≤ x) (h1 : x < 256) :
    (convert 22 9 (.slice (some ⟨w.heap.size, 0, none⟩) 1 1)).run Tryd.prog (w.alloc (.cells #[.int .u8 x] 5)) = .ok (.string ⟨#[UInt8.ofNat x.toNat]⟩) (w.alloc (.cells #[.int .u8 x] 5)) := by
  have e : x = ((UInt8.ofNat x.toNat).toNat : Int) := by simp [UInt8.toNat_ofNat']; omega
  have h := conv_own (w := w.alloc (.cells #[.int .u8 x] 5)) (base := w.heap.size) (v := .slice (some ⟨w.heap.size, 0, none⟩) 1 1) (l := [UInt8.ofNat x.toNat])
    (by
      have h := World.ownsRow_lit (base := w.heap.size) (e := 5) (size := 1) w #[.int .u8 x] 1 (Nat.le_refl _) (by decide) rfl
      unfold OwnB
      simp only [List.length_cons, List.length_nil, List.map_cons, List.map_nil, byteV]
      rw [← e]
      exact h)
  exact h

theorem dec_len (k : Nat) : ∀ u : Nat, u < 10 ^ (k + 1) → (Lib.decDigits u).length ≤ k + 1 := by
  induction k with
  | zero =>
    intro u hu
    rw [Lib.decDigits, dif_pos (by omega)]
    simp
  | succ k ih =>
    intro u hu
    by_cases h : u < 10
    · rw [Lib.decDigits, dif_pos h]
      simp
    · rw [Lib.decDigits, dif_neg h]
      have := ih (u / 10) (by rw [Nat.pow_succ] at hu; omega)
      simp
      omega
theorem dec_len20 (u : Nat) (h : u ≤ 9223372036854775808) : (Lib.decDigits u).length ≤ 19 := dec_len 18 u (by omega)

/-- One digit more in front. -/
theorem pre_step {m u : Nat} {l : List UInt8} {c : UInt8} (h0 : 0 < m) (hc : c = UInt8.ofNat (48 + m % 10)) (h : preD m ++ l = Lib.decDigits u) : preD (m / 10) ++ (c :: l) = Lib.decDigits u := by
  rw [← h, preD_pos h0, hc]
  simp
theorem pre_len {m u : Nat} {l : List UInt8} (h : preD m ++ l = Lib.decDigits u) (hu : u ≤ 9223372036854775808) : l.length ≤ 19 := by
  have h1 := congrArg List.length h
  have h2 := dec_len20 u hu
  simp at h1
  omega
theorem conv_digit (w : World) (m : Nat) : ∃ c : UInt8, Hid (c = UInt8.ofNat (48 + m % 10)) ∧
    (convert 22 9 (.slice (some ⟨w.heap.size, 0, none⟩) 1 1)).run Tryd.prog (w.alloc (.cells #[.int .u8 (48 + (m : Int) % 10)] 5)) = .ok (.string ⟨#[c]⟩) (w.alloc (.cells #[.int .u8 (48 + (m : Int) % 10)] 5)) := by
  refine ⟨_, ?_, conv_one w (48 + (m : Int) % 10) (by omega) (by omega)⟩
  show UInt8.ofNat _ = _
  congr 1
theorem str_cons (c : UInt8) (l : List UInt8) : (⟨#[c]⟩ : ByteArray) ++ ⟨l.toArray⟩ = ⟨(c :: l).toArray⟩ := by
  apply ByteArray.ext
  simp
end Go.Proofs.YtmcdjppppnmomaaDoor
