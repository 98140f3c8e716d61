/- What SwapAt and AfterSwaps answer: plain mathematics, for both sides. -/
import Derived.Test.YthijfipjfdmoeaaSrtM
import Derived.Test.YthijfipjfdmoeaaRowI
import Derived.Test.YthijfipjfdmoeaaIntB
namespace Go.Proofs.Ythijfipjfdmoeaa
set_option linter.unusedVariables false
set_option linter.unusedSimpArgs false
open Go.RowKit

/-- What SwapAt answers. -/
def swapR (zs : List Int) (k : Int) : List Int × Bool := if orderOk zs = true ∧ inB k 0 ((zs.length : Int) - 2) = true then (swapL zs k.toNat, true) else (zs, false)
theorem swapR_yes {zs : List Int} {k : Nat} (h : IsOrd zs) (hk : k + 1 < zs.length) : swapR zs (k : Int) = (swapL zs k, true) := by
  unfold swapR
  rw [if_pos ⟨order_iff.2 h, inB_yes (by omega)⟩, Int.toNat_natCast]
theorem swapR_no {zs : List Int} {k : Int} (h : orderOk zs = false ∨ inB k 0 ((zs.length : Int) - 2) = false) : swapR zs k = (zs, false) := by
  unfold swapR
  rw [if_neg (by rintro ⟨h1, h2⟩; rcases h with h | h <;> simp_all)]

theorem swapR_len (zs : List Int) (k : Int) : (swapR zs k).1.length = zs.length := by
  unfold swapR
  split
  · exact swap_len _ _
  · rfl

theorem swapR_try {cur : List Int} {s : Int} : (swapR cur s).2 = (swapTry cur s).isSome ∧ ∀ c, swapTry cur s = some c → swapR cur s = (c, true) := by
  unfold swapR swapTry
  by_cases h : orderOk cur = true ∧ inB s 0 ((cur.length : Int) - 2) = true
  · rw [if_pos h, if_pos (by rw [h.1, h.2]; rfl)]
    exact ⟨rfl, fun c hc => by rw [Option.some.inj hc]⟩
  · rw [if_neg h, if_neg (by rw [Bool.and_eq_true]; exact h)]
    exact ⟨rfl, fun c hc => by cases hc⟩
theorem after_bad {zs ss : List Int} {k : Nat} (h : k ≤ ss.length) (hf : aft zs (ss.take k) = none) : afterSwaps zs ss = (zs, false) := by
  have := aft_none h (Nat.le_refl _) hf
  rw [List.take_length] at this
  unfold afterSwaps
  rw [this]
  split <;> rfl
theorem after_many {zs ss : List Int} (h : 60 < ss.length) : afterSwaps zs ss = (zs, false) := by
  unfold afterSwaps
  rw [if_neg (by omega)]
theorem after_end {zs ss cur : List Int} (h : ss.length ≤ 60 ∨ ss.length = 0) (hc : aft zs ss = some cur) : afterSwaps zs ss = (if orderOk zs = true then cur else zs, orderOk zs) := by
  unfold afterSwaps
  cases hok : orderOk zs with
  | true => rw [if_pos ⟨rfl, by omega⟩, hc]; rfl
  | false => rw [if_neg (by simp)]; rfl
theorem aft_same {zs ss cur : List Int} (hn : orderOk zs = false) (h : aft zs ss = some cur) : cur = zs := by
  cases ss with
  | nil => rw [aft] at h; exact (Option.some.inj h).symm
  | cons s ss =>
    rw [aft] at h
    have : swapTry zs s = none := by
      unfold swapTry
      rw [hn, Bool.false_and, if_neg (by simp)]
    rw [this] at h
    cases h

theorem after_len (zs ss : List Int) : (afterSwaps zs ss).1.length = zs.length := by
  unfold afterSwaps
  split
  · rename_i h
    cases ha : aft zs ss with
    | none => rfl
    | some r => exact (aft_ord (order_iff.1 h.1) ha).2
  · rfl

/-- One exchange is SwapAt. -/
theorem after_one (zs : List Int) (k : Int) : afterSwaps zs [k] = swapR zs k := by
  unfold afterSwaps
  by_cases h : orderOk zs = true
  · rw [if_pos ⟨h, by simp⟩, aft]
    obtain ⟨h1, h2⟩ := swapR_try (cur := zs) (s := k)
    cases ht : swapTry zs k with
    | some c => rw [h2 c ht]; rfl
    | none =>
      by_cases hh : orderOk zs = true ∧ inB k 0 ((zs.length : Int) - 2) = true
      · unfold swapTry at ht
        rw [if_pos (by rw [hh.1, hh.2]; rfl)] at ht
        cases ht
      · rw [swapR, if_neg hh]
  · rw [if_neg (by rintro ⟨x, _⟩; exact h x), swapR_no (.inl (by simpa using h))]
theorem after_off {zs ss : List Int} (h : orderOk zs = false) : afterSwaps zs ss = (zs, false) := by
  unfold afterSwaps
  rw [if_neg (by rintro ⟨x, _⟩; rw [h] at x; cases x)]
theorem try_no {cur : List Int} {s : Int} (h : inB s 0 ((cur.length : Int) - 2) = false) : swapTry cur s = none := by
  unfold swapTry
  rw [h, Bool.and_false, if_neg (by simp)]
end Go.Proofs.Ythijfipjfdmoeaa
