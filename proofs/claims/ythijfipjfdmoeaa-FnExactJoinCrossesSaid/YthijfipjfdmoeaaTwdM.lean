/- What TwistOf, TotalTwist, WoundPairs, IsUntwisted and LeastUndoing answer, over the table of twists. No condition. -/
import Derived.Test.YthijfipjfdmoeaaTwsM
namespace Go.Proofs.Ythijfipjfdmoeaa
set_option linter.unusedVariables false
set_option linter.unusedSimpArgs false
open Go.RowKit

theorem tab_len (n : Int) (ls : List RCross) : (twistTab n ls).length ≤ 7 ∧ Square (twistTab n ls).length (twistTab n ls) ∧ ∀ i k, i < (twistTab n ls).length → k < (twistTab n ls).length → -40 ≤ ent (twistTab n ls) i k ∧ ent (twistTab n ls) i k ≤ 40 := by
  unfold twistTab
  by_cases h : crossOk n ls = true
  · rw [if_pos h]
    obtain ⟨h1, _, h3, _⟩ := ok_fits h
    have sq := tab_square h ls.length (Nat.le_refl _)
    refine ⟨by rw [sq.len]; omega, by rw [sq.len]; exact sq, fun i k hi hk => ?_⟩
    rw [sq.len] at hi hk
    have := tab_small h hi hk ls.length (Nat.le_refl _)
    omega
  · rw [if_neg h]
    exact ⟨by simp, ⟨rfl, fun i hi => absurd hi (by simp)⟩, fun i k hi => absurd hi (by simp)⟩
def twistOf (n : Int) (ls : List RCross) (i k : Int) : Int :=
  if inB i 0 (((twistTab n ls).length : Int) - 1) = true ∧ inB k 0 (((twistTab n ls).length : Int) - 1) = true then ent (twistTab n ls) i.toNat k.toNat else 0
def totTo (ls : List RCross) : Nat → Int
  | 0 => 0
  | k + 1 => totTo ls k + sgn (ls.getD k RCross.zero)
def totalTw (n : Int) (ls : List RCross) : Int := if crossOk n ls = true then totTo ls ls.length else 0
theorem tot_small (ls : List RCross) (k : Nat) : -(k : Int) ≤ totTo ls k ∧ totTo ls k ≤ (k : Int) := by
  induction k with
  | zero => rw [totTo]; omega
  | succ k ih => have := sgn_small (ls.getD k RCross.zero); rw [totTo]; omega
/-- The wound pairs of i with those from i + 1 to k. -/
def woundK (t : List (List Int)) (i : Nat) : Nat → List (List Int)
  | 0 => []
  | k + 1 => woundK t i k ++ if i < k ∧ ent t i k ≠ 0 then [[(i : Int), (k : Int)]] else []
def woundI (t : List (List Int)) : Nat → List (List Int)
  | 0 => []
  | i + 1 => woundI t i ++ woundK t i t.length
def woundPs (n : Int) (ls : List RCross) : List (List Int) := woundI (twistTab n ls) (twistTab n ls).length
theorem woundK_low (t : List (List Int)) (i k : Nat) (h : k ≤ i + 1) : woundK t i k = [] := by
  induction k with
  | zero => rfl
  | succ k ih => rw [woundK, ih (by omega), if_neg (by omega)]; rfl
theorem woundK_len (t : List (List Int)) (i k : Nat) : (woundK t i k).length ≤ k := by
  induction k with
  | zero => exact Nat.le_refl _
  | succ k ih => rw [woundK, List.length_append]; split <;> simp <;> omega
theorem woundI_len (t : List (List Int)) (i : Nat) : (woundI t i).length ≤ i * t.length := by
  induction i with
  | zero => simp [woundI]
  | succ i ih =>
    have := woundK_len t i t.length
    rw [woundI, List.length_append, Nat.succ_mul]
    omega
theorem woundPs_len (n : Int) (ls : List RCross) : (woundPs n ls).length ≤ 49 := by
  have h1 := woundI_len (twistTab n ls) (twistTab n ls).length
  have h2 := (tab_len n ls).1
  have h3 : (twistTab n ls).length * (twistTab n ls).length ≤ 7 * 7 := Nat.mul_le_mul h2 h2
  unfold woundPs
  omega
def absI (x : Int) : Int := if x < 0 then -x else x
def leastK (t : List (List Int)) (i : Nat) : Nat → Int
  | 0 => 0
  | k + 1 => leastK t i k + absI (ent t i k)
def leastI (t : List (List Int)) : Nat → Int
  | 0 => 0
  | i + 1 => leastI t i + leastK t i i
def leastUn (n : Int) (ls : List RCross) : Int := if crossOk n ls = true then leastI (twistTab n ls) n.toNat else -1
theorem leastK_small {t : List (List Int)} {i m : Nat} (h : ∀ k, k < m → -40 ≤ ent t i k ∧ ent t i k ≤ 40) : ∀ k, k ≤ m → 0 ≤ leastK t i k ∧ leastK t i k ≤ 40 * (k : Int) := by
  intro k
  induction k with
  | zero => intro _; rw [leastK]; omega
  | succ k ih =>
    intro hk
    have := ih (by omega)
    have := h k (by omega)
    rw [leastK]
    unfold absI
    split <;> omega
theorem leastI_small {t : List (List Int)} {m : Nat} (hm : m ≤ 7) (h : ∀ i k, i < m → k < m → -40 ≤ ent t i k ∧ ent t i k ≤ 40) : ∀ i, i ≤ m → 0 ≤ leastI t i ∧ leastI t i ≤ 280 * (i : Int) := by
  intro i
  induction i with
  | zero => intro _; rw [leastI]; omega
  | succ i ih =>
    intro hi
    have := ih (by omega)
    have := leastK_small (t := t) (i := i) (m := m) (fun k hk => h i k (by omega) hk) i (by omega)
    rw [leastI]
    omega
def untw (n : Int) (ls : List RCross) : Bool := crossOk n ls && (decide ((if orderOk (ordAfter n ls) = true then (invs (ordAfter n ls) : Int) else -1) = 0) && decide ((woundPs n ls).length = 0))
/-- A square table's row, as it lies. -/
theorem OwnR.entryR {w : World} {base n i k : Nat} {v : Value} {t : List (List Int)} (h : OwnR w base v t) (hs : Square n t) (hi : i < n) (hk : k < n) :
    ∃ g c ga ca, v = .slice (some ⟨g, 0, none⟩) n c ∧ w.cell? ⟨g, i, none⟩ = some (.slice (some ⟨ga, 0, none⟩) n ca) ∧ w.cell? ⟨ga, k, none⟩ = some (.int .i64 (ent t i k)) := by
  obtain ⟨vs, h⟩ := h
  obtain ⟨g, c, ga, ca, e1, _, e3, e4, _⟩ := h.entry hs hi hk
  exact ⟨g, c, ga, ca, e1, e3, e4⟩
theorem tab_row (n : Int) (ls : List RCross) (k : Nat) (h : k < (twistTab n ls).length) : (twistTab n ls)[k].length ≤ 7 := by
  obtain ⟨h1, h2, _⟩ := tab_len n ls
  rw [h2.row k h]
  exact h1
theorem tab_up (n : Int) (ls : List RCross) : upTo (twistTab n ls) (twistTab n ls).length ≤ 49 := by
  have h1 := up_le (tab_row n ls)
  have h2 := (tab_len n ls).1
  omega
theorem woundK_two (t : List (List Int)) (i : Nat) : ∀ k, ∀ z ∈ woundK t i k, z.length = 2 := by
  intro k
  induction k with
  | zero => exact fun z hz => by cases hz
  | succ k ih =>
    intro z hz
    rw [woundK] at hz
    rcases List.mem_append.1 hz with c | c
    · exact ih z c
    · split at c
      · rw [List.mem_singleton.1 c]; rfl
      · cases c
theorem woundI_two (t : List (List Int)) : ∀ i, ∀ z ∈ woundI t i, z.length = 2 := by
  intro i
  induction i with
  | zero => exact fun z hz => by cases hz
  | succ i ih =>
    intro z hz
    rw [woundI] at hz
    rcases List.mem_append.1 hz with c | c
    · exact ih z c
    · exact woundK_two t i _ z c
theorem woundPs_row (n : Int) (ls : List RCross) (k : Nat) (h : k < (woundPs n ls).length) : (woundPs n ls)[k].length ≤ 2 := Nat.le_of_eq (woundI_two _ _ _ (List.getElem_mem h))
theorem woundPs_up (n : Int) (ls : List RCross) : upTo (woundPs n ls) (woundPs n ls).length ≤ 98 := by
  have h1 := up_le (woundPs_row n ls)
  have h2 := woundPs_len n ls
  omega
end Go.Proofs.Ythijfipjfdmoeaa
