/- What FullTurn and BringHome answer. No condition. -/
import Derived.Test.YthijfipjfdmoeaaTwdM
namespace Go.Proofs.Ythijfipjfdmoeaa
set_option linter.unusedVariables false
set_option linter.unusedSimpArgs false
open Go.RowKit

/-- A row of crossings of the call's own and a bool. -/
def CrossB (w : World) (r : List RCross × Bool) (e : Ending) (w' : World) : Prop := ∃ v, e = .returned (.tuple #[v, .bool r.2]) ∧ OwnCross w' w.heap.size v r.1 ∧ Below w.heap.size w w'
/-- m crossings from k - 1 down, behind. -/
def downL (k : Nat) : Nat → List RCross
  | 0 => []
  | m + 1 => downL k m ++ [⟨(k : Int) - 1 - (m : Int), false⟩]
/-- m crossings from i + 1 up, in front. -/
def upL (i : Nat) : Nat → List RCross
  | 0 => []
  | m + 1 => upL i m ++ [⟨(i : Int) + 1 + (m : Int), true⟩]
theorem downL_len (k m : Nat) : (downL k m).length = m := by
  induction m with
  | zero => rfl
  | succ m ih => rw [downL, List.length_append, ih]; rfl
theorem upL_len (i m : Nat) : (upL i m).length = m := by
  induction m with
  | zero => rfl
  | succ m ih => rw [upL, List.length_append, ih]; rfl
def turnL (i k : Nat) (f : Bool) : List RCross := downL k (k - 1 - i) ++ [⟨(i : Int), f⟩, ⟨(i : Int), f⟩] ++ upL i (k - 1 - i)
def fullTurn (n i k : Int) (f : Bool) : List RCross × Bool := if inB n 2 7 = true ∧ inB k 1 (n - 1) = true ∧ inB i 0 (k - 1) = true then (turnL i.toNat k.toNat f, true) else ([], false)
theorem turn_no {n i k : Int} {f : Bool} (h : inB n 2 7 = false ∨ inB k 1 (n - 1) = false ∨ inB i 0 (k - 1) = false) : fullTurn n i k f = ([], false) := by
  unfold fullTurn
  rw [if_neg (by rintro ⟨h1, h2, h3⟩; rcases h with h | h | h <;> simp_all)]
theorem fullTurn_len (n i k : Int) (f : Bool) : (fullTurn n i k f).1.length ≤ 14 := by
  unfold fullTurn
  split
  · next h =>
    have h1 : 2 ≤ n ∧ n ≤ 7 := by simpa [inB] using h.1
    have h2 : 1 ≤ k ∧ k ≤ n - 1 := by simpa [inB] using h.2.1
    simp only [turnL, List.length_append, downL_len, upL_len, List.length_cons, List.length_nil]
    omega
  · simp
def frontL (ss : List Int) : List RCross := ss.map fun s => ⟨s, true⟩
theorem frontL_more {ss : List Int} {k : Nat} (h : k < ss.length) : frontL (ss.take (k + 1)) = frontL (ss.take k) ++ [⟨ss[k], true⟩] := by
  unfold frontL
  rw [List.take_succ_eq_append_getElem h, List.map_append]
  rfl
def bringHome (n : Int) (ls : List RCross) : List RCross × Bool := if crossOk n ls = true then (frontL (sortSwaps (ordAfter n ls)), true) else ([], false)
theorem bringHome_len (n : Int) (ls : List RCross) : (bringHome n ls).1.length ≤ 49 := by
  unfold bringHome
  split
  · simp only [frontL, List.length_map]
    exact sortSwaps_len _
  · simp
def repL (x : List RCross) : Nat → List RCross
  | 0 => []
  | m + 1 => repL x m ++ x
theorem repL_len (x : List RCross) (m : Nat) : (repL x m).length = m * x.length := by
  induction m with
  | zero => simp [repL]
  | succ m ih => rw [repL, List.length_append, ih, Nat.succ_mul]
/-- How often a pair is turned back. -/
def halfOf (t : Int) : Nat := (absI t).toNat / 2
def unwAt (n : Int) (ls : List RCross) (z : List Int) : List RCross :=
  repL (fullTurn n (atI z 0) (atI z 1) (decide (twistOf n ls (atI z 0) (atI z 1) < 0))).1 (halfOf (twistOf n ls (atI z 0) (atI z 1)))
def unwTo (n : Int) (ls : List RCross) : Nat → List RCross
  | 0 => []
  | k + 1 => unwTo n ls k ++ unwAt n ls ((woundPs n ls).getD k [])
theorem twistOf_small (n : Int) (ls : List RCross) (i k : Int) : -40 ≤ twistOf n ls i k ∧ twistOf n ls i k ≤ 40 := by
  unfold twistOf
  split
  · next h =>
    have h1 : 0 ≤ i ∧ i ≤ ((twistTab n ls).length : Int) - 1 := by simpa [inB] using h.1
    have h2 : 0 ≤ k ∧ k ≤ ((twistTab n ls).length : Int) - 1 := by simpa [inB] using h.2
    exact (tab_len n ls).2.2 i.toNat k.toNat (by omega) (by omega)
  · omega
theorem half_small {t : Int} (h : -40 ≤ t ∧ t ≤ 40) : halfOf t ≤ 20 := by
  unfold halfOf absI
  split <;> omega
theorem unwAt_len (n : Int) (ls : List RCross) (z : List Int) : (unwAt n ls z).length ≤ 280 := by
  unfold unwAt
  rw [repL_len]
  have h1 := half_small (twistOf_small n ls (atI z 0) (atI z 1))
  have h2 := fullTurn_len n (atI z 0) (atI z 1) (decide (twistOf n ls (atI z 0) (atI z 1) < 0))
  exact Nat.le_trans (Nat.mul_le_mul h1 h2) (by decide)
theorem unwTo_len (n : Int) (ls : List RCross) (k : Nat) : (unwTo n ls k).length ≤ 280 * k := by
  induction k with
  | zero => exact Nat.le_refl _
  | succ k ih =>
    have := unwAt_len n ls ((woundPs n ls).getD k [])
    rw [unwTo, List.length_append]
    omega
def homeInv (n : Int) (ls : List RCross) : Int := if orderOk (ordAfter n ls) = true then (invs (ordAfter n ls) : Int) else -1
def unwindAll (n : Int) (ls : List RCross) : List RCross × Bool := if crossOk n ls = true ∧ homeInv n ls = 0 then (unwTo n ls (woundPs n ls).length, true) else ([], false)
theorem unwind_no {n : Int} {ls : List RCross} (h : crossOk n ls = false ∨ ¬ homeInv n ls = 0) : unwindAll n ls = ([], false) := by
  unfold unwindAll
  rw [if_neg (by rintro ⟨h1, h2⟩; rcases h with h | h; · rw [h] at h1; cases h1
                 · exact h h2)]
theorem unwindAll_len (n : Int) (ls : List RCross) : (unwindAll n ls).1.length ≤ 13720 := by
  unfold unwindAll
  split
  · have h1 := unwTo_len n ls (woundPs n ls).length
    have h2 := woundPs_len n ls
    simp only
    omega
  · simp
end Go.Proofs.Ythijfipjfdmoeaa
