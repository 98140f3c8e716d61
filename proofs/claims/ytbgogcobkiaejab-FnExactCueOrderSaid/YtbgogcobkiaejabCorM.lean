/- CueOrder as mathematics: always the least cue that is possible next; while one is left there is such a cue. No condition. -/
import Derived.Test.YtbgogcobkiaejabCokM
namespace Go.Proofs.Ytbgogcobkiaejab
set_option linter.unusedVariables false
set_option linter.unusedSimpArgs false
open Go.RowKit

/-- Cue k is not over, and all that it waits for is. -/
def freeB (W : List Nat) (done k : Nat) : Bool := !done.testBit k && decide (W.getD k 0 ||| done = done)
def nextTo (W : List Nat) (done : Nat) : Nat → Int
  | 0 => -1
  | k + 1 => if nextTo W done k < 0 then (if freeB W done k = true then (k : Int) else -1) else nextTo W done k
theorem next_stay (W : List Nat) (done : Nat) {k n : Nat} (h : k ≤ n) (hk : 0 ≤ nextTo W done k) : nextTo W done n = nextTo W done k := by
  induction n with
  | zero => rw [Nat.le_zero.1 h]
  | succ n ih =>
    rcases Nat.lt_or_ge k (n + 1) with c | c
    · have e := ih (by omega)
      rw [nextTo, e, if_neg (by omega)]
    · rw [show k = n + 1 by omega]
theorem next_cases (W : List Nat) (done : Nat) : ∀ n, (nextTo W done n = -1 ∧ ∀ k, k < n → freeB W done k = false) ∨ ∃ k, k < n ∧ nextTo W done n = (k : Int) ∧ freeB W done k = true ∧ ∀ j, j < k → freeB W done j = false := by
  intro n
  induction n with
  | zero => exact .inl ⟨rfl, fun k hk => absurd hk (by omega)⟩
  | succ n ih =>
    rcases ih with ⟨h1, h2⟩ | ⟨k, hk, h1, h2, h3⟩
    · by_cases c : freeB W done n = true
      · exact .inr ⟨n, by omega, by rw [nextTo, h1, if_pos (by omega), if_pos c], c, h2⟩
      · refine .inl ⟨by rw [nextTo, h1, if_pos (by omega), if_neg c], fun k hk => ?_⟩
        rcases (by omega : k < n ∨ k = n) with q | rfl
        · exact h2 k q
        · simpa using c
    · exact .inr ⟨k, by omega, by rw [nextTo, h1, if_neg (by omega)], h2, h3⟩
def ordTo (W : List Nat) (n : Nat) : Nat → List Int × Nat
  | 0 => ([], 0)
  | m + 1 => ((ordTo W n m).1 ++ [nextTo W (ordTo W n m).2 n], (ordTo W n m).2 ||| 1 <<< (nextTo W (ordTo W n m).2 n).toNat)
theorem ord_len (W : List Nat) (n : Nat) : ∀ m, (ordTo W n m).1.length = m := by
  intro m
  induction m with
  | zero => rfl
  | succ m ih => rw [ordTo, List.length_append, ih]; rfl
def cueOrder (ls : List RCue) : List Int := if cuesOk ls = true then (ordTo (waitSet ls) ls.length ls.length).1 else []
theorem cueOrder_len (ls : List RCue) : (cueOrder ls).length ≤ 2000000 := by
  unfold cueOrder
  split
  · next h => have := (cuesOk_has h).1; rw [ord_len]; omega
  · simp
/-- How many of the first n bits are set. -/
def cntB (s : Nat) : Nat → Nat
  | 0 => 0
  | j + 1 => cntB s j + (if s.testBit j = true then 1 else 0)
theorem cnt_or (s k : Nat) (hk : s.testBit k = false) : ∀ n, cntB (s ||| 1 <<< k) n = cntB s n + (if k < n then 1 else 0) := by
  intro n
  induction n with
  | zero => simp [cntB]
  | succ n ih =>
    have e : (s ||| 1 <<< k).testBit n = (s.testBit n || decide (k = n)) := by rw [Nat.testBit_or, bit_one]
    unfold cntB
    rw [ih, e]
    by_cases c : k = n
    · subst c
      rw [hk]
      simp
    · rw [decide_eq_false c, Bool.or_false]
      by_cases q : k < n
      · rw [show (if k < n then 1 else 0) = 1 from if_pos q, show (if k < n + 1 then 1 else 0) = 1 from if_pos (by omega)]; omega
      · rw [show (if k < n then 1 else 0) = 0 from if_neg q, show (if k < n + 1 then 1 else 0) = 0 from if_neg (by omega)]; omega
theorem cnt_all {s : Nat} : ∀ n, (∀ j, j < n → s.testBit j = true) → cntB s n = n := by
  intro n
  induction n with
  | zero => intro _; rfl
  | succ n ih => intro h; unfold cntB; rw [ih (fun j hj => h j (by omega)), if_pos (h n (by omega))]
theorem cnt_less {s n : Nat} (h : cntB s n < n) : ∃ j, j < n ∧ s.testBit j = false := by
  refine Classical.byContradiction fun c => ?_
  have := cnt_all (s := s) n fun j hj => by
    cases q : s.testBit j with
    | true => rfl
    | false => exact absurd ⟨j, hj, q⟩ c
  omega
theorem sub_le {a b : Nat} (h : ∀ i, a.testBit i = true → b.testBit i = true) : a ≤ b := by
  have e : a &&& b = a := Nat.eq_of_testBit_eq fun i => by
    rw [Nat.testBit_and]
    cases q : a.testBit i with
    | false => rfl
    | true => rw [h i q]; rfl
  rw [← e]
  exact Nat.and_le_right
theorem no_circle {ls : List RCue} : ∀ n, circTo ls n = [] → ∀ k, k < n → ((waitSet ls).getD k 0).testBit k = false := by
  intro n
  induction n with
  | zero => intro _ k hk; omega
  | succ n ih =>
    intro h k hk
    unfold circTo at h
    split at h
    · simp at h
    · next c =>
      rcases (by omega : k < n ∨ k = n) with q | rfl
      · exact ih h k q
      · simpa using c
theorem free_there {ls : List RCue} (hn : ls.length ≤ 12) (hc : circleIn ls = []) (done : Nat) : ∀ v k, k < ls.length → done.testBit k = false → (waitSet ls).getD k 0 = v → ∃ j, j < ls.length ∧ freeB (waitSet ls) done j = true := by
  have hcc : circTo ls ls.length = [] := by unfold circleIn at hc; rwa [if_pos hn] at hc
  intro v
  induction v using Nat.strongRecOn with
  | _ v ih =>
    intro k hk hd hv
    by_cases c : (waitSet ls).getD k 0 ||| done = done
    · exact ⟨k, hk, by unfold freeB; rw [hd, decide_eq_true c]; rfl⟩
    · obtain ⟨j, h1, h2⟩ : ∃ j, ((waitSet ls).getD k 0).testBit j = true ∧ done.testBit j = false := by
        refine Classical.byContradiction fun q => c (Nat.eq_of_testBit_eq fun j => ?_)
        rw [Nat.testBit_or]
        cases a : ((waitSet ls).getD k 0).testBit j with
        | false => rfl
        | true =>
          cases b : done.testBit j with
          | true => rfl
          | false => exact absurd ⟨j, a, b⟩ q
      have wk := (wait_bit ls hk).1 h1
      have hj := wk.ends.2
      have lt : (waitSet ls).getD j 0 < (waitSet ls).getD k 0 := by
        have le : (waitSet ls).getD j 0 ≤ (waitSet ls).getD k 0 := sub_le fun i hi => (wait_bit ls hk).2 (wk.trans hj ((wait_bit ls hj).1 hi))
        refine Nat.lt_of_le_of_ne le fun e => ?_
        have := no_circle _ hcc j hj
        rw [e, h1] at this
        cases this
      exact ih _ (by omega) j hj h2 rfl
/-- How far the order has come. -/
structure OrdAt (ls : List RCue) (m : Nat) (out : List Int) (done : Nat) : Prop where
  cnt : cntB done ls.length = m
  low : ∀ j, done.testBit j = true → j < ls.length
  mem : ∀ j : Nat, done.testBit j = true ↔ (j : Int) ∈ out
theorem ord_at {ls : List RCue} (hok : cuesOk ls = true) : ∀ m, m ≤ ls.length → OrdAt ls m (ordTo (waitSet ls) ls.length m).1 (ordTo (waitSet ls) ls.length m).2 ∧ (m < ls.length → ∃ k : Nat, k < ls.length ∧ nextTo (waitSet ls) (ordTo (waitSet ls) ls.length m).2 ls.length = (k : Int) ∧ freeB (waitSet ls) (ordTo (waitSet ls) ls.length m).2 k = true) := by
  obtain ⟨hn, _, hc⟩ := cuesOk_has hok
  have nx : ∀ m, OrdAt ls m (ordTo (waitSet ls) ls.length m).1 (ordTo (waitSet ls) ls.length m).2 → m < ls.length → ∃ k : Nat, k < ls.length ∧ nextTo (waitSet ls) (ordTo (waitSet ls) ls.length m).2 ls.length = (k : Int) ∧ freeB (waitSet ls) (ordTo (waitSet ls) ls.length m).2 k = true := by
    intro m h hm
    obtain ⟨j, hj, hd⟩ := cnt_less (s := (ordTo (waitSet ls) ls.length m).2) (n := ls.length) (by rw [h.cnt]; exact hm)
    obtain ⟨q, hq, hf⟩ := free_there hn.2 hc _ _ j hj hd rfl
    rcases next_cases (waitSet ls) (ordTo (waitSet ls) ls.length m).2 ls.length with ⟨_, h2⟩ | ⟨k, hk, h1, h2, _⟩
    · rw [h2 q hq] at hf; cases hf
    · exact ⟨k, hk, h1, h2⟩
  intro m
  induction m with
  | zero =>
    intro _
    have h : OrdAt ls 0 (ordTo (waitSet ls) ls.length 0).1 (ordTo (waitSet ls) ls.length 0).2 := by
      refine ⟨?_, fun j hj => by simp [ordTo] at hj, fun j => by simp [ordTo]⟩
      show cntB 0 ls.length = 0
      have : ∀ n, cntB 0 n = 0 := fun n => by
        induction n with
        | zero => rfl
        | succ n ih => unfold cntB; rw [ih]; simp
      exact this _
    exact ⟨h, nx 0 h⟩
  | succ m ih =>
    intro hm
    obtain ⟨h, hx⟩ := ih (by omega)
    obtain ⟨k, hk, e, hf⟩ := hx (by omega)
    have hd : (ordTo (waitSet ls) ls.length m).2.testBit k = false := by
      unfold freeB at hf
      simp only [Bool.and_eq_true, Bool.not_eq_true'] at hf
      exact hf.1
    have h2 : OrdAt ls (m + 1) (ordTo (waitSet ls) ls.length (m + 1)).1 (ordTo (waitSet ls) ls.length (m + 1)).2 := by
      unfold ordTo
      rw [e, Int.toNat_natCast]
      refine ⟨by rw [cnt_or _ _ hd, h.cnt, if_pos hk], fun j hj => ?_, fun j => ?_⟩
      · rw [Nat.testBit_or, bit_one, Bool.or_eq_true, decide_eq_true_eq] at hj
        rcases hj with q | rfl
        · exact h.low j q
        · exact hk
      · rw [Nat.testBit_or, bit_one, Bool.or_eq_true, decide_eq_true_eq, List.mem_append, h.mem, List.mem_singleton]
        constructor
        · rintro (q | rfl)
          · exact .inl q
          · exact .inr rfl
        · rintro (q | q)
          · exact .inl q
          · exact .inr (by omega)
    exact ⟨h2, nx (m + 1) h2⟩
end Go.Proofs.Ytbgogcobkiaejab
