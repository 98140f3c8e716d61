/- Texts of this seat laid together, each with its own first sentence below: RisM CokM CorM TimM RowR RowRT TirM. -/
import Derived.Test.YtbgogcobkiaejacPk2
import Derived.Test.YtbgogcobkiaejacPk1
/- Rising rows of numbers as mathematics. No condition. -/
namespace Go.Proofs.Ytbgogcobkiaejac
set_option linter.unusedVariables false
set_option linter.unusedSimpArgs false
open Go.RowKit

/-- One number more of a rising row. -/
def riseAt (zs : List Int) (most : Int) (k : Nat) : Bool := inB (zs.getD k 0) 0 most && (decide (k = 0) || decide (zs.getD (k - 1) 0 < zs.getD k 0))
def risingTo (zs : List Int) (most : Int) : Nat → Bool
  | 0 => true
  | k + 1 => risingTo zs most k && riseAt zs most k
def rising (zs : List Int) (most : Int) : Bool := risingTo zs most zs.length
theorem rise_iff (zs : List Int) (most : Int) : ∀ n, risingTo zs most n = true ↔ ∀ k, k < n → riseAt zs most k = true := by
  intro n
  induction n with
  | zero => simp [risingTo]
  | succ n ih =>
    rw [risingTo, Bool.and_eq_true, ih]
    exact ⟨fun ⟨h1, h2⟩ k hk => by rcases (by omega : k < n ∨ k = n) with h | rfl; exact h1 k h; exact h2, fun h => ⟨fun k hk => h k (by omega), h n (by omega)⟩⟩
theorem rise_bad {zs : List Int} {most : Int} {k : Nat} (hk : k < zs.length) (h : riseAt zs most k = false) : rising zs most = false := by
  cases c : rising zs most with
  | false => rfl
  | true => rw [(rise_iff zs most _).1 c k hk] at h; cases h
end Go.Proofs.Ytbgogcobkiaejac

/- CircleIn, CuesOk, WaitsFor and FreeCues as mathematics. No condition. -/
namespace Go.Proofs.Ytbgogcobkiaejac
set_option linter.unusedVariables false
set_option linter.unusedSimpArgs false
open Go.RowKit

def circTo (ls : List RCue) : Nat → List Int
  | 0 => []
  | k + 1 => if ((waitSet ls).getD k 0).testBit k = true then circTo ls k ++ [(k : Int)] else circTo ls k
theorem circTo_len (ls : List RCue) (k : Nat) : (circTo ls k).length ≤ k := by
  induction k with
  | zero => exact Nat.le_refl _
  | succ k ih =>
    unfold circTo
    split
    · simp only [List.length_append, List.length_cons, List.length_nil]; omega
    · omega
def circleIn (ls : List RCue) : List Int := if ls.length ≤ 12 then circTo ls ls.length else []
theorem circleIn_len12 (ls : List RCue) : (circleIn ls).length ≤ 12 := by
  unfold circleIn
  split
  · have := circTo_len ls ls.length; omega
  · simp
theorem circleIn_len (ls : List RCue) : (circleIn ls).length ≤ 2000000 := by have := circleIn_len12 ls; omega
def cueFine (n : Nat) (l : RCue) : Bool := inB l.f0 1 50 && (rising l.f1 ((n : Int) - 1) && rising l.f2 6)
def cuesOk (ls : List RCue) : Bool := inB (ls.length : Int) 1 12 && (ls.all (cueFine ls.length) && decide ((circleIn ls).length = 0))
theorem cuesOk_no {ls : List RCue} (h : inB (ls.length : Int) 1 12 = false) : cuesOk ls = false := by unfold cuesOk; rw [h]; rfl
theorem cuesOk_bad {ls : List RCue} {k : Nat} (hk : k < ls.length) (h : cueFine ls.length ls[k] = false) : cuesOk ls = false := by
  unfold cuesOk
  rw [List.all_eq_false.2 ⟨ls[k], List.getElem_mem hk, by rw [h]; simp⟩]
  simp
theorem cuesOk_all {ls : List RCue} (h : inB (ls.length : Int) 1 12 = true) (ha : ∀ k (hk : k < ls.length), cueFine ls.length ls[k] = true) : cuesOk ls = decide ((circleIn ls).length = 0) := by
  unfold cuesOk
  rw [h, List.all_eq_true.2 fun l hl => by obtain ⟨k, hk, rfl⟩ := List.mem_iff_getElem.1 hl; exact ha k hk]
  simp
theorem cuesOk_has {ls : List RCue} (h : cuesOk ls = true) : (1 ≤ ls.length ∧ ls.length ≤ 12) ∧ (∀ k (hk : k < ls.length), cueFine ls.length ls[k] = true) ∧ circleIn ls = [] := by
  unfold cuesOk at h
  simp only [Bool.and_eq_true, decide_eq_true_eq, List.all_eq_true] at h
  obtain ⟨h1, h2, h3⟩ := h
  have h1' : 1 ≤ (ls.length : Int) ∧ (ls.length : Int) ≤ 12 := by simpa [inB] using h1
  exact ⟨by omega, fun k hk => h2 _ (List.getElem_mem hk), List.eq_nil_of_length_eq_zero h3⟩
def waitsFor (ls : List RCue) (i k : Int) : Bool := cuesOk ls && (inB i 0 ((ls.length : Int) - 1) && (inB k 0 ((ls.length : Int) - 1) && ((waitSet ls).getD i.toNat 0).testBit k.toNat))
def freeTo (ls : List RCue) : Nat → List Int
  | 0 => []
  | k + 1 => if (ls.getD k RCue.zero).f1.length = 0 then freeTo ls k ++ [(k : Int)] else freeTo ls k
theorem freeTo_len (ls : List RCue) (k : Nat) : (freeTo ls k).length ≤ k := by
  induction k with
  | zero => exact Nat.le_refl _
  | succ k ih =>
    unfold freeTo
    split
    · simp only [List.length_append, List.length_cons, List.length_nil]; omega
    · omega
def freeCues (ls : List RCue) : List Int := if cuesOk ls = true then freeTo ls ls.length else []
theorem freeCues_len (ls : List RCue) : (freeCues ls).length ≤ 2000000 := by
  unfold freeCues
  split
  · next h => have := (cuesOk_has h).1; have := freeTo_len ls ls.length; omega
  · simp
end Go.Proofs.Ytbgogcobkiaejac

/- CueOrder as mathematics: always the least cue that is possible next; while one is left there is such a cue. No condition. -/
namespace Go.Proofs.Ytbgogcobkiaejac
set_option linter.unusedVariables false
set_option linter.unusedSimpArgs false
open Go.RowKit

/-- Cue k is not over, and all that it waits for is. -/
def freeB (W : List Nat) (done k : Nat) : Bool := !done.testBit k && decide (W.getD k 0 ||| done = done)
def nextTo (W : List Nat) (done : Nat) : Nat → Int
  | 0 => -1
  | k + 1 => if nextTo W done k < 0 then (if freeB W done k = true then (k : Int) else -1) else nextTo W done k
theorem next_stay (W : List Nat) (done : Nat) {k n : Nat} (h : k ≤ n) (hk : 0 ≤ nextTo W done k) : nextTo W done n = nextTo W done k := by
  induction n with
  | zero => rw [Nat.le_zero.1 h]
  | succ n ih =>
    rcases Nat.lt_or_ge k (n + 1) with c | c
    · have e := ih (by omega)
      rw [nextTo, e, if_neg (by omega)]
    · rw [show k = n + 1 by omega]
theorem next_cases (W : List Nat) (done : Nat) : ∀ n, (nextTo W done n = -1 ∧ ∀ k, k < n → freeB W done k = false) ∨ ∃ k, k < n ∧ nextTo W done n = (k : Int) ∧ freeB W done k = true ∧ ∀ j, j < k → freeB W done j = false := by
  intro n
  induction n with
  | zero => exact .inl ⟨rfl, fun k hk => absurd hk (by omega)⟩
  | succ n ih =>
    rcases ih with ⟨h1, h2⟩ | ⟨k, hk, h1, h2, h3⟩
    · by_cases c : freeB W done n = true
      · exact .inr ⟨n, by omega, by rw [nextTo, h1, if_pos (by omega), if_pos c], c, h2⟩
      · refine .inl ⟨by rw [nextTo, h1, if_pos (by omega), if_neg c], fun k hk => ?_⟩
        rcases (by omega : k < n ∨ k = n) with q | rfl
        · exact h2 k q
        · simpa using c
    · exact .inr ⟨k, by omega, by rw [nextTo, h1, if_neg (by omega)], h2, h3⟩
def ordTo (W : List Nat) (n : Nat) : Nat → List Int × Nat
  | 0 => ([], 0)
  | m + 1 => ((ordTo W n m).1 ++ [nextTo W (ordTo W n m).2 n], (ordTo W n m).2 ||| 1 <<< (nextTo W (ordTo W n m).2 n).toNat)
theorem ord_len (W : List Nat) (n : Nat) : ∀ m, (ordTo W n m).1.length = m := by
  intro m
  induction m with
  | zero => rfl
  | succ m ih => rw [ordTo, List.length_append, ih]; rfl
def cueOrder (ls : List RCue) : List Int := if cuesOk ls = true then (ordTo (waitSet ls) ls.length ls.length).1 else []
theorem cueOrder_len (ls : List RCue) : (cueOrder ls).length ≤ 2000000 := by
  unfold cueOrder
  split
  · next h => have := (cuesOk_has h).1; rw [ord_len]; omega
  · simp
/-- How many of the first n bits are set. -/
def cntB (s : Nat) : Nat → Nat
  | 0 => 0
  | j + 1 => cntB s j + (if s.testBit j = true then 1 else 0)
theorem cnt_or (s k : Nat) (hk : s.testBit k = false) : ∀ n, cntB (s ||| 1 <<< k) n = cntB s n + (if k < n then 1 else 0) := by
  intro n
  induction n with
  | zero => simp [cntB]
  | succ n ih =>
    have e : (s ||| 1 <<< k).testBit n = (s.testBit n || decide (k = n)) := by rw [Nat.testBit_or, bit_one]
    unfold cntB
    rw [ih, e]
    by_cases c : k = n
    · subst c
      rw [hk]
      simp
    · rw [decide_eq_false c, Bool.or_false]
      by_cases q : k < n
      · rw [show (if k < n then 1 else 0) = 1 from if_pos q, show (if k < n + 1 then 1 else 0) = 1 from if_pos (by omega)]; omega
      · rw [show (if k < n then 1 else 0) = 0 from if_neg q, show (if k < n + 1 then 1 else 0) = 0 from if_neg (by omega)]; omega
theorem cnt_all {s : Nat} : ∀ n, (∀ j, j < n → s.testBit j = true) → cntB s n = n := by
  intro n
  induction n with
  | zero => intro _; rfl
  | succ n ih => intro h; unfold cntB; rw [ih (fun j hj => h j (by omega)), if_pos (h n (by omega))]
theorem cnt_less {s n : Nat} (h : cntB s n < n) : ∃ j, j < n ∧ s.testBit j = false := by
  refine Classical.byContradiction fun c => ?_
  have := cnt_all (s := s) n fun j hj => by
    cases q : s.testBit j with
    | true => rfl
    | false => exact absurd ⟨j, hj, q⟩ c
  omega
theorem sub_le {a b : Nat} (h : ∀ i, a.testBit i = true → b.testBit i = true) : a ≤ b := by
  have e : a &&& b = a := Nat.eq_of_testBit_eq fun i => by
    rw [Nat.testBit_and]
    cases q : a.testBit i with
    | false => rfl
    | true => rw [h i q]; rfl
  rw [← e]
  exact Nat.and_le_right
theorem no_circle {ls : List RCue} : ∀ n, circTo ls n = [] → ∀ k, k < n → ((waitSet ls).getD k 0).testBit k = false := by
  intro n
  induction n with
  | zero => intro _ k hk; omega
  | succ n ih =>
    intro h k hk
    unfold circTo at h
    split at h
    · simp at h
    · next c =>
      rcases (by omega : k < n ∨ k = n) with q | rfl
      · exact ih h k q
      · simpa using c
theorem free_there {ls : List RCue} (hn : ls.length ≤ 12) (hc : circleIn ls = []) (done : Nat) : ∀ v k, k < ls.length → done.testBit k = false → (waitSet ls).getD k 0 = v → ∃ j, j < ls.length ∧ freeB (waitSet ls) done j = true := by
  have hcc : circTo ls ls.length = [] := by unfold circleIn at hc; rwa [if_pos hn] at hc
  intro v
  induction v using Nat.strongRecOn with
  | _ v ih =>
    intro k hk hd hv
    by_cases c : (waitSet ls).getD k 0 ||| done = done
    · exact ⟨k, hk, by unfold freeB; rw [hd, decide_eq_true c]; rfl⟩
    · obtain ⟨j, h1, h2⟩ : ∃ j, ((waitSet ls).getD k 0).testBit j = true ∧ done.testBit j = false := by
        refine Classical.byContradiction fun q => c (Nat.eq_of_testBit_eq fun j => ?_)
        rw [Nat.testBit_or]
        cases a : ((waitSet ls).getD k 0).testBit j with
        | false => rfl
        | true =>
          cases b : done.testBit j with
          | true => rfl
          | false => exact absurd ⟨j, a, b⟩ q
      have wk := (wait_bit ls hk).1 h1
      have hj := wk.ends.2
      have lt : (waitSet ls).getD j 0 < (waitSet ls).getD k 0 := by
        have le : (waitSet ls).getD j 0 ≤ (waitSet ls).getD k 0 := sub_le fun i hi => (wait_bit ls hk).2 (wk.trans hj ((wait_bit ls hj).1 hi))
        refine Nat.lt_of_le_of_ne le fun e => ?_
        have := no_circle _ hcc j hj
        rw [e, h1] at this
        cases this
      exact ih _ (by omega) j hj h2 rfl
/-- How far the order has come. -/
structure OrdAt (ls : List RCue) (m : Nat) (out : List Int) (done : Nat) : Prop where
  cnt : cntB done ls.length = m
  low : ∀ j, done.testBit j = true → j < ls.length
  mem : ∀ j : Nat, done.testBit j = true ↔ (j : Int) ∈ out
theorem ord_at {ls : List RCue} (hok : cuesOk ls = true) : ∀ m, m ≤ ls.length → OrdAt ls m (ordTo (waitSet ls) ls.length m).1 (ordTo (waitSet ls) ls.length m).2 ∧ (m < ls.length → ∃ k : Nat, k < ls.length ∧ nextTo (waitSet ls) (ordTo (waitSet ls) ls.length m).2 ls.length = (k : Int) ∧ freeB (waitSet ls) (ordTo (waitSet ls) ls.length m).2 k = true) := by
  obtain ⟨hn, _, hc⟩ := cuesOk_has hok
  have nx : ∀ m, OrdAt ls m (ordTo (waitSet ls) ls.length m).1 (ordTo (waitSet ls) ls.length m).2 → m < ls.length → ∃ k : Nat, k < ls.length ∧ nextTo (waitSet ls) (ordTo (waitSet ls) ls.length m).2 ls.length = (k : Int) ∧ freeB (waitSet ls) (ordTo (waitSet ls) ls.length m).2 k = true := by
    intro m h hm
    obtain ⟨j, hj, hd⟩ := cnt_less (s := (ordTo (waitSet ls) ls.length m).2) (n := ls.length) (by rw [h.cnt]; exact hm)
    obtain ⟨q, hq, hf⟩ := free_there hn.2 hc _ _ j hj hd rfl
    rcases next_cases (waitSet ls) (ordTo (waitSet ls) ls.length m).2 ls.length with ⟨_, h2⟩ | ⟨k, hk, h1, h2, _⟩
    · rw [h2 q hq] at hf; cases hf
    · exact ⟨k, hk, h1, h2⟩
  intro m
  induction m with
  | zero =>
    intro _
    have h : OrdAt ls 0 (ordTo (waitSet ls) ls.length 0).1 (ordTo (waitSet ls) ls.length 0).2 := by
      refine ⟨?_, fun j hj => by simp [ordTo] at hj, fun j => by simp [ordTo]⟩
      show cntB 0 ls.length = 0
      have : ∀ n, cntB 0 n = 0 := fun n => by
        induction n with
        | zero => rfl
        | succ n ih => unfold cntB; rw [ih]; simp
      exact this _
    exact ⟨h, nx 0 h⟩
  | succ m ih =>
    intro hm
    obtain ⟨h, hx⟩ := ih (by omega)
    obtain ⟨k, hk, e, hf⟩ := hx (by omega)
    have hd : (ordTo (waitSet ls) ls.length m).2.testBit k = false := by
      unfold freeB at hf
      simp only [Bool.and_eq_true, Bool.not_eq_true'] at hf
      exact hf.1
    have h2 : OrdAt ls (m + 1) (ordTo (waitSet ls) ls.length (m + 1)).1 (ordTo (waitSet ls) ls.length (m + 1)).2 := by
      unfold ordTo
      rw [e, Int.toNat_natCast]
      refine ⟨by rw [cnt_or _ _ hd, h.cnt, if_pos hk], fun j hj => ?_, fun j => ?_⟩
      · rw [Nat.testBit_or, bit_one, Bool.or_eq_true, decide_eq_true_eq] at hj
        rcases hj with q | rfl
        · exact h.low j q
        · exact hk
      · rw [Nat.testBit_or, bit_one, Bool.or_eq_true, decide_eq_true_eq, List.mem_append, h.mem, List.mem_singleton]
        constructor
        · rintro (q | rfl)
          · exact .inl q
          · exact .inr rfl
        · rintro (q | q)
          · exact .inl q
          · exact .inr (by omega)
    exact ⟨h2, nx (m + 1) h2⟩
end Go.Proofs.Ytbgogcobkiaejac

/- StartsOf as mathematics: each cue as soon as all that it names is over. No condition. -/
namespace Go.Proofs.Ytbgogcobkiaejac
set_option linter.unusedVariables false
set_option linter.unusedSimpArgs false
open Go.RowKit

/-- Cue k after the first j of the cues that it names. -/
def relaxTo (ls : List RCue) (k : Nat) (arr : List Int) : Nat → List Int
  | 0 => arr
  | j + 1 =>
    let r := relaxTo ls k arr j
    let p := ((ls.getD k RCue.zero).f1.getD j 0).toNat
    r.set k (if r.getD k 0 < r.getD p 0 + (ls.getD p RCue.zero).f0 then r.getD p 0 + (ls.getD p RCue.zero).f0 else r.getD k 0)
def startsTo (ls : List RCue) : Nat → List Int
  | 0 => List.replicate ls.length 0
  | i + 1 =>
    let k := ((cueOrder ls).getD i 0).toNat
    relaxTo ls k (startsTo ls i) (ls.getD k RCue.zero).f1.length
def startsOf (ls : List RCue) : List Int := if cuesOk ls = true then startsTo ls ls.length else []
theorem relax_len (ls : List RCue) (k : Nat) (arr : List Int) : ∀ j, (relaxTo ls k arr j).length = arr.length := by
  intro j
  induction j with
  | zero => rfl
  | succ j ih => rw [relaxTo]; simp only [List.length_set, ih]
theorem starts_len (ls : List RCue) : ∀ i, (startsTo ls i).length = ls.length := by
  intro i
  induction i with
  | zero => simp [startsTo]
  | succ i ih => rw [startsTo]; simp only [relax_len, ih]
theorem startsOf_len (ls : List RCue) : (startsOf ls).length ≤ 2000000 := by
  unfold startsOf
  split
  · next h => have := (cuesOk_has h).1; rw [starts_len]; omega
  · simp
def InTo (m : Int) (arr : List Int) : Prop := ∀ t, 0 ≤ arr.getD t 0 ∧ arr.getD t 0 ≤ m
theorem inTo_more {m m' : Int} {arr : List Int} (h : InTo m arr) (hm : m ≤ m') : InTo m' arr := fun t => by have := h t; omega
section
variable {ls : List RCue} (hok : cuesOk ls = true)
include hok
theorem cue_fine {k : Nat} (hk : k < ls.length) : (1 ≤ (ls.getD k RCue.zero).f0 ∧ (ls.getD k RCue.zero).f0 ≤ 50) ∧ ∀ j, j < (ls.getD k RCue.zero).f1.length → 0 ≤ (ls.getD k RCue.zero).f1.getD j 0 ∧ (ls.getD k RCue.zero).f1.getD j 0 < (ls.length : Int) := by
  obtain ⟨_, hf, _⟩ := cuesOk_has hok
  have h1 := hf k hk
  have e : ls.getD k RCue.zero = ls[k] := by rw [List.getD_eq_getElem?_getD, List.getElem?_eq_getElem hk]; rfl
  rw [e]
  unfold cueFine at h1
  simp only [Bool.and_eq_true] at h1
  obtain ⟨ha, hb, _⟩ := h1
  have ha : 1 ≤ ls[k].f0 ∧ ls[k].f0 ≤ 50 := by simpa [inB] using ha
  refine ⟨ha, fun j hj => ?_⟩
  have h2 := (rise_iff _ _ _).1 hb j hj
  unfold riseAt at h2
  simp only [Bool.and_eq_true] at h2
  have h3 := h2.1
  generalize ls[k].f1.getD j 0 = x at h3
  have h3 : 0 ≤ x ∧ x ≤ (ls.length : Int) - 1 := by simpa [inB] using h3
  omega
theorem after_max {k : Nat} (hk : k < ls.length) : (ls.getD k RCue.zero).f1.length ≤ 12 := by
  obtain ⟨hn, hf, _⟩ := cuesOk_has hok
  have h1 := hf k hk
  have e : ls.getD k RCue.zero = ls[k] := by rw [List.getD_eq_getElem?_getD, List.getElem?_eq_getElem hk]; rfl
  rw [e]
  unfold cueFine at h1
  simp only [Bool.and_eq_true] at h1
  have hr := (rise_iff _ _ _).1 h1.2.1
  have p : ∀ j, j < ls[k].f1.length → (j : Int) ≤ ls[k].f1.getD j 0 ∧ ls[k].f1.getD j 0 ≤ (ls.length : Int) - 1 := by
    intro j
    induction j with
    | zero =>
      intro hj
      have h2 := hr 0 hj
      unfold riseAt at h2
      simp only [Bool.and_eq_true] at h2
      have h3 := h2.1
      generalize ls[k].f1.getD 0 0 = x at h3 ⊢
      have h3 : 0 ≤ x ∧ x ≤ (ls.length : Int) - 1 := by simpa [inB] using h3
      omega
    | succ j ih =>
      intro hj
      have h0 := ih (by omega)
      have h2 := hr (j + 1) hj
      unfold riseAt at h2
      simp only [Bool.and_eq_true, Bool.or_eq_true, decide_eq_true_eq] at h2
      have h3 := h2.1
      have h4 := h2.2
      rw [show j + 1 - 1 = j by omega] at h4
      generalize ls[k].f1.getD (j + 1) 0 = x at h3 h4 ⊢
      generalize ls[k].f1.getD j 0 = y at h0 h4
      have h3 : 0 ≤ x ∧ x ≤ (ls.length : Int) - 1 := by simpa [inB] using h3
      omega
  refine Classical.byContradiction fun c => ?_
  have := p 12 (by omega)
  omega
theorem relax_in {k : Nat} (hk : k < ls.length) {arr : List Int} {m : Int} (h : InTo m arr) (hm : 0 ≤ m) : ∀ j, j ≤ (ls.getD k RCue.zero).f1.length → InTo (m + 50 * j) (relaxTo ls k arr j) := by
  intro j
  induction j with
  | zero => intro _; exact inTo_more h (by omega)
  | succ j ih =>
    intro hj t
    have r := ih (by omega)
    obtain ⟨q0, q1⟩ := (cue_fine hok hk).2 j (by omega)
    have hp : ((ls.getD k RCue.zero).f1.getD j 0).toNat < ls.length := by omega
    have f := (cue_fine hok hp).1
    rw [relaxTo]
    generalize ((ls.getD k RCue.zero).f1.getD j 0).toNat = p at f ⊢
    generalize (ls.getD p RCue.zero).f0 = g at f ⊢
    have r1 := r p
    have r2 := r k
    have r3 := r t
    by_cases c : k = t
    · subst c
      by_cases l : k < (relaxTo ls k arr j).length
      · rw [List.getD_eq_getElem?_getD (l := List.set _ _ _), List.getElem?_set_self l]
        rw [Option.getD_some]
        split <;> omega
      · rw [List.set_eq_of_length_le (by omega)]
        omega
    · rw [List.getD_eq_getElem?_getD (l := List.set _ _ _), List.getElem?_set_ne c, ← List.getD_eq_getElem?_getD]
      omega
theorem order_get {i : Nat} (hi : i < ls.length) : ∃ p : Nat, p < ls.length ∧ (cueOrder ls)[i]? = some (p : Int) := by
  have hm := (ord_at hok ls.length (Nat.le_refl _)).1
  have hl : (cueOrder ls).length = ls.length := by unfold cueOrder; rw [if_pos hok, ord_len]
  have e : cueOrder ls = (ordTo (waitSet ls) ls.length ls.length).1 := by unfold cueOrder; rw [if_pos hok]
  have key : ∀ m, m ≤ ls.length → ∀ x ∈ (ordTo (waitSet ls) ls.length m).1, ∃ p : Nat, p < ls.length ∧ x = (p : Int) := by
    intro m
    induction m with
    | zero => intro _ x hx; simp [ordTo] at hx
    | succ m ih =>
      intro hm x hx
      obtain ⟨k, h1, h2, _⟩ := (ord_at hok m (by omega)).2 (by omega)
      rw [ordTo, List.mem_append, List.mem_singleton] at hx
      rcases hx with q | q
      · exact ih (by omega) x q
      · exact ⟨k, h1, by rw [q, h2]⟩
  obtain ⟨p, h1, h2⟩ := key ls.length (Nat.le_refl _) ((cueOrder ls)[i]'(by rw [hl]; exact hi)) (by rw [← e]; exact List.getElem_mem _)
  exact ⟨p, h1, by rw [List.getElem?_eq_getElem (by rw [hl]; exact hi), h2]⟩
theorem starts_in : ∀ i, i ≤ ls.length → InTo (600 * i) (startsTo ls i) := by
  intro i
  induction i with
  | zero =>
    intro _ t
    rw [startsTo, List.getD_eq_getElem?_getD, List.getElem?_replicate]
    split <;> simp
  | succ i ih =>
    intro hi
    obtain ⟨p, hp, e⟩ := order_get hok (i := i) (by omega)
    rw [startsTo]
    rw [List.getD_eq_getElem?_getD, e]
    have q := relax_in hok hp (ih (by omega)) (by omega) _ (Nat.le_refl _)
    have l := after_max hok hp
    exact inTo_more q (by omega)
end
/-- The end of the last of the first k cues. -/
def playTo (ls : List RCue) : Nat → Int
  | 0 => -1
  | k + 1 => if playTo ls k < (startsOf ls).getD k 0 + (ls.getD k RCue.zero).f0 then (startsOf ls).getD k 0 + (ls.getD k RCue.zero).f0 else playTo ls k
def playTime (ls : List RCue) : Int := playTo ls (startsOf ls).length
theorem startsOf_in (ls : List RCue) : InTo 7200 (startsOf ls) := by
  unfold startsOf
  split
  · next h => have := (cuesOk_has h).1; exact inTo_more (starts_in h ls.length (Nat.le_refl _)) (by omega)
  · intro t; simp
theorem startsOf_same {ls : List RCue} {k : Nat} (hk : k < (startsOf ls).length) : cuesOk ls = true ∧ k < ls.length ∧ (startsOf ls).length = ls.length := by
  unfold startsOf at hk ⊢
  split at hk
  · next h => rw [if_pos h, starts_len] at *; exact ⟨h, hk, rfl⟩
  · simp at hk
theorem play_in (ls : List RCue) : ∀ k, k ≤ (startsOf ls).length → -1 ≤ playTo ls k ∧ playTo ls k ≤ 7250 := by
  intro k
  induction k with
  | zero => intro _; simp [playTo]
  | succ k ih =>
    intro hk
    have a := ih (by omega)
    obtain ⟨hok, hl, _⟩ := startsOf_same (ls := ls) (k := k) (by omega)
    have b := startsOf_in ls k
    have c := (cue_fine hok hl).1
    rw [playTo]
    split <;> omega
end Go.Proofs.Ytbgogcobkiaejac

/- Rows of rows of numbers of the call's own (each row in a block of its own, no two of them in one). No condition. -/
namespace Go.Proofs.Ytbgogcobkiaejac
set_option linter.unusedVariables false
set_option linter.unusedSimpArgs false
open Go.RowKit

theorem info_ints : (Try.prog.info? 26).map (fun i => (i.zero, i.size, i.bytes)) = some (some (.slice none 0 0), 1, 24) := by kernel_rfl
/-- A row of rows of the call's own; vs: the rows' values. -/
structure OwnRR (w : World) (base : Nat) (v : Value) (vs : List Value) (zss : List (List Int)) : Prop where
  row : w.ownsRow base 26 1 v zss.length vs
  len : vs.length = zss.length
  each : ∀ k (h : k < vs.length) (h' : k < zss.length), OwnI w base vs[k] zss[k]
  off : ∀ k (h : k < vs.length), vs[k].ownBlock = none ∨ vs[k].ownBlock ≠ v.ownBlock
  apart : ∀ i j (hi : i < vs.length) (hj : j < vs.length), i ≠ j → vs[i].ownBlock = none ∨ vs[i].ownBlock ≠ vs[j].ownBlock
def OwnR (w : World) (base : Nat) (v : Value) (zss : List (List Int)) : Prop := ∃ vs, OwnRR w base v vs zss
section
variable {w w' : World} {base b : Nat} {v : Value} {vs : List Value} {zss : List (List Int)}
theorem OwnRR.below (h : OwnRR w base v vs zss) (hb : Below w.heap.size w w') : OwnRR w' base v vs zss :=
  ⟨World.ownsRow.kept h.row (grown_of_below hb none) (by cases v.ownBlock <;> simp), h.len, fun k hk hk' => (h.each k hk hk').below hb, h.off, h.apart⟩
theorem OwnR.below (h : OwnR w base v zss) (hb : Below w.heap.size w w') : OwnR w' base v zss := let ⟨vs, x⟩ := h; ⟨vs, x.below hb⟩
theorem OwnR.alloc (h : OwnR w base v zss) (o : Obj) : OwnR (w.alloc o) base v zss := h.below ((Below.refl _ _).alloc (Nat.le_refl _) _)
theorem OwnRR.slice (h : OwnRR w base v vs zss) : ∃ A c, v = .slice A zss.length c := by
  rcases h.row.2 with ⟨rfl, hn⟩ | ⟨g, cap, _, rfl, _⟩
  · exact ⟨none, 0, by rw [hn]⟩
  · exact ⟨_, _, rfl⟩
theorem OwnR.slice (h : OwnR w base v zss) : ∃ A c, v = .slice A zss.length c := let ⟨_, x⟩ := h; x.slice
theorem OwnRR.lt (h : OwnRR w base v vs zss) : ∀ k, v.ownBlock = some k → base ≤ k ∧ k < w.heap.size := World.ownsRow.lt h.row
theorem OwnR.lt (h : OwnR w base v zss) : ∀ k, v.ownBlock = some k → base ≤ k ∧ k < w.heap.size := let ⟨_, x⟩ := h; x.lt
/-- Row k: its cell, its value, its numbers. -/
theorem OwnR.spot (h : OwnR w base v zss) {k : Nat} (hk : k < zss.length) :
    ∃ g c A c', v = .slice (some ⟨g, 0, none⟩) zss.length c ∧ w.cell? ⟨g, k, none⟩ = some (.slice A zss[k].length c') ∧ w.frozen? ⟨g, k, none⟩ = false ∧ OwnI w base (.slice A zss[k].length c') zss[k] := by
  obtain ⟨vs, x⟩ := h
  have hv : k < vs.length := by rw [x.len]; exact hk
  have O := x.each k hv hk
  obtain ⟨A, c', e⟩ := O.slice
  rcases x.row.2 with ⟨_, hn⟩ | ⟨g, cap, cur, rfl, hb, hg, _⟩
  · omega
  · refine ⟨g, cap, A, c', rfl, ?_, World.ownsRow.frozenAt x.row k, e ▸ O⟩
    rw [World.ownsRow.cellAt x.row k (by omega)]
    simp only [Nat.mul_one] at *
    rw [List.getElem?_eq_getElem hv, e]
/-- A row that has been made since is laid in at place k. -/
theorem OwnRR.set {w0 : World} {g c k : Nat} {u : Value} {zs : List Int} (h : OwnRR w0 base (.slice (some ⟨g, 0, none⟩) zss.length c) vs zss) (hb : Below w0.heap.size w0 w) (hu : OwnI w w0.heap.size u zs) (hbs : base ≤ w0.heap.size) (hk : k < zss.length) :
    OwnRR (w.setCell ⟨g, k, none⟩ u) base (.slice (some ⟨g, 0, none⟩) zss.length c) (vs.set k u) (zss.set k zs) ∧ w.grownBy (w.setCell ⟨g, k, none⟩ u) (some g) := by
  have h1 := h.below hb
  obtain ⟨s1, g1⟩ := World.ownsRow.stored h1.row k u
  have hg : g < w0.heap.size := (h.lt g rfl).2
  have hgw : some g = (Value.slice (some ⟨g, 0, none⟩) zss.length c).ownBlock := rfl
  have lt0 : ∀ i (hi : i < vs.length) b, vs[i].ownBlock = some b → b < w0.heap.size := fun i hi b e => ((h.each i hi (by rw [← h.len]; exact hi)).lt b e).2
  refine ⟨⟨by simpa using s1, by simp [h.len], fun i hi hi' => ?_, fun i hi => ?_, fun i j hi hj hij => ?_⟩, g1⟩
  · simp only [List.length_set] at hi hi'
    by_cases e : k = i
    · subst e
      simp only [List.getElem_set_self]
      exact (hu.mono hbs).kept g1 (sep_of fun b e1 e2 => by have := (hu.lt b e1).1; have := Option.some.inj e2; omega)
    · simp only [List.getElem_set_ne e]
      exact (h1.each i hi hi').kept g1 (h1.off i hi)
  · simp only [List.length_set] at hi
    by_cases e : k = i
    · subst e
      simp only [List.getElem_set_self]
      exact sep_of fun b e1 e2 => by have := (hu.lt b e1).1; have := Option.some.inj (hgw.trans e2); omega
    · simp only [List.getElem_set_ne e]
      exact h1.off i hi
  · simp only [List.length_set] at hi hj
    by_cases e : k = i
    · subst e
      simp only [List.getElem_set_self, List.getElem_set_ne hij]
      exact sep_of fun b e1 e2 => by have := (hu.lt b e1).1; have := lt0 j hj b e2; omega
    · simp only [List.getElem_set_ne e]
      by_cases e2 : k = j
      · subst e2
        simp only [List.getElem_set_self]
        exact sep_of fun b e1 e3 => by have := (hu.lt b e3).1; have := lt0 i hi b e1; omega
      · simp only [List.getElem_set_ne e2]
        exact h1.apart i j hi hj hij
theorem OwnR.set {w0 : World} {g c k : Nat} {u : Value} {zs : List Int} (h : OwnR w0 base (.slice (some ⟨g, 0, none⟩) zss.length c) zss) (hb : Below w0.heap.size w0 w) (hu : OwnI w w0.heap.size u zs) (hbs : base ≤ w0.heap.size) (hk : k < zss.length) :
    OwnR (w.setCell ⟨g, k, none⟩ u) base (.slice (some ⟨g, 0, none⟩) zss.length c) (zss.set k zs) ∧ w.grownBy (w.setCell ⟨g, k, none⟩ u) (some g) :=
  let ⟨vs, x⟩ := h; ⟨⟨vs.set k u, (x.set hb hu hbs hk).1⟩, (x.set hb hu hbs hk).2⟩
/-- n rows made, all nil. -/
theorem ownR_made {n : Nat} {g : Nat} (h : w.ownsRow base 26 1 (.slice (some ⟨g, 0, none⟩) n n) n (List.replicate n (.slice none 0 0))) : OwnR w base (.slice (some ⟨g, 0, none⟩) n n) (List.replicate n []) := by
  refine ⟨List.replicate n (.slice none 0 0), by simpa using h, by simp, fun k hk hk' => ?_, fun k hk => ?_, fun i j hi hj _ => ?_⟩
  · simp only [List.getElem_replicate]
    exact ⟨rfl, .inl ⟨rfl, rfl⟩⟩
  · simp only [List.getElem_replicate]
    exact .inl rfl
  · simp only [List.getElem_replicate]
    exact .inl rfl
end
def RowsPost (w : World) (zss : List (List Int)) (e : Ending) (w' : World) : Prop := ∃ v, e = .returned v ∧ OwnR w' w.heap.size v zss ∧ Below w.heap.size w w'
end Go.Proofs.Ytbgogcobkiaejac

/- How many numbers the first rows hold; how an own row of rows is kept where one row or another block is written. Condition: the rows are the call's own. -/
namespace Go.Proofs.Ytbgogcobkiaejac
set_option linter.unusedVariables false
set_option linter.unusedSimpArgs false
open Go.RowKit

/-- How many numbers the first k rows hold. -/
def upTo (zss : List (List Int)) : Nat → Nat
  | 0 => 0
  | k + 1 => upTo zss k + (zss.getD k []).length
theorem upTo_more {zss : List (List Int)} {k : Nat} (h : k < zss.length) : upTo zss (k + 1) = upTo zss k + zss[k].length := by
  rw [upTo, List.getD_eq_getElem?_getD, List.getElem?_eq_getElem h]
  rfl
theorem upTo_mono (zss : List (List Int)) {j k : Nat} (h : j ≤ k) : upTo zss j ≤ upTo zss k := by
  induction k with
  | zero => rw [Nat.le_zero.1 h]; exact Nat.le_refl _
  | succ k ih =>
    rcases Nat.lt_or_ge j (k + 1) with c | c
    · have := ih (by omega)
      rw [upTo]
      omega
    · rw [show j = k + 1 by omega]; exact Nat.le_refl _
section
variable {w w' : World} {base : Nat} {v : Value} {vs : List Value} {zss : List (List Int)}
theorem sep_none {a r : Option Nat} (h : r = none ∨ r ≠ a) : a = none ∨ a ≠ r := by
  rcases h with rfl | h
  · cases a <;> simp
  · exact .inr (Ne.symm h)
/-- The numbers of one row change. -/
theorem OwnRR.turn {k : Nat} {zs : List Int} (h : OwnRR w base v vs zss) (hk : k < vs.length) (hu : OwnI w' base vs[k] zs) (hg : w.grownBy w' vs[k].ownBlock) : OwnRR w' base v vs (zss.set k zs) := by
  refine ⟨?_, by rw [List.length_set]; exact h.len, fun i hi hi' => ?_, h.off, h.apart⟩
  · rw [List.length_set]
    exact World.ownsRow.kept h.row hg (sep_none (h.off k hk))
  · rw [List.length_set] at hi'
    by_cases e : k = i
    · subst e
      rw [List.getElem_set_self]
      exact hu
    · rw [List.getElem_set_ne e]
      exact (h.each i hi hi').kept hg (h.apart i k hi hk (Ne.symm e))
/-- A write into a block that is older than all of them. -/
theorem OwnR.older {row : Option Nat} (h : OwnR w base v zss) (hg : w.grownBy w' row) (hr : ∀ k, row = some k → k < base) : OwnR w' base v zss := by
  obtain ⟨vs, h⟩ := h
  refine ⟨vs, World.ownsRow.kept h.row hg (sep_of fun b e1 e2 => by have := (h.lt b e1).1; have := hr b e2; omega), h.len, fun i hi hi' => ?_, h.off, h.apart⟩
  exact (h.each i hi hi').kept hg (sep_of fun b e1 e2 => by have := ((h.each i hi hi').lt b e1).1; have := hr b e2; omega)
/-- A write into a block that is newer than all of them. -/
theorem OwnR.newer {row : Option Nat} {top : Nat} {w0 : World} (h0 : OwnR w0 base v zss) (hb : Below w0.heap.size w0 w) (hg : Below top w w') (ht : w0.heap.size ≤ top) : OwnR w' base v zss := h0.below (hb.trans (hg.mono ht))
end
theorem up_le {zss : List (List Int)} {m : Nat} (h : ∀ k (hk : k < zss.length), zss[k].length ≤ m) : upTo zss zss.length ≤ zss.length * m := by
  have : ∀ k, k ≤ zss.length → upTo zss k ≤ k * m := by
    intro k
    induction k with
    | zero => intro _; exact Nat.zero_le _
    | succ k ih =>
      intro hk
      have h1 := ih (by omega)
      have h2 := h k (by omega)
      rw [upTo_more (by omega), Nat.succ_mul]
      omega
  exact this _ (Nat.le_refl _)
end Go.Proofs.Ytbgogcobkiaejac

/- Which starts are fine for cues: ClashesIn, IsPlan and SimplePlan as mathematics. No condition. -/
namespace Go.Proofs.Ytbgogcobkiaejac
set_option linter.unusedVariables false
set_option linter.unusedSimpArgs false
open Go.RowKit

def startsFine (ls : List RCue) (zs : List Int) : Bool := cuesOk ls && (decide (zs.length = ls.length) && zs.all fun z => inB z 0 10000)
/-- A number in common. -/
def commonB (xs ys : List Int) : Bool := xs.any fun x => ys.any fun y => decide (x = y)
theorem common_yes {xs ys : List Int} {i k : Nat} (hi : i < xs.length) (hk : k < ys.length) (h : xs[i] = ys[k]) : commonB xs ys = true :=
  List.any_eq_true.2 ⟨xs[i], List.getElem_mem hi, List.any_eq_true.2 ⟨ys[k], List.getElem_mem hk, decide_eq_true h⟩⟩
theorem common_no {xs ys : List Int} (h : ∀ i (hi : i < xs.length) k (hk : k < ys.length), xs[i] ≠ ys[k]) : commonB xs ys = false := by
  cases c : commonB xs ys with
  | false => rfl
  | true =>
    obtain ⟨x, hx, h1⟩ := List.any_eq_true.1 c
    obtain ⟨y, hy, h2⟩ := List.any_eq_true.1 h1
    obtain ⟨i, hi, rfl⟩ := List.mem_iff_getElem.1 hx
    obtain ⟨k, hk, rfl⟩ := List.mem_iff_getElem.1 hy
    exact absurd (of_decide_eq_true h2) (h i hi k hk)
theorem common_sym (xs ys : List Int) : commonB xs ys = commonB ys xs := by
  have h : ∀ xs ys : List Int, commonB xs ys = true → commonB ys xs = true := by
    intro xs ys c
    obtain ⟨x, hx, h1⟩ := List.any_eq_true.1 c
    obtain ⟨y, hy, h2⟩ := List.any_eq_true.1 h1
    exact List.any_eq_true.2 ⟨y, hy, List.any_eq_true.2 ⟨x, hx, decide_eq_true (of_decide_eq_true h2).symm⟩⟩
  cases a : commonB xs ys with
  | true => exact (h _ _ a).symm
  | false =>
    cases b : commonB ys xs with
    | false => rfl
    | true => rw [h _ _ b] at a; cases a
/-- The pairs of i with those after it that p holds of, up to k. -/
def pairK (p : Nat → Nat → Bool) (i : Nat) : Nat → List (List Int)
  | 0 => []
  | k + 1 => pairK p i k ++ if i < k ∧ p i k = true then [[(i : Int), (k : Int)]] else []
def pairI (p : Nat → Nat → Bool) (n : Nat) : Nat → List (List Int)
  | 0 => []
  | i + 1 => pairI p n i ++ pairK p i n
section
variable {p : Nat → Nat → Bool} {n : Nat}
theorem pairK_low (p : Nat → Nat → Bool) (i k : Nat) (h : k ≤ i + 1) : pairK p i k = [] := by
  induction k with
  | zero => rfl
  | succ k ih => rw [pairK, ih (by omega), if_neg (by omega)]; rfl
theorem pairK_len (p : Nat → Nat → Bool) (i k : Nat) : (pairK p i k).length ≤ k := by
  induction k with
  | zero => exact Nat.le_refl _
  | succ k ih => rw [pairK, List.length_append]; split <;> simp <;> omega
theorem pairI_len (p : Nat → Nat → Bool) (n i : Nat) : (pairI p n i).length ≤ i * n := by
  induction i with
  | zero => simp [pairI]
  | succ i ih =>
    have := pairK_len p i n
    rw [pairI, List.length_append, Nat.succ_mul]
    omega
theorem pairK_two (p : Nat → Nat → Bool) (i : Nat) : ∀ k, ∀ z ∈ pairK p i k, z.length = 2 := by
  intro k
  induction k with
  | zero => exact fun z hz => by cases hz
  | succ k ih =>
    intro z hz
    rw [pairK] at hz
    rcases List.mem_append.1 hz with c | c
    · exact ih z c
    · split at c
      · rw [List.mem_singleton.1 c]; rfl
      · cases c
theorem pairI_two (p : Nat → Nat → Bool) (n : Nat) : ∀ i, ∀ z ∈ pairI p n i, z.length = 2 := by
  intro i
  induction i with
  | zero => exact fun z hz => by cases hz
  | succ i ih =>
    intro z hz
    rw [pairI] at hz
    rcases List.mem_append.1 hz with c | c
    · exact ih z c
    · exact pairK_two p i _ z c
theorem pairK_nil {i : Nat} (h : ∀ k, i < k → k < n → p i k = false) : ∀ k, k ≤ n → pairK p i k = [] := by
  intro k
  induction k with
  | zero => intro _; rfl
  | succ k ih =>
    intro hk
    rw [pairK, ih (by omega), if_neg]
    · rfl
    · rintro ⟨c, d⟩
      rw [h k c (by omega)] at d
      cases d
theorem pairI_nil (h : ∀ i k, i < k → k < n → p i k = false) : ∀ i, pairI p n i = [] := by
  intro i
  induction i with
  | zero => rfl
  | succ i ih => rw [pairI, ih, pairK_nil (h i) n (Nat.le_refl _)]; rfl
end
/-- Cues i and k have a puppet and a tick in common. -/
def clash (ls : List RCue) (zs : List Int) (i k : Nat) : Bool :=
  commonB (ls.getD i RCue.zero).f2 (ls.getD k RCue.zero).f2 && (decide (zs.getD i 0 < zs.getD k 0 + (ls.getD k RCue.zero).f0) && decide (zs.getD k 0 < zs.getD i 0 + (ls.getD i RCue.zero).f0))
def clashesIn (ls : List RCue) (zs : List Int) : List (List Int) := if startsFine ls zs = true then pairI (clash ls zs) ls.length ls.length else []
/-- Cue k begins behind the j-th cue that it names. -/
def aheadAt (ls : List RCue) (zs : List Int) (k j : Nat) : Bool := !decide (zs.getD k 0 < zs.getD ((ls.getD k RCue.zero).f1.getD j 0).toNat 0 + (ls.getD ((ls.getD k RCue.zero).f1.getD j 0).toNat RCue.zero).f0)
def aheadB (ls : List RCue) (zs : List Int) : Bool := (List.range ls.length).all fun k => (List.range (ls.getD k RCue.zero).f1.length).all fun j => aheadAt ls zs k j
def isPlan (ls : List RCue) (zs : List Int) : Bool := startsFine ls zs && (aheadB ls zs && decide ((clashesIn ls zs).length = 0))
theorem ahead_yes {ls : List RCue} {zs : List Int} (h : ∀ k, k < ls.length → ∀ j, j < (ls.getD k RCue.zero).f1.length → aheadAt ls zs k j = true) : aheadB ls zs = true :=
  List.all_eq_true.2 fun k hk => List.all_eq_true.2 fun j hj => h k (List.mem_range.1 hk) j (List.mem_range.1 hj)
theorem ahead_no {ls : List RCue} {zs : List Int} {k j : Nat} (hk : k < ls.length) (hj : j < (ls.getD k RCue.zero).f1.length) (h : aheadAt ls zs k j = false) : aheadB ls zs = false := by
  cases c : aheadB ls zs with
  | false => rfl
  | true =>
    have := List.all_eq_true.1 (List.all_eq_true.1 c k (List.mem_range.2 hk)) j (List.mem_range.2 hj)
    rw [h] at this
    cases this
theorem fine_has {ls : List RCue} {zs : List Int} (h : startsFine ls zs = true) : cuesOk ls = true ∧ zs.length = ls.length ∧ ∀ k, 0 ≤ zs.getD k 0 ∧ zs.getD k 0 ≤ 10000 := by
  unfold startsFine at h
  simp only [Bool.and_eq_true, decide_eq_true_eq, List.all_eq_true] at h
  refine ⟨h.1, h.2.1, fun k => ?_⟩
  by_cases c : k < zs.length
  · have := h.2.2 zs[k] (List.getElem_mem c)
    rw [List.getD_eq_getElem?_getD, List.getElem?_eq_getElem c, Option.getD_some]
    generalize zs[k] = x at this
    have : 0 ≤ x ∧ x ≤ 10000 := by simpa [inB] using this
    exact this
  · rw [List.getD_eq_getElem?_getD, List.getElem?_eq_none (by omega), Option.getD_none]
    omega
theorem clashes_len (ls : List RCue) (zs : List Int) : (clashesIn ls zs).length ≤ 144 := by
  unfold clashesIn
  split
  · next h =>
    have h1 := (cuesOk_has (fine_has h).1).1
    have h2 := pairI_len (clash ls zs) ls.length ls.length
    have h3 : ls.length * ls.length ≤ 12 * 12 := Nat.mul_le_mul h1.2 h1.2
    omega
  · simp
theorem clashes_two (ls : List RCue) (zs : List Int) : ∀ z ∈ clashesIn ls zs, z.length = 2 := by
  intro z hz
  unfold clashesIn at hz
  split at hz
  · exact pairI_two _ _ _ z hz
  · cases hz
theorem clashes_row (ls : List RCue) (zs : List Int) (k : Nat) (h : k < (clashesIn ls zs).length) : (clashesIn ls zs)[k].length ≤ 2 := Nat.le_of_eq (clashes_two ls zs _ (List.getElem_mem h))
theorem clashes_up (ls : List RCue) (zs : List Int) : upTo (clashesIn ls zs) (clashesIn ls zs).length ≤ 288 := by
  have h1 := up_le (clashes_row ls zs)
  have h2 := clashes_len ls zs
  omega
/-- Cue k behind the first j of the order, if they have a puppet in common. -/
def clearTo (ls : List RCue) (k : Nat) (arr : List Int) : Nat → List Int
  | 0 => arr
  | j + 1 =>
    let r := clearTo ls k arr j
    let p := ((cueOrder ls).getD j 0).toNat
    if commonB (ls.getD k RCue.zero).f2 (ls.getD p RCue.zero).f2 = true then r.set k (if r.getD k 0 < r.getD p 0 + (ls.getD p RCue.zero).f0 then r.getD p 0 + (ls.getD p RCue.zero).f0 else r.getD k 0) else r
def planTo (ls : List RCue) : Nat → List Int
  | 0 => List.replicate ls.length 0
  | i + 1 =>
    let k := ((cueOrder ls).getD i 0).toNat
    clearTo ls k (relaxTo ls k (planTo ls i) (ls.getD k RCue.zero).f1.length) i
def simplePlan (ls : List RCue) : List Int := if cuesOk ls = true then planTo ls ls.length else []
theorem clear_len (ls : List RCue) (k : Nat) (arr : List Int) : ∀ j, (clearTo ls k arr j).length = arr.length := by
  intro j
  induction j with
  | zero => rfl
  | succ j ih =>
    rw [clearTo]
    try simp only
    split
    · rw [List.length_set, ih]
    · exact ih
theorem plan_len (ls : List RCue) : ∀ i, (planTo ls i).length = ls.length := by
  intro i
  induction i with
  | zero => simp [planTo]
  | succ i ih => rw [planTo]; simp only [clear_len, relax_len, ih]
theorem simplePlan_len (ls : List RCue) : (simplePlan ls).length ≤ 2000000 := by
  unfold simplePlan
  split
  · next h => have := (cuesOk_has h).1; rw [plan_len]; omega
  · simp
section
variable {ls : List RCue} (hok : cuesOk ls = true)
include hok
theorem clear_in {k : Nat} (hk : k < ls.length) {arr : List Int} {m : Int} (h : InTo m arr) (hm : 0 ≤ m) : ∀ j, j ≤ ls.length → InTo (m + 50 * j) (clearTo ls k arr j) := by
  intro j
  induction j with
  | zero => intro _; exact inTo_more h (by omega)
  | succ j ih =>
    intro hj t
    have r := ih (by omega)
    obtain ⟨p, hp, e⟩ := order_get hok (i := j) (by omega)
    have f := (cue_fine hok hp).1
    rw [clearTo]
    try simp only
    rw [List.getD_eq_getElem?_getD (l := cueOrder ls), e, Option.getD_some, Int.toNat_natCast]
    generalize (ls.getD p RCue.zero).f0 = g at f ⊢
    have r1 := r p
    have r2 := r k
    have r3 := r t
    split
    · by_cases c : k = t
      · subst c
        by_cases l : k < (clearTo ls k arr j).length
        · rw [List.getD_eq_getElem?_getD (l := List.set _ _ _), List.getElem?_set_self l]
          rw [Option.getD_some]
          split <;> omega
        · rw [List.set_eq_of_length_le (by omega)]
          omega
      · rw [List.getD_eq_getElem?_getD (l := List.set _ _ _), List.getElem?_set_ne c, ← List.getD_eq_getElem?_getD]
        omega
    · omega
theorem plan_in : ∀ i, i ≤ ls.length → InTo (1200 * i) (planTo ls i) := by
  intro i
  induction i with
  | zero =>
    intro _ t
    rw [planTo, List.getD_eq_getElem?_getD, List.getElem?_replicate]
    split <;> simp
  | succ i ih =>
    intro hi
    obtain ⟨p, hp, e⟩ := order_get hok (i := i) (by omega)
    rw [planTo]
    try simp only
    rw [List.getD_eq_getElem?_getD (l := cueOrder ls), e, Option.getD_some, Int.toNat_natCast]
    have q := relax_in hok hp (ih (by omega)) (by omega) _ (Nat.le_refl _)
    have l := after_max hok hp
    have n := (cuesOk_has hok).1
    have c := clear_in hok hp q (by omega) i (by omega)
    exact inTo_more c (by omega)
end
end Go.Proofs.Ytbgogcobkiaejac
