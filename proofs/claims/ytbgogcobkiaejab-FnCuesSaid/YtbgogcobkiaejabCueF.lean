/- What holds of cues that each name earlier ones only, as mathematics: FnCues' tests. No condition. -/
import Derived.Test.YtbgogcobkiaejabLstU
import Derived.Test.YtbgogcobkiaejabCcnM
namespace Go.Proofs.Ytbgogcobkiaejab
set_option linter.unusedVariables false
set_option linter.unusedSimpArgs false
open Go.RowKit

theorem Way.down {E : Nat → Nat → Prop} {M i k : Nat} (he : ∀ i k, E i k → k < i) (h : Way E M i k) : k < i := by
  induction h with
  | one h => exact he _ _ h
  | cons h _ _ ih => have := he _ _ h; omega
theorem good_names {ls : List RCue} (h : GoodTo ls) : ∀ i k, Names ls i k → k < i := by
  rintro i k ⟨_, hi, j, hj, e⟩
  have := asc_get (h i hi).2.1 hj
  omega
theorem circ_none {ls : List RCue} (h : ∀ k, k < ls.length → ((waitSet ls).getD k 0).testBit k = false) : ∀ n, n ≤ ls.length → circTo ls n = [] := by
  intro n
  induction n with
  | zero => intro _; rfl
  | succ n ih =>
    intro hn
    unfold circTo
    rw [h n (by omega), if_neg (by simp)]
    exact ih (by omega)
theorem good_ok {ls : List RCue} (h : GoodTo ls) (hl : 1 ≤ ls.length ∧ ls.length ≤ 7) : cuesOk ls = true := by
  have hn : inB (ls.length : Int) 1 12 = true := by simp [inB]; omega
  rw [cuesOk_all hn (fun k hk => ?_)]
  · have hc : circleIn ls = [] := by
      unfold circleIn
      rw [if_pos (by omega)]
      refine circ_none (fun k hk => ?_) _ (Nat.le_refl _)
      cases c : ((waitSet ls).getD k 0).testBit k with
      | false => rfl
      | true =>
        have := Way.down (good_names h) ((wait_bit ls hk).1 c)
        omega
    rw [hc]
    rfl
  · obtain ⟨⟨a, b⟩, c, d⟩ := h k hk
    unfold cueFine
    rw [asc_rising c (show (k : Int) ≤ (ls.length : Int) - 1 + 1 by omega), asc_rising d (show (5 : Int) ≤ 6 + 1 by omega)]
    have e : inB ls[k].f0 1 50 = true := by simp [inB]; omega
    rw [e]
    rfl
/-- Which cue comes at place m, and what is over by then. -/
def pk (ls : List RCue) (m : Nat) : Nat := (nextTo (waitSet ls) (ordTo (waitSet ls) ls.length m).2 ls.length).toNat
def overAt (ls : List RCue) (m : Nat) : Nat := (ordTo (waitSet ls) ls.length m).2
theorem over_next (ls : List RCue) (m : Nat) : overAt ls (m + 1) = overAt ls m ||| 1 <<< pk ls m := rfl
section
variable {ls : List RCue} (hok : cuesOk ls = true)
include hok
theorem pk_free {m : Nat} (hm : m < ls.length) : pk ls m < ls.length ∧ nextTo (waitSet ls) (overAt ls m) ls.length = (pk ls m : Int) ∧ freeB (waitSet ls) (overAt ls m) (pk ls m) = true := by
  obtain ⟨k, h1, h2, h3⟩ := (ord_at hok m (by omega)).2 hm
  have e : pk ls m = k := by unfold pk; rw [h2, Int.toNat_natCast]
  rw [e]
  exact ⟨h1, h2, h3⟩
theorem ord_list : ∀ m, m ≤ ls.length → (ordTo (waitSet ls) ls.length m).1 = (List.range m).map fun j => (pk ls j : Int) := by
  intro m
  induction m with
  | zero => intro _; rfl
  | succ m ih =>
    intro hm
    rw [ordTo, ih (by omega), List.range_succ, List.map_append]
    congr 1
    have := (pk_free hok (m := m) (by omega)).2.1
    unfold overAt at this
    rw [this]
    rfl
theorem order_at {m : Nat} (hm : m < ls.length) : (cueOrder ls)[m]? = some (pk ls m : Int) := by
  unfold cueOrder
  rw [if_pos hok, ord_list hok _ (Nat.le_refl _)]
  simp [hm]
theorem order_len : (cueOrder ls).length = ls.length := by
  unfold cueOrder
  rw [if_pos hok, ord_len]
theorem over_mem {m : Nat} (hm : m ≤ ls.length) (j : Nat) : (overAt ls m).testBit j = true ↔ ∃ q, q < m ∧ pk ls q = j := by
  unfold overAt
  rw [(ord_at hok m hm).1.mem, ord_list hok m hm, List.mem_map]
  constructor
  · rintro ⟨q, h1, h2⟩
    exact ⟨q, List.mem_range.1 h1, by omega⟩
  · rintro ⟨q, h1, h2⟩
    exact ⟨q, List.mem_range.2 h1, by omega⟩
theorem pk_new {q m : Nat} (hm : m < ls.length) (hq : q < m) : pk ls q ≠ pk ls m := fun e => by
  have h1 := (over_mem hok (m := m) (by omega) (pk ls m)).2 ⟨q, hq, e⟩
  have h2 := (pk_free hok hm).2.2
  unfold freeB at h2
  rw [h1] at h2
  cases h2
theorem pk_inj {q m : Nat} (hq : q < ls.length) (hm : m < ls.length) (e : pk ls q = pk ls m) : q = m := by
  rcases Nat.lt_trichotomy q m with h | h | h
  · exact absurd e (pk_new hok hm h)
  · exact h
  · exact absurd e.symm (pk_new hok hq h)
omit hok in
theorem cnt_lt {s i : Nat} (h : s.testBit i = false) : ∀ n, i < n → cntB s n < n := by
  intro n
  induction n with
  | zero => intro h; omega
  | succ n ih =>
    intro hi
    have := cnt_le s n
    unfold cntB
    rcases (by omega : i < n ∨ i = n) with q | rfl
    · have := ih q
      split <;> omega
    · rw [h, if_neg (by simp)]
      omega
theorem over_all {i : Nat} (hi : i < ls.length) : (overAt ls ls.length).testBit i = true := by
  cases c : (overAt ls ls.length).testBit i with
  | true => rfl
  | false =>
    have := cnt_lt c ls.length hi
    have h : cntB (overAt ls ls.length) ls.length = ls.length := (ord_at hok _ (Nat.le_refl _)).1.cnt
    omega
theorem pk_all {i : Nat} (hi : i < ls.length) : ∃ m, m < ls.length ∧ pk ls m = i := (over_mem hok (Nat.le_refl _) i).1 (over_all hok hi)
theorem over_low {m j : Nat} (hm : m ≤ ls.length) (h : (overAt ls m).testBit j = true) : j < ls.length := (ord_at hok m hm).1.low j h
theorem over_full : overAt ls ls.length = 2 ^ ls.length - 1 := Nat.eq_of_testBit_eq fun j => by
  rw [Nat.testBit_two_pow_sub_one]
  by_cases c : j < ls.length
  · rw [over_all hok c, decide_eq_true c]
  · rw [decide_eq_false c]
    cases q : (overAt ls ls.length).testBit j with
    | false => rfl
    | true => exact absurd (over_low hok (Nat.le_refl _) q) c
theorem over_lt {m : Nat} (hm : m ≤ ls.length) : overAt ls m < 2 ^ ls.length := small_of fun _ h => over_low hok hm h
/-- The places, as the law sets them down. -/
def placeTo (ls : List RCue) : Nat → List Nat
  | 0 => List.replicate ls.length 0
  | k + 1 => (placeTo ls k).set (pk ls k) k
omit hok in
theorem place_len (k : Nat) : (placeTo ls k).length = ls.length := by
  induction k with
  | zero => simp [placeTo]
  | succ k ih => rw [placeTo, List.length_set, ih]
theorem place_at : ∀ k, k ≤ ls.length → ∀ m, m < k → (placeTo ls k).getD (pk ls m) 0 = m := by
  intro k
  induction k with
  | zero => intro _ m hm; omega
  | succ k ih =>
    intro hk m hm
    have hp := (pk_free hok (m := k) (by omega)).1
    rw [placeTo, List.getD_eq_getElem?_getD]
    rcases (by omega : m < k ∨ m = k) with q | rfl
    · rw [List.getElem?_set_ne (pk_new hok (by omega) q).symm, ← List.getD_eq_getElem?_getD]
      exact ih (by omega) m q
    · rw [List.getElem?_set_self (by rw [place_len]; exact hp)]
      rfl
theorem place_lt {i : Nat} (hi : i < ls.length) : (placeTo ls ls.length).getD i 0 < ls.length := by
  obtain ⟨m, hm, rfl⟩ := pk_all hok hi
  rw [place_at hok _ (Nat.le_refl _) m hm]
  exact hm
theorem waits_bit {i k : Nat} (hi : i < ls.length) (hk : k < ls.length) : waitsFor ls (i : Int) (k : Int) = ((waitSet ls).getD i 0).testBit k := by
  unfold waitsFor
  have e1 : inB (i : Int) 0 ((ls.length : Int) - 1) = true := by simp [inB]; omega
  have e2 : inB (k : Int) 0 ((ls.length : Int) - 1) = true := by simp [inB]; omega
  rw [hok, e1, e2]
  simp
theorem waits_place {i k : Nat} (hi : i < ls.length) (hk : k < ls.length) (h : waitsFor ls (i : Int) (k : Int) = true) :
    (placeTo ls ls.length).getD k 0 < (placeTo ls ls.length).getD i 0 ∧ waitsFor ls (k : Int) (i : Int) = false := by
  obtain ⟨hn, _, hc⟩ := cuesOk_has hok
  have hcc : circTo ls ls.length = [] := by unfold circleIn at hc; rwa [if_pos hn.2] at hc
  rw [waits_bit hok hi hk] at h
  rw [waits_bit hok hk hi]
  constructor
  · obtain ⟨m, hm, rfl⟩ := pk_all hok hi
    have hf := (pk_free hok hm).2.2
    unfold freeB at hf
    simp only [Bool.and_eq_true, decide_eq_true_eq] at hf
    have hb : (overAt ls m).testBit k = true := by
      rw [← hf.2, Nat.testBit_or, h]
      rfl
    obtain ⟨q, hq, rfl⟩ := (over_mem hok (by omega) k).1 hb
    rw [place_at hok _ (Nat.le_refl _) q (by omega), place_at hok _ (Nat.le_refl _) m hm]
    exact hq
  · cases c : ((waitSet ls).getD k 0).testBit i with
    | false => rfl
    | true =>
      have t := (wait_bit ls hi).2 (((wait_bit ls hi).1 h).trans hk ((wait_bit ls hk).1 c))
      rw [no_circle _ hcc i hi] at t
      cases t
theorem waits_after {i j : Nat} (hi : i < ls.length) (hj : j < ls[i].f1.length) : waitsFor ls (i : Int) (ls[i].f1[j]) = true := by
  obtain ⟨_, hf, _⟩ := cuesOk_has hok
  have h1 := hf i hi
  unfold cueFine at h1
  simp only [Bool.and_eq_true] at h1
  have h2 := (rise_iff _ _ _).1 h1.2.1 j hj
  unfold riseAt at h2
  simp only [Bool.and_eq_true] at h2
  have e : ls[i].f1.getD j 0 = ls[i].f1[j] := by rw [List.getD_eq_getElem?_getD, List.getElem?_eq_getElem hj]; rfl
  rw [e] at h2
  have h3 : 0 ≤ ls[i].f1[j] ∧ ls[i].f1[j] ≤ (ls.length : Int) - 1 := by simpa [inB] using h2.1
  obtain ⟨k, hk⟩ := Int.eq_ofNat_of_zero_le h3.1
  have hkl : k < ls.length := by omega
  rw [hk, waits_bit hok hi hkl, wait_bit ls hi]
  exact .one ⟨hkl, hi, j, hj, by rw [e, hk]⟩
omit hok in
theorem free_mem : ∀ n, n ≤ ls.length → ∀ i : Nat, (i : Int) ∈ freeTo ls n ↔ i < n ∧ (ls.getD i RCue.zero).f1.length = 0 := by
  intro n
  induction n with
  | zero => intro _ i; simp [freeTo]
  | succ n ih =>
    intro hn i
    unfold freeTo
    split
    · next c =>
      rw [List.mem_append, List.mem_singleton, ih (by omega)]
      constructor
      · rintro (⟨h1, h2⟩ | h)
        · exact ⟨by omega, h2⟩
        · have e : i = n := by omega
          exact ⟨by omega, by rw [e]; exact c⟩
      · rintro ⟨h1, h2⟩
        rcases (by omega : i < n ∨ i = n) with q | q
        · exact .inl ⟨q, h2⟩
        · exact .inr (by omega)
    · next c =>
      rw [ih (by omega)]
      exact ⟨fun ⟨h1, h2⟩ => ⟨by omega, h2⟩, fun ⟨h1, h2⟩ => ⟨by
        rcases (by omega : i < n ∨ i = n) with q | rfl
        · exact q
        · exact absurd h2 c, h2⟩⟩
theorem free_has {i : Nat} (hi : i < ls.length) : (i : Int) ∈ freeCues ls ↔ ls[i].f1.length = 0 := by
  unfold freeCues
  rw [if_pos hok, free_mem _ (Nat.le_refl _), List.getD_eq_getElem?_getD, List.getElem?_eq_getElem hi]
  exact ⟨fun h => h.2, fun h => ⟨hi, h⟩⟩
end
theorem free_some {ls : List RCue} (h : GoodTo ls) (hl : 1 ≤ ls.length ∧ ls.length ≤ 7) : 1 ≤ (freeCues ls).length := by
  have h0 := asc_len (h 0 (by omega)).2.1
  have m := (free_has (good_ok h hl) (i := 0) (by omega)).2 (by omega)
  exact List.length_pos_of_mem m
/-- A step of the count makes no entry less. -/
theorem cntK_up (W : List Nat) (S : Nat) (arr : List Nat) (t : Nat) : ∀ k k', k ≤ k' → (cntK W S arr k).getD t 0 ≤ (cntK W S arr k').getD t 0 := by
  have one : ∀ k, (cntK W S arr k).getD t 0 ≤ (cntK W S arr (k + 1)).getD t 0 := fun k => by
    rw [cntK]
    split
    · by_cases c : S ||| 1 <<< k = t
      · subst c
        by_cases q : (S ||| 1 <<< k) < (cntK W S arr k).length
        · rw [List.getD_eq_getElem?_getD (l := List.set _ _ _), List.getElem?_set_self q]
          exact Nat.le_add_right _ _
        · rw [List.set_eq_of_length_le (by omega)]
          exact Nat.le_refl _
      · rw [List.getD_eq_getElem?_getD (l := List.set _ _ _), List.getElem?_set_ne c, ← List.getD_eq_getElem?_getD]
        exact Nat.le_refl _
    · exact Nat.le_refl _
  intro k k' h
  induction k' with
  | zero => rw [Nat.le_zero.1 h]; exact Nat.le_refl _
  | succ k' ih =>
    rcases (by omega : k ≤ k' ∨ k = k' + 1) with q | rfl
    · exact Nat.le_trans (ih q) (one k')
    · exact Nat.le_refl _
theorem cntS_up (W : List Nat) (n t : Nat) : ∀ S S', S ≤ S' → (cntS W n S).getD t 0 ≤ (cntS W n S').getD t 0 := by
  intro S S' h
  induction S' with
  | zero => rw [Nat.le_zero.1 h]; exact Nat.le_refl _
  | succ S' ih =>
    rcases (by omega : S ≤ S' ∨ S = S' + 1) with q | rfl
    · exact Nat.le_trans (ih q) (cntK_up W S' (cntS W n S') t 0 n (by omega))
    · exact Nat.le_refl _
theorem count_over {ls : List RCue} (hok : cuesOk ls = true) : ∀ m, m ≤ ls.length → 1 ≤ (cntS (waitSet ls) ls.length (overAt ls m)).getD (overAt ls m) 0 := by
  intro m
  induction m with
  | zero =>
    intro _
    show 1 ≤ (cntS (waitSet ls) ls.length 0).getD 0 0
    rw [cntS, List.getD_eq_getElem?_getD, List.getElem?_set_self (by rw [List.length_replicate, Nat.shiftLeft_eq, Nat.one_mul]; exact Nat.pow_pos (by omega))]
    exact Nat.le_refl _
  | succ m ih =>
    intro hm
    have h := ih (by omega)
    obtain ⟨hp, _, hf⟩ := pk_free hok (m := m) (by omega)
    have hd : (overAt ls m).testBit (pk ls m) = false := by
      unfold freeB at hf
      simp only [Bool.and_eq_true, Bool.not_eq_true'] at hf
      exact hf.1
    have hlt : overAt ls m < overAt ls m ||| 1 <<< pk ls m := by
      refine Nat.lt_of_le_of_ne Nat.left_le_or fun e => ?_
      have q : (overAt ls m ||| 1 <<< pk ls m).testBit (pk ls m) = true := by rw [Nat.testBit_or, bit_one]; simp
      rw [← e, hd] at q
      cases q
    rw [over_next]
    refine Nat.le_trans ?_ (cntS_up _ _ _ (overAt ls m + 1) _ hlt)
    rw [cntS]
    refine Nat.le_trans ?_ (cntK_up _ _ _ _ (pk ls m + 1) ls.length hp)
    rw [cntK, if_pos hf, List.getD_eq_getElem?_getD (l := List.set _ _ _), List.getElem?_set_self (by
      rw [cntK_len, cntS_len]
      exact or_lt (by rw [Nat.shiftLeft_eq, Nat.one_mul]; exact over_lt hok (by omega)) hp)]
    refine Nat.le_trans (Nat.le_trans h (cntK_up _ _ _ _ 0 (pk ls m) (by omega))) (Nat.le_add_left _ _)
theorem count_some {ls : List RCue} (hok : cuesOk ls = true) (hl : ls.length ≤ 10) : 1 ≤ countOrders ls := by
  unfold countOrders
  rw [if_pos ⟨hok, hl⟩]
  have h := count_over hok ls.length (Nat.le_refl _)
  have e : overAt ls ls.length = 1 <<< ls.length - 1 := by rw [over_full hok, Nat.shiftLeft_eq, Nat.one_mul]
  rw [e] at h
  have h2 := cntS_up (waitSet ls) ls.length (1 <<< ls.length - 1) (1 <<< ls.length - 1) (1 <<< ls.length) (Nat.sub_le _ _)
  omega
def loopCues : List RCue := [⟨1, [1], []⟩, ⟨1, [0], []⟩]
theorem loop_circle : circleIn loopCues = [0, 1] := by decide
theorem loop_bad : cuesOk loopCues = false := by decide
theorem good_bulk {ls : List RCue} (h : GoodTo ls) (hl : ls.length ≤ 7) : bulkCue ls ≤ 100 := by
  have p : ∀ k, k ≤ ls.length → bulkC ls k ≤ 7 + k * 12 := by
    intro k
    induction k with
    | zero => intro _; rw [bulkC]; omega
    | succ k ih =>
      intro hk
      have a := ih (by omega)
      obtain ⟨_, b, c⟩ := h k (by omega)
      have b := asc_len b
      have c := asc_len (m := 5) c
      rw [bulkC_more (by omega)]
      unfold szC
      omega
  have := p ls.length (Nat.le_refl _)
  unfold bulkCue
  omega
end Go.Proofs.Ytbgogcobkiaejab
