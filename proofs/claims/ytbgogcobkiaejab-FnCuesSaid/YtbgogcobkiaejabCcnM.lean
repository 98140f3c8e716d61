/- CountOrders as mathematics: the ways to every set of cues that are over, and how many they can be. No condition. -/
import Derived.Test.YtbgogcobkiaejabCorM
namespace Go.Proofs.Ytbgogcobkiaejab
set_option linter.unusedVariables false
set_option linter.unusedSimpArgs false
open Go.RowKit

/-- All that follows from set S by one cue more, the first k cues looked at. -/
def cntK (W : List Nat) (S : Nat) (arr : List Nat) : Nat → List Nat
  | 0 => arr
  | k + 1 => if freeB W S k = true then (cntK W S arr k).set (S ||| 1 <<< k) ((cntK W S arr k).getD (S ||| 1 <<< k) 0 + (cntK W S arr k).getD S 0) else cntK W S arr k
def cntS (W : List Nat) (n : Nat) : Nat → List Nat
  | 0 => (List.replicate (1 <<< n) 0).set 0 1
  | S + 1 => cntK W S (cntS W n S) n
def countOrders (ls : List RCue) : Int := if cuesOk ls = true ∧ ls.length ≤ 10 then (((cntS (waitSet ls) ls.length (1 <<< ls.length)).getD (1 <<< ls.length - 1) 0 : Nat) : Int) else -1
theorem cntK_len (W : List Nat) (S : Nat) (arr : List Nat) : ∀ k, (cntK W S arr k).length = arr.length := by
  intro k
  induction k with
  | zero => rfl
  | succ k ih => unfold cntK; split <;> simp [ih]
theorem cntS_len (W : List Nat) (n : Nat) : ∀ S, (cntS W n S).length = 1 <<< n := by
  intro S
  induction S with
  | zero => simp [cntS]
  | succ S ih => rw [cntS, cntK_len, ih]
/-- From how many sets something has come to set t already. -/
def recvB (S K t k : Nat) : Bool := t.testBit k && (decide (t ^^^ 1 <<< k < S) || (decide (t ^^^ 1 <<< k = S) && decide (k < K)))
def recvTo (S K t : Nat) : Nat → Nat
  | 0 => 0
  | k + 1 => recvTo S K t k + (if recvB S K t k = true then 1 else 0)
theorem recv_le (S K t : Nat) : ∀ m, recvTo S K t m ≤ m := by
  intro m
  induction m with
  | zero => exact Nat.le_refl _
  | succ m ih => unfold recvTo; split <;> omega
theorem recv_up {S K S' K' t : Nat} : ∀ m, (∀ k, k < m → recvB S K t k = true → recvB S' K' t k = true) → recvTo S K t m ≤ recvTo S' K' t m := by
  intro m
  induction m with
  | zero => intro _; exact Nat.le_refl _
  | succ m ih =>
    intro h
    have h1 := ih fun k hk => h k (by omega)
    unfold recvTo
    by_cases c : recvB S K t m = true
    · rw [if_pos c, if_pos (h m (by omega) c)]; omega
    · rw [if_neg c]; omega
theorem recv_one {S K t k0 : Nat} : ∀ m, k0 < m → (∀ k, k < m → recvB S K t k = true → recvB S (K + 1) t k = true) → recvB S K t k0 = false → recvB S (K + 1) t k0 = true → recvTo S K t m + 1 ≤ recvTo S (K + 1) t m := by
  intro m
  induction m with
  | zero => intro h; omega
  | succ m ih =>
    intro hk h h0 h1
    unfold recvTo
    rcases (by omega : k0 < m ∨ k0 = m) with q | rfl
    · have h2 := ih q (fun k hk => h k (by omega)) h0 h1
      by_cases c : recvB S K t m = true
      · rw [if_pos c, if_pos (h m (by omega) c)]; omega
      · rw [if_neg c]; omega
    · have h2 := recv_up (S := S) (K := K) (S' := S) (K' := K + 1) (t := t) k0 fun k hk => h k (by omega)
      rw [if_neg (by rw [h0]; simp), if_pos h1]
      omega
theorem or_xor {S K : Nat} (h : S.testBit K = false) : (S ||| 1 <<< K) ^^^ 1 <<< K = S := Nat.eq_of_testBit_eq fun j => by
  rw [Nat.testBit_xor, Nat.testBit_or, bit_one]
  by_cases c : K = j
  · subst c; rw [h]; simp
  · rw [decide_eq_false c]; simp
theorem or_lt {S K n : Nat} (hS : S < 1 <<< n) (hK : K < n) : S ||| 1 <<< K < 1 <<< n := by
  have h1 : 1 <<< K < 2 ^ n := by rw [Nat.shiftLeft_eq, Nat.one_mul]; exact Nat.pow_lt_pow_right (by omega) hK
  have e : 1 <<< n = 2 ^ n := by rw [Nat.shiftLeft_eq, Nat.one_mul]
  rw [e] at hS ⊢
  exact Nat.or_lt_two_pow hS h1
/-- No entry grows too large. -/
def Small (n S K : Nat) (arr : List Nat) : Prop := ∀ t, t < 1 <<< n → arr.getD t 0 ≤ if t = 0 then 1 else recvTo S K t n * 10 ^ (cntB t n - 1)
theorem cnt_pos {n t : Nat} (ht : t < 1 <<< n) (h0 : t ≠ 0) : 1 ≤ cntB t n := by
  refine Classical.byContradiction fun c => h0 ?_
  have hz : ∀ m, cntB t m = 0 → ∀ j, j < m → t.testBit j = false := by
    intro m
    induction m with
    | zero => intro _ j hj; omega
    | succ m ih =>
      intro h j hj
      unfold cntB at h
      by_cases q : t.testBit m = true
      · rw [if_pos q] at h; omega
      · rw [if_neg q] at h
        rcases (by omega : j < m ∨ j = m) with r | rfl
        · exact ih (by omega) j r
        · simpa using q
  refine Nat.eq_of_testBit_eq fun j => ?_
  rw [Nat.zero_testBit]
  by_cases q : j < n
  · exact hz n (by omega) j q
  · rw [Nat.shiftLeft_eq, Nat.one_mul] at ht
    exact Nat.testBit_lt_two_pow (Nat.lt_of_lt_of_le ht (Nat.pow_le_pow_right (by omega) (by omega)))
theorem small_ten {n S K t : Nat} {arr : List Nat} (hn : n ≤ 10) (h : Small n S K arr) (ht : t < 1 <<< n) : arr.getD t 0 ≤ 10 ^ cntB t n := by
  have q := h t ht
  by_cases c : t = 0
  · rw [if_pos c] at q
    exact Nat.le_trans q (Nat.pow_pos (by omega))
  · rw [if_neg c] at q
    have h1 := recv_le S K t n
    have h2 := cnt_pos ht c
    have e : 10 ^ cntB t n = 10 * 10 ^ (cntB t n - 1) := by
      rw [Nat.mul_comm, ← Nat.pow_succ]
      congr 1
      omega
    rw [e]
    exact Nat.le_trans q (Nat.mul_le_mul_right _ (by omega))
theorem cnt_le (s : Nat) : ∀ n, cntB s n ≤ n := by
  intro n
  induction n with
  | zero => exact Nat.le_refl _
  | succ n ih => unfold cntB; split <;> omega
theorem small_max {n S K t : Nat} {arr : List Nat} (hn : n ≤ 10) (h : Small n S K arr) (ht : t < 1 <<< n) : arr.getD t 0 ≤ 10000000000 := by
  have h1 := small_ten hn h ht
  have h2 := cnt_le t n
  exact Nat.le_trans h1 (Nat.le_trans (Nat.pow_le_pow_right (by omega) (show cntB t n ≤ 10 by omega)) (by decide))
theorem small_next {n S K : Nat} {W arr : List Nat} (hn : n ≤ 10) (hl : arr.length = 1 <<< n) (hS : S < 1 <<< n) (hK : K < n) (h : Small n S K arr) :
    Small n S (K + 1) (if freeB W S K = true then arr.set (S ||| 1 <<< K) (arr.getD (S ||| 1 <<< K) 0 + arr.getD S 0) else arr) := by
  have up : ∀ t k, recvB S K t k = true → recvB S (K + 1) t k = true := fun t k hk => by
    unfold recvB at hk ⊢
    simp only [Bool.and_eq_true, Bool.or_eq_true, decide_eq_true_eq] at hk ⊢
    refine ⟨hk.1, ?_⟩
    rcases hk.2 with q | ⟨q1, q2⟩
    · exact .inl q
    · exact .inr ⟨q1, by omega⟩
  have mono : ∀ t, recvTo S K t n ≤ recvTo S (K + 1) t n := fun t => recv_up n fun k _ hk => up t k hk
  split
  · next c =>
    have hf : S.testBit K = false := by
      unfold freeB at c
      simp only [Bool.and_eq_true, Bool.not_eq_true'] at c
      exact c.1
    intro t ht
    by_cases e : t = S ||| 1 <<< K
    · subst e
      have hT := or_lt hS hK
      have b : (S ||| 1 <<< K).testBit K = true := by rw [Nat.testBit_or, bit_one]; simp
      have hne : S ||| 1 <<< K ≠ 0 := fun z => by rw [z] at b; simp at b
      rw [List.getD_eq_getElem?_getD, List.getElem?_set_self (by rw [hl]; exact hT), if_neg hne]
      show arr.getD (S ||| 1 <<< K) 0 + arr.getD S 0 ≤ _
      have h1 := h _ hT
      rw [if_neg hne] at h1
      have h2 := small_ten hn h hS
      have hc : cntB (S ||| 1 <<< K) n - 1 = cntB S n := by rw [cnt_or S K hf n, if_pos hK]; rfl
      rw [hc] at h1 ⊢
      have h3 := recv_one (S := S) (K := K) (t := S ||| 1 <<< K) (k0 := K) n hK (fun k _ hk => up _ k hk) (by unfold recvB; rw [or_xor hf, b]; simp) (by unfold recvB; rw [or_xor hf, b]; simp)
      have h4 : (recvTo S K (S ||| 1 <<< K) n + 1) * 10 ^ cntB S n ≤ recvTo S (K + 1) (S ||| 1 <<< K) n * 10 ^ cntB S n := Nat.mul_le_mul_right _ h3
      rw [Nat.add_mul, Nat.one_mul] at h4
      omega
    · rw [List.getD_eq_getElem?_getD, List.getElem?_set_ne (fun q => e q.symm), ← List.getD_eq_getElem?_getD]
      refine Nat.le_trans (h t ht) ?_
      split
      · exact Nat.le_refl _
      · exact Nat.mul_le_mul_right _ (mono t)
  · intro t ht
    refine Nat.le_trans (h t ht) ?_
    split
    · exact Nat.le_refl _
    · exact Nat.mul_le_mul_right _ (mono t)
theorem small_row {n S : Nat} {arr : List Nat} (h : Small n S n arr) : Small n (S + 1) 0 arr := fun t ht => by
  refine Nat.le_trans (h t ht) ?_
  split
  · exact Nat.le_refl _
  · refine Nat.mul_le_mul_right _ (recv_up n fun k _ hk => ?_)
    unfold recvB at hk ⊢
    simp only [Bool.and_eq_true, Bool.or_eq_true, decide_eq_true_eq] at hk ⊢
    exact ⟨hk.1, .inl (by rcases hk.2 with q | ⟨q, _⟩ <;> omega)⟩
theorem cnt_small (W : List Nat) {n : Nat} (hn : n ≤ 10) : ∀ S, S ≤ 1 <<< n → Small n S 0 (cntS W n S) ∧ (S < 1 <<< n → ∀ K, K ≤ n → Small n S K (cntK W S (cntS W n S) K)) := by
  have row : ∀ S, S < 1 <<< n → Small n S 0 (cntS W n S) → ∀ K, K ≤ n → Small n S K (cntK W S (cntS W n S) K) := by
    intro S hS h K
    induction K with
    | zero => intro _; exact h
    | succ K ih =>
      intro hK
      exact small_next (W := W) hn (by rw [cntK_len, cntS_len]) hS (by omega) (ih (by omega))
  intro S
  induction S with
  | zero =>
    intro _
    have h : Small n 0 0 (cntS W n 0) := fun t ht => by
      unfold cntS
      by_cases c : t = 0
      · subst c
        rw [if_pos rfl, List.getD_eq_getElem?_getD, List.getElem?_set_self (by rw [List.length_replicate]; exact ht)]
        exact Nat.le_refl _
      · rw [List.getD_eq_getElem?_getD, List.getElem?_set_ne (fun q => c q.symm), List.getElem?_replicate]
        split <;> simp
    exact ⟨h, fun hS => row 0 hS h⟩
  | succ S ih =>
    intro hS
    obtain ⟨_, h2⟩ := ih (by omega)
    have h : Small n (S + 1) 0 (cntS W n (S + 1)) := small_row (h2 (by omega) n (Nat.le_refl _))
    exact ⟨h, fun hS => row _ hS h⟩
end Go.Proofs.Ytbgogcobkiaejab
