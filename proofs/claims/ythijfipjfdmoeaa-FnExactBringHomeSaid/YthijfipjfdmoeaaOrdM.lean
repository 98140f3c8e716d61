/- Orders as plain mathematics: when a row of numbers is an order, exchanges of neighbours, inversions, the exchanges that sort, places. -/
import Derived.Test.YthijfipjfdmoeaaIn
import Derived.Test.YthijfipjfdmoeaaRowB
namespace Go.Proofs.Ythijfipjfdmoeaa
set_option linter.unusedVariables false
set_option linter.unusedSimpArgs false

/-- The first i numbers that are greater than x. -/
def above (f : Nat → Int) (x : Int) : Nat → Nat
  | 0 => 0
  | i + 1 => above f x i + if x < f i then 1 else 0
/-- The inversions among the first k numbers. -/
def invF (f : Nat → Int) : Nat → Nat
  | 0 => 0
  | k + 1 => invF f k + above f (f k) k
/-- The two at k and behind it exchanged. -/
def swF (f : Nat → Int) (k i : Nat) : Int := if i = k then f (k + 1) else if i = k + 1 then f k else f i
section
variable {f g : Nat → Int} {x : Int} {k n : Nat}
theorem above_congr {i : Nat} (h : ∀ j, j < i → f j = g j) : above f x i = above g x i := by
  induction i with
  | zero => rfl
  | succ i ih => rw [above, above, ih (fun j hj => h j (by omega)), h i (by omega)]
theorem above_le (f : Nat → Int) (x : Int) (i : Nat) : above f x i ≤ i := by
  induction i with
  | zero => exact Nat.le_refl _
  | succ i ih => rw [above]; split <;> omega
theorem invF_congr (h : ∀ j, j < n → f j = g j) : invF f n = invF g n := by
  induction n with
  | zero => rfl
  | succ n ih => rw [invF, invF, ih (fun j hj => h j (by omega)), h n (by omega), above_congr (fun j hj => h j (by omega))]
theorem swF_low {i : Nat} (h : i < k) : swF f k i = f i := by unfold swF; rw [if_neg (by omega), if_neg (by omega)]
theorem swF_at : swF f k k = f (k + 1) := by unfold swF; rw [if_pos rfl]
theorem swF_next : swF f k (k + 1) = f k := by unfold swF; rw [if_neg (by omega), if_pos rfl]
theorem swF_high {i : Nat} (h : k + 1 < i) : swF f k i = f i := by unfold swF; rw [if_neg (by omega), if_neg (by omega)]
theorem above_sw {i : Nat} (h : k + 1 < i) : above (swF f k) x i = above f x i := by
  induction i with
  | zero => omega
  | succ i ih =>
    rcases Nat.lt_or_ge (k + 1) i with c | c
    · rw [above, above, ih c, swF_high c]
    · obtain rfl : i = k + 1 := by omega
      rw [above, above, above, above, swF_at, swF_next, above_congr (f := swF f k) (g := f) (fun j hj => swF_low hj)]
      omega
/-- What an exchange of neighbours does to the inversions. -/
theorem inv_sw (h : k + 1 < n) : (invF (swF f k) n : Int) = invF f n + (if f k < f (k + 1) then 1 else 0) - (if f (k + 1) < f k then 1 else 0) := by
  induction n with
  | zero => omega
  | succ n ih =>
    rcases Nat.lt_or_ge (k + 1) n with c | c
    · have := ih c
      rw [invF, invF, swF_high c, above_sw c]
      omega
    · obtain rfl : n = k + 1 := by omega
      rw [invF, invF, invF, invF, swF_at, swF_next, above, above, swF_at, invF_congr (f := swF f k) (g := f) (fun j hj => swF_low hj), above_congr (f := swF f k) (g := f) (fun j hj => swF_low hj), above_congr (x := f k) (f := swF f k) (g := f) (fun j hj => swF_low hj)]
      push_cast
      split <;> split <;> omega
theorem above_zero {i : Nat} (h : above f x i = 0) : ∀ j, j < i → f j ≤ x := by
  induction i with
  | zero => exact fun j hj => absurd hj (by omega)
  | succ i ih =>
    rw [above] at h
    intro j hj
    rcases Nat.lt_or_ge j i with c | c
    · exact ih (by omega) j c
    · obtain rfl : j = i := by omega
      by_cases hx : x < f j
      · rw [if_pos hx] at h; omega
      · omega
theorem inv_zero (h : invF f n = 0) : ∀ i j, i < j → j < n → f i ≤ f j := by
  induction n with
  | zero => exact fun i j _ hj => absurd hj (by omega)
  | succ n ih =>
    rw [invF] at h
    intro i j hij hj
    rcases Nat.lt_or_ge j n with c | c
    · exact ih (by omega) i j hij c
    · obtain rfl : j = n := by omega
      exact above_zero (by omega) i hij
theorem inv_none (h : ∀ i, i + 1 < n → f i ≤ f (i + 1)) : invF f n = 0 := by
  have mono : ∀ d i, i + d < n → f i ≤ f (i + d) := by
    intro d
    induction d with
    | zero => exact fun i _ => Int.le_refl _
    | succ d ih =>
      intro i hi
      have h1 := ih i (by omega)
      have h2 := h (i + d) (by omega)
      exact Int.le_trans h1 h2
  have az : ∀ (x : Int) i, (∀ j, j < i → f j ≤ x) → above f x i = 0 := by
    intro x i
    induction i with
    | zero => exact fun _ => rfl
    | succ i ih =>
      intro hh
      rw [above, ih (fun j hj => hh j (by omega)), if_neg (by have := hh i (by omega); omega)]
  clear h
  induction n with
  | zero => rfl
  | succ n ih =>
    rw [invF, ih (fun d i hi => mono d i (by omega)), az _ _ (fun j hj => by
      have := mono (n - j) j (by omega)
      rwa [show j + (n - j) = n by omega] at this)]
theorem inv_le (f : Nat → Int) (n : Nat) : invF f n ≤ n * n := by
  induction n with
  | zero => exact Nat.le_refl _
  | succ n ih =>
    rw [invF]
    have := above_le f (f n) n
    have e : (n + 1) * (n + 1) = n * n + n + n + 1 := by rw [Nat.succ_mul, Nat.mul_succ]; omega
    omega
end

def atI (zs : List Int) (k : Nat) : Int := zs.getD k 0
theorem atI_of {zs : List Int} {k : Nat} (h : k < zs.length) : atI zs k = zs[k] := by
  unfold atI
  rw [List.getD_eq_getElem?_getD, List.getElem?_eq_getElem h]
  rfl
/-- Is none of the first k numbers x? -/
def noneIs (zs : List Int) (x : Int) (k : Nat) : Bool := (zs.take k).all fun y => decide (y ≠ x)
theorem noneIs_more {zs : List Int} {x : Int} {k : Nat} (h : k < zs.length) : noneIs zs x (k + 1) = (noneIs zs x k && decide (zs[k] ≠ x)) := by
  unfold noneIs
  rw [List.take_succ_eq_append_getElem h, List.all_append]
  simp
theorem noneIs_at {zs : List Int} {x : Int} {k : Nat} (h : noneIs zs x k = true) {i : Nat} (hi : i < k) (hn : i < zs.length) : zs[i] ≠ x := by
  unfold noneIs at h
  have := List.all_eq_true.1 h zs[i] (by rw [List.mem_take_iff_getElem]; exact ⟨i, by omega, rfl⟩)
  simpa using this
theorem noneIs_of {zs : List Int} {x : Int} {k : Nat} (hk : k ≤ zs.length) (h : ∀ i (hi : i < k), zs[i] ≠ x) : noneIs zs x k = true := by
  induction k with
  | zero => rfl
  | succ k ih =>
    rw [noneIs_more (by omega), ih (by omega) (fun i hi => h i (by omega))]
    simpa using h k (by omega)
/-- Number k is in its range and stands at no earlier place. -/
def ordAt (zs : List Int) (k : Nat) : Bool := inB (atI zs k) 0 ((zs.length : Int) - 1) && noneIs zs (atI zs k) k
def ordTo (zs : List Int) : Nat → Bool
  | 0 => true
  | k + 1 => ordTo zs k && ordAt zs k
/-- What OrderOk answers. -/
def orderOk (zs : List Int) : Bool := ordTo zs zs.length && inB zs.length 1 7
section
variable {zs : List Int} {k n : Nat}
theorem ordTo_le (h : k ≤ n) (hf : ordTo zs k = false) : ordTo zs n = false := by
  induction n with
  | zero => rwa [Nat.le_zero.1 h] at hf
  | succ n ih =>
    rcases Nat.lt_or_ge k (n + 1) with c | c
    · rw [ordTo, ih (by omega)]; rfl
    · rwa [show k = n + 1 by omega] at hf
theorem order_no (h : k < zs.length) (hf : ordAt zs k = false) : orderOk zs = false := by
  unfold orderOk
  rw [ordTo_le (k := k + 1) h (by rw [ordTo, hf, Bool.and_false])]
  rfl
theorem ordTo_iff (n : Nat) : ordTo zs n = true ↔ ∀ k, k < n → ordAt zs k = true := by
  induction n with
  | zero => exact ⟨fun _ k hk => absurd hk (by omega), fun _ => rfl⟩
  | succ n ih =>
    rw [ordTo, Bool.and_eq_true, ih]
    refine ⟨fun ⟨h1, h2⟩ k hk => ?_, fun h => ⟨fun k hk => h k (by omega), h n (by omega)⟩⟩
    rcases Nat.lt_or_ge k n with c | c
    · exact h1 k c
    · rwa [show k = n by omega]
/-- An order: its length, its numbers' range, no two of them the same. -/
structure IsOrd (zs : List Int) : Prop where
  len : 1 ≤ zs.length ∧ zs.length ≤ 7
  rng : ∀ k (h : k < zs.length), 0 ≤ zs[k] ∧ zs[k] ≤ (zs.length : Int) - 1
  one : ∀ i j (hi : i < zs.length) (hj : j < zs.length), i ≠ j → zs[i] ≠ zs[j]
theorem order_iff : orderOk zs = true ↔ IsOrd zs := by
  unfold orderOk
  rw [Bool.and_eq_true, ordTo_iff]
  constructor
  · rintro ⟨h1, h2⟩
    have hl : 1 ≤ zs.length ∧ zs.length ≤ 7 := by have : (1 : Int) ≤ zs.length ∧ (zs.length : Int) ≤ 7 := by simpa [inB] using h2
                                                  omega
    have key : ∀ i j (hi : i < zs.length) (hj : j < zs.length), i < j → zs[i] ≠ zs[j] := by
      intro i j hi hj hij
      have := h1 j hj
      unfold ordAt at this
      rw [Bool.and_eq_true, atI_of hj] at this
      exact noneIs_at this.2 hij hi
    refine ⟨hl, fun k hk => ?_, fun i j hi hj hij => ?_⟩
    · have := h1 k hk
      unfold ordAt at this
      rw [Bool.and_eq_true, atI_of hk] at this
      simpa [inB] using this.1
    · rcases Nat.lt_or_gt_of_ne hij with c | c
      · exact key i j hi hj c
      · exact fun e => key j i hj hi c e.symm
  · intro h
    refine ⟨fun k hk => ?_, ?_⟩
    · unfold ordAt
      rw [Bool.and_eq_true, atI_of hk]
      refine ⟨by simpa [inB] using h.rng k hk, noneIs_of (by omega) fun i hi => h.one i k (by omega) hk (by omega)⟩
    · have := h.len
      simp [inB]
      omega
/-- The exchange at place k. -/
def swapL (zs : List Int) (k : Nat) : List Int := (zs.set k (atI zs (k + 1))).set (k + 1) (atI zs k)
theorem swap_len (zs : List Int) (k : Nat) : (swapL zs k).length = zs.length := by simp [swapL]
theorem swap_at (h : k + 1 < zs.length) (i : Nat) : atI (swapL zs k) i = swF (atI zs) k i := by
  unfold swapL swF
  rcases Nat.lt_or_ge i zs.length with c | c
  · rw [atI_of (by simpa using c), List.getElem_set]
    by_cases h1 : k + 1 = i
    · rw [if_pos h1, if_neg (by omega), if_pos h1.symm]
    · rw [if_neg h1, List.getElem_set]
      by_cases h2 : k = i
      · rw [if_pos h2, if_pos h2.symm]
      · rw [if_neg h2, if_neg (by omega), if_neg (by omega), atI_of c]
  · rw [if_neg (by omega), if_neg (by omega)]
    unfold atI
    rw [List.getD_eq_getElem?_getD, List.getElem?_eq_none (by simpa using c), List.getD_eq_getElem?_getD, List.getElem?_eq_none c]
theorem ord_at (h : IsOrd zs) : (∀ k, k < zs.length → 0 ≤ atI zs k ∧ atI zs k ≤ (zs.length : Int) - 1) ∧ ∀ i j, i < zs.length → j < zs.length → i ≠ j → atI zs i ≠ atI zs j :=
  ⟨fun k hk => by rw [atI_of hk]; exact h.rng k hk, fun i j hi hj hij => by rw [atI_of hi, atI_of hj]; exact h.one i j hi hj hij⟩
theorem ord_of (hl : 1 ≤ zs.length ∧ zs.length ≤ 7) (h1 : ∀ k, k < zs.length → 0 ≤ atI zs k ∧ atI zs k ≤ (zs.length : Int) - 1) (h2 : ∀ i j, i < zs.length → j < zs.length → i ≠ j → atI zs i ≠ atI zs j) : IsOrd zs :=
  ⟨hl, fun k hk => by have := h1 k hk; rwa [atI_of hk] at this, fun i j hi hj hij => by have := h2 i j hi hj hij; rwa [atI_of hi, atI_of hj] at this⟩
/-- An order stays one. -/
theorem swap_ord (h : IsOrd zs) (hk : k + 1 < zs.length) : IsOrd (swapL zs k) := by
  obtain ⟨r, o⟩ := ord_at h
  have pick : ∀ i, i < zs.length → ∃ j, j < zs.length ∧ swF (atI zs) k i = atI zs j ∧ (j = if i = k then k + 1 else if i = k + 1 then k else i) := by
    intro i hi
    unfold swF
    by_cases h1 : i = k
    · exact ⟨k + 1, hk, by rw [if_pos h1], by rw [if_pos h1]⟩
    · by_cases h2 : i = k + 1
      · exact ⟨k, by omega, by rw [if_neg h1, if_pos h2], by rw [if_neg h1, if_pos h2]⟩
      · exact ⟨i, hi, by rw [if_neg h1, if_neg h2], by rw [if_neg h1, if_neg h2]⟩
  refine ord_of (by rw [swap_len]; exact h.len) (fun i hi => ?_) (fun i j hi hj hij => ?_)
  · rw [swap_len] at hi ⊢
    rw [swap_at hk]
    obtain ⟨j, hj, e, _⟩ := pick i hi
    rw [e]
    exact r j hj
  · rw [swap_len] at hi hj
    rw [swap_at hk, swap_at hk]
    obtain ⟨i', hi', e1, q1⟩ := pick i hi
    obtain ⟨j', hj', e2, q2⟩ := pick j hj
    rw [e1, e2]
    refine o i' j' hi' hj' (fun e => hij ?_)
    rw [q1, q2] at e
    split at e <;> split at e <;> (try split at e) <;> (try split at e) <;> omega
def invs (zs : List Int) : Nat := invF (atI zs) zs.length
theorem swap_inv (h : k + 1 < zs.length) : (invs (swapL zs k) : Int) = invs zs + (if atI zs k < atI zs (k + 1) then 1 else 0) - (if atI zs (k + 1) < atI zs k then 1 else 0) := by
  unfold invs
  rw [swap_len, invF_congr (g := swF (atI zs) k) (fun j _ => swap_at h j)]
  exact inv_sw h
theorem swap_back (h : k + 1 < zs.length) : swapL (swapL zs k) k = zs := by
  refine List.ext_getElem (by simp [swap_len]) fun i h1 h2 => ?_
  have e : atI (swapL (swapL zs k) k) i = atI zs i := by
    rw [swap_at (by rw [swap_len]; exact h)]
    unfold swF
    by_cases c1 : i = k
    · rw [if_pos c1, swap_at h, c1, swF_next]
    · rw [if_neg c1]
      by_cases c2 : i = k + 1
      · rw [if_pos c2, swap_at h, c2, swF_at]
      · rw [if_neg c2, swap_at h]
        unfold swF
        rw [if_neg c1, if_neg c2]
  rwa [atI_of h1, atI_of h2] at e
theorem swap_mem (h : k + 1 < zs.length) (x : Int) : (∃ i, i < zs.length ∧ atI (swapL zs k) i = x) → ∃ i, i < zs.length ∧ atI zs i = x := by
  rintro ⟨i, hi, e⟩
  rw [swap_at h] at e
  unfold swF at e
  by_cases h1 : i = k
  · rw [if_pos h1] at e; exact ⟨k + 1, h, e⟩
  · rw [if_neg h1] at e
    by_cases h2 : i = k + 1
    · rw [if_pos h2] at e; exact ⟨k, by omega, e⟩
    · rw [if_neg h2] at e; exact ⟨i, hi, e⟩
end
/-- How long a slice is. -/
def lenV : Value → Nat
  | .slice _ n _ => n
  | _ => 0
theorem len_sub {n : Nat} (h : n ≤ 2000000) (k : Int) (h1 : 0 ≤ k) (h2 : k ≤ 100) : IntKind.i64.wrap ((n : Int) - k) = (n : Int) - k := IntWalk.i64_in _ (by omega)
end Go.Proofs.Ythijfipjfdmoeaa
