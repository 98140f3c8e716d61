/- The exchanges that sort an order, exchanges one behind the other, places: plain mathematics. -/
import Derived.Test.YthijfipjfdmoeaaOrdM
namespace Go.Proofs.Ythijfipjfdmoeaa
set_option linter.unusedVariables false
set_option linter.unusedSimpArgs false

/-- The first place from k on behind which no greater number stands. -/
def desc (f : Nat → Int) : Nat → Nat → Nat
  | 0, k => k
  | m + 1, k => if f k < f (k + 1) then desc f m (k + 1) else k
theorem desc_spec {f : Nat → Int} : ∀ (m k d : Nat), k ≤ d → d ≤ k + m → ¬ f d < f (d + 1) → k ≤ desc f m k ∧ desc f m k ≤ d ∧ ¬ f (desc f m k) < f (desc f m k + 1) ∧ ∀ i, k ≤ i → i < desc f m k → f i < f (i + 1) := by
  intro m
  induction m with
  | zero =>
    intro k d h1 h2 h3
    obtain rfl : d = k := by omega
    exact ⟨Nat.le_refl _, Nat.le_refl _, h3, fun i h4 h5 => by rw [desc] at h5; omega⟩
  | succ m ih =>
    intro k d h1 h2 h3
    rw [desc]
    by_cases c : f k < f (k + 1)
    · rw [if_pos c]
      have hd : k + 1 ≤ d := by
        rcases Nat.lt_or_ge k d with x | x
        · exact x
        · obtain rfl : d = k := by omega
          exact absurd c h3
      obtain ⟨a1, a2, a3, a4⟩ := ih (k + 1) d hd (by omega) h3
      refine ⟨by omega, a2, a3, fun i h4 h5 => ?_⟩
      rcases Nat.lt_or_ge k i with x | x
      · exact a4 i x h5
      · obtain rfl : i = k := by omega
        exact c
    · rw [if_neg c]
      exact ⟨Nat.le_refl _, h1, c, fun i h4 h5 => absurd h5 (by omega)⟩
def firstD (zs : List Int) : Nat := desc (atI zs) zs.length 0
theorem first_ok {zs : List Int} (h : IsOrd zs) (hi : 0 < invs zs) : firstD zs + 1 < zs.length ∧ atI zs (firstD zs + 1) < atI zs (firstD zs) ∧ ∀ i, i < firstD zs → atI zs i < atI zs (i + 1) := by
  have hex : ∃ d, d + 1 < zs.length ∧ ¬ atI zs d < atI zs (d + 1) := by
    by_cases c : ∃ d, d + 1 < zs.length ∧ ¬ atI zs d < atI zs (d + 1)
    · exact c
    · have : invs zs = 0 := inv_none fun i hi => by
        by_cases x : atI zs i < atI zs (i + 1)
        · omega
        · exact absurd ⟨i, hi, x⟩ c
      omega
  obtain ⟨d, hd, hn⟩ := hex
  obtain ⟨_, a2, a3, a4⟩ := desc_spec (f := atI zs) zs.length 0 d (by omega) (by omega) hn
  have ne := (ord_at h).2 (firstD zs) (firstD zs + 1) (by unfold firstD; omega) (by unfold firstD; omega) (by omega)
  unfold firstD at ne ⊢
  exact ⟨by omega, by omega, fun i hi => a4 i (by omega) hi⟩
/-- The first m exchanges that sort. -/
def sortS : Nat → List Int → List Int
  | 0, _ => []
  | m + 1, zs => ((firstD zs : Nat) : Int) :: sortS m (swapL zs (firstD zs))
/-- What SortingSwaps answers. -/
def sortSwaps (zs : List Int) : List Int := if orderOk zs = true then sortS (invs zs) zs else []
theorem sortS_len (m : Nat) (zs : List Int) : (sortS m zs).length = m := by
  induction m generalizing zs with
  | zero => rfl
  | succ m ih => rw [sortS, List.length_cons, ih]
theorem sort_step {zs : List Int} (h : IsOrd zs) (hi : 0 < invs zs) : IsOrd (swapL zs (firstD zs)) ∧ invs (swapL zs (firstD zs)) + 1 = invs zs ∧ sortS (invs zs) zs = ((firstD zs : Nat) : Int) :: sortS (invs (swapL zs (firstD zs))) (swapL zs (firstD zs)) := by
  obtain ⟨h1, h2, _⟩ := first_ok h hi
  have hv := swap_inv h1
  rw [if_neg (by omega), if_pos h2] at hv
  have e : invs (swapL zs (firstD zs)) + 1 = invs zs := by omega
  exact ⟨swap_ord h h1, e, by rw [← e, sortS]⟩
theorem invs_le {zs : List Int} (h : IsOrd zs) : invs zs ≤ 49 := by
  have h1 := inv_le (atI zs) zs.length
  have h2 := h.len.2
  have : zs.length * zs.length ≤ 7 * 7 := Nat.mul_le_mul h2 h2
  unfold invs
  omega
theorem sortSwaps_len (zs : List Int) : (sortSwaps zs).length ≤ 49 := by
  unfold sortSwaps
  split
  · rename_i h
    rw [sortS_len]
    exact invs_le (order_iff.1 h)
  · simp

/-- One exchange at a place that came in. -/
def swapTry (cur : List Int) (s : Int) : Option (List Int) := if (orderOk cur && inB s 0 ((cur.length : Int) - 2)) = true then some (swapL cur s.toNat) else none
def aft (cur : List Int) : List Int → Option (List Int)
  | [] => some cur
  | s :: ss => match swapTry cur s with
    | some c => aft c ss
    | none => none
theorem aft_snoc (cur : List Int) (ss : List Int) (s : Int) : aft cur (ss ++ [s]) = (aft cur ss).bind fun c => swapTry c s := by
  induction ss generalizing cur with
  | nil =>
    cases h : swapTry cur s <;> simp [aft, h]
  | cons x ss ih =>
    simp only [List.cons_append, aft]
    cases swapTry cur x with
    | none => rfl
    | some c => exact ih c
theorem aft_take {cur : List Int} {ss : List Int} {k : Nat} (h : k < ss.length) : aft cur (ss.take (k + 1)) = (aft cur (ss.take k)).bind fun c => swapTry c ss[k] := by
  rw [List.take_succ_eq_append_getElem h, aft_snoc]
theorem aft_none {cur : List Int} {ss : List Int} {k n : Nat} (h : k ≤ n) (hn : n ≤ ss.length) (hf : aft cur (ss.take k) = none) : aft cur (ss.take n) = none := by
  induction n with
  | zero => rwa [Nat.le_zero.1 h] at hf
  | succ n ih =>
    rcases Nat.lt_or_ge k (n + 1) with c | c
    · rw [aft_take (by omega), ih (by omega) (by omega)]; rfl
    · rwa [show k = n + 1 by omega] at hf
theorem try_yes {cur : List Int} {k : Nat} (h : IsOrd cur) (hk : k + 1 < cur.length) : swapTry cur (k : Int) = some (swapL cur k) := by
  unfold swapTry
  rw [if_pos (by rw [order_iff.2 h, inB_yes (by omega)]; rfl), Int.toNat_natCast]
theorem try_parts {cur c : List Int} {s : Int} (h : swapTry cur s = some c) : IsOrd cur ∧ (0 ≤ s ∧ s ≤ (cur.length : Int) - 2) ∧ c = swapL cur s.toNat := by
  unfold swapTry at h
  split at h
  · rename_i hh
    rw [Bool.and_eq_true] at hh
    exact ⟨order_iff.1 hh.1, by simpa [inB] using hh.2, (Option.some.inj h).symm⟩
  · cases h
/-- What AfterSwaps answers. -/
def afterSwaps (zs ss : List Int) : List Int × Bool := if orderOk zs = true ∧ ss.length ≤ 60 then (match aft zs ss with | some r => (r, true) | none => (zs, false)) else (zs, false)
theorem aft_ord {ss : List Int} : ∀ {cur r : List Int}, IsOrd cur → aft cur ss = some r → IsOrd r ∧ r.length = cur.length := by
  induction ss with
  | nil =>
    intro cur r h e
    rw [aft] at e
    obtain rfl := Option.some.inj e
    exact ⟨h, rfl⟩
  | cons s ss ih =>
    intro cur r h e
    rw [aft] at e
    cases hs : swapTry cur s with
    | none => rw [hs] at e; cases e
    | some c =>
      rw [hs] at e
      obtain ⟨_, hr, rfl⟩ := try_parts hs
      obtain ⟨a, b⟩ := ih (swap_ord h (by omega)) e
      exact ⟨a, by rw [b, swap_len]⟩
/-- The exchanges that sort do sort. -/
theorem sort_done : ∀ (m : Nat) (zs : List Int), IsOrd zs → invs zs = m → ∃ r, aft zs (sortS m zs) = some r ∧ IsOrd r ∧ invs r = 0 ∧ r.length = zs.length ∧ ∀ x, (∃ i, i < zs.length ∧ atI r i = x) → ∃ i, i < zs.length ∧ atI zs i = x := by
  intro m
  induction m with
  | zero => exact fun zs h hm => ⟨zs, rfl, h, hm, rfl, fun _ h => h⟩
  | succ m ih =>
    intro zs h hm
    obtain ⟨f1, _, _⟩ := first_ok h (by omega)
    obtain ⟨o1, o2, _⟩ := sort_step h (by omega)
    obtain ⟨r, r1, r2, r3, r4, r5⟩ := ih (swapL zs (firstD zs)) o1 (by omega)
    rw [swap_len] at r4 r5
    refine ⟨r, ?_, r2, r3, r4, fun x hx => swap_mem f1 x (r5 x hx)⟩
    rw [sortS, aft, try_yes h f1]
    exact r1
/-- An order without inversions is 0, 1, 2 and so on. -/
theorem sorted_id {zs : List Int} (h : IsOrd zs) (hi : invs zs = 0) : ∀ k, k < zs.length → atI zs k = (k : Int) := by
  obtain ⟨r, o⟩ := ord_at h
  have lt : ∀ i, i + 1 < zs.length → atI zs i < atI zs (i + 1) := fun i hi' => by
    have h1 := inv_zero hi i (i + 1) (by omega) hi'
    have h2 := o i (i + 1) (by omega) hi' (by omega)
    omega
  have low : ∀ k, k < zs.length → (k : Int) ≤ atI zs k := by
    intro k
    induction k with
    | zero => exact fun hk => by have := (r 0 hk).1; omega
    | succ k ih => exact fun hk => by have := ih (by omega); have := lt k hk; omega
  have high : ∀ d k, k + d + 1 = zs.length → atI zs k ≤ (k : Int) := by
    intro d
    induction d with
    | zero => exact fun k hk => by have := (r k (by omega)).2; omega
    | succ d ih => exact fun k hk => by have := ih (k + 1) (by omega); have := lt k (by omega); omega
  exact fun k hk => by have := low k hk; have := high (zs.length - k - 1) k (by omega); omega
/-- Every number below the length stands somewhere. -/
theorem ord_has {zs : List Int} (h : IsOrd zs) {k : Nat} (hk : k < zs.length) : ∃ i, i < zs.length ∧ atI zs i = (k : Int) := by
  obtain ⟨r, _, r2, r3, r4, r5⟩ := sort_done _ zs h rfl
  exact r5 k ⟨k, hk, sorted_id r2 r3 k (by omega)⟩

/-- The first of n places at which x stands; -1. -/
def placeTo (f : Nat → Int) (x : Int) : Nat → Int
  | 0 => -1
  | n + 1 => if placeTo f x n = -1 then (if f n = x then (n : Int) else -1) else placeTo f x n
/-- What PlaceOf answers. -/
def placeOf (zs : List Int) (x : Int) : Int := if orderOk zs = true then placeTo (atI zs) x zs.length else -1
theorem place_not {f : Nat → Int} {x : Int} {k : Nat} (h : placeTo f x k = -1) (hx : ¬ f k = x) : placeTo f x (k + 1) = -1 := by rw [placeTo, if_pos h, if_neg hx]
theorem place_keep {f : Nat → Int} {x : Int} {k n : Nat} (hk : k < n) (h : placeTo f x k = -1) (hx : f k = x) : placeTo f x n = (k : Int) := by
  induction n with
  | zero => omega
  | succ n ih =>
    rcases Nat.lt_or_ge k n with c | c
    · rw [placeTo, ih c, if_neg (by omega)]
    · obtain rfl : n = k := by omega
      rw [placeTo, if_pos h, if_pos hx]
theorem place_found {f : Nat → Int} {x : Int} {n : Nat} (h : ∃ i, i < n ∧ f i = x) : ∃ p : Nat, p < n ∧ f p = x ∧ placeTo f x n = (p : Int) := by
  induction n with
  | zero => obtain ⟨i, hi, _⟩ := h; omega
  | succ n ih =>
    by_cases c : ∃ i, i < n ∧ f i = x
    · obtain ⟨p, p1, p2, p3⟩ := ih c
      exact ⟨p, by omega, p2, by rw [placeTo, p3, if_neg (by omega)]⟩
    · have none : ∀ m, m ≤ n → placeTo f x m = -1 := by
        intro m
        induction m with
        | zero => exact fun _ => rfl
        | succ m im => exact fun hm => place_not (im (by omega)) fun e => c ⟨m, by omega, e⟩
      obtain ⟨i, hi, e⟩ := h
      obtain rfl : i = n := by
        rcases Nat.lt_or_ge i n with y | y
        · exact absurd ⟨i, y, e⟩ c
        · omega
      exact ⟨i, by omega, e, place_keep (by omega) (none i (Nat.le_refl _)) e⟩
theorem place_range (f : Nat → Int) (x : Int) (n : Nat) : -1 ≤ placeTo f x n ∧ placeTo f x n < n := by
  induction n with
  | zero => rw [placeTo]; omega
  | succ n ih => rw [placeTo]; split <;> (try split) <;> omega
end Go.Proofs.Ythijfipjfdmoeaa
