/- Texts of this seat laid together, each with its own first sentence below: SrtM RowI IntB SwpM CrsM CrxM RowR. -/
import Derived.Test.YthijfipjfdmoeaaPk1
import Derived.Maps.AppendAt
import Derived.RegionTactic
import Derived.Deep.AppendLies
import Derived.Deep.RegionHeld3
import Derived.Deep.RegionLaw
/- The exchanges that sort an order, exchanges one behind the other, places: plain mathematics. -/
namespace Go.Proofs.Ythijfipjfdmoeaa
set_option linter.unusedVariables false
set_option linter.unusedSimpArgs false

/-- The first place from k on behind which no greater number stands. -/
def desc (f : Nat → Int) : Nat → Nat → Nat
  | 0, k => k
  | m + 1, k => if f k < f (k + 1) then desc f m (k + 1) else k
theorem desc_spec {f : Nat → Int} : ∀ (m k d : Nat), k ≤ d → d ≤ k + m → ¬ f d < f (d + 1) → k ≤ desc f m k ∧ desc f m k ≤ d ∧ ¬ f (desc f m k) < f (desc f m k + 1) ∧ ∀ i, k ≤ i → i < desc f m k → f i < f (i + 1) := by
  intro m
  induction m with
  | zero =>
    intro k d h1 h2 h3
    obtain rfl : d = k := by omega
    exact ⟨Nat.le_refl _, Nat.le_refl _, h3, fun i h4 h5 => by rw [desc] at h5; omega⟩
  | succ m ih =>
    intro k d h1 h2 h3
    rw [desc]
    by_cases c : f k < f (k + 1)
    · rw [if_pos c]
      have hd : k + 1 ≤ d := by
        rcases Nat.lt_or_ge k d with x | x
        · exact x
        · obtain rfl : d = k := by omega
          exact absurd c h3
      obtain ⟨a1, a2, a3, a4⟩ := ih (k + 1) d hd (by omega) h3
      refine ⟨by omega, a2, a3, fun i h4 h5 => ?_⟩
      rcases Nat.lt_or_ge k i with x | x
      · exact a4 i x h5
      · obtain rfl : i = k := by omega
        exact c
    · rw [if_neg c]
      exact ⟨Nat.le_refl _, h1, c, fun i h4 h5 => absurd h5 (by omega)⟩
def firstD (zs : List Int) : Nat := desc (atI zs) zs.length 0
theorem first_ok {zs : List Int} (h : IsOrd zs) (hi : 0 < invs zs) : firstD zs + 1 < zs.length ∧ atI zs (firstD zs + 1) < atI zs (firstD zs) ∧ ∀ i, i < firstD zs → atI zs i < atI zs (i + 1) := by
  have hex : ∃ d, d + 1 < zs.length ∧ ¬ atI zs d < atI zs (d + 1) := by
    by_cases c : ∃ d, d + 1 < zs.length ∧ ¬ atI zs d < atI zs (d + 1)
    · exact c
    · have : invs zs = 0 := inv_none fun i hi => by
        by_cases x : atI zs i < atI zs (i + 1)
        · omega
        · exact absurd ⟨i, hi, x⟩ c
      omega
  obtain ⟨d, hd, hn⟩ := hex
  obtain ⟨_, a2, a3, a4⟩ := desc_spec (f := atI zs) zs.length 0 d (by omega) (by omega) hn
  have ne := (ord_at h).2 (firstD zs) (firstD zs + 1) (by unfold firstD; omega) (by unfold firstD; omega) (by omega)
  unfold firstD at ne ⊢
  exact ⟨by omega, by omega, fun i hi => a4 i (by omega) hi⟩
/-- The first m exchanges that sort. -/
def sortS : Nat → List Int → List Int
  | 0, _ => []
  | m + 1, zs => ((firstD zs : Nat) : Int) :: sortS m (swapL zs (firstD zs))
/-- What SortingSwaps answers. -/
def sortSwaps (zs : List Int) : List Int := if orderOk zs = true then sortS (invs zs) zs else []
theorem sortS_len (m : Nat) (zs : List Int) : (sortS m zs).length = m := by
  induction m generalizing zs with
  | zero => rfl
  | succ m ih => rw [sortS, List.length_cons, ih]
theorem sort_step {zs : List Int} (h : IsOrd zs) (hi : 0 < invs zs) : IsOrd (swapL zs (firstD zs)) ∧ invs (swapL zs (firstD zs)) + 1 = invs zs ∧ sortS (invs zs) zs = ((firstD zs : Nat) : Int) :: sortS (invs (swapL zs (firstD zs))) (swapL zs (firstD zs)) := by
  obtain ⟨h1, h2, _⟩ := first_ok h hi
  have hv := swap_inv h1
  rw [if_neg (by omega), if_pos h2] at hv
  have e : invs (swapL zs (firstD zs)) + 1 = invs zs := by omega
  exact ⟨swap_ord h h1, e, by rw [← e, sortS]⟩
theorem invs_le {zs : List Int} (h : IsOrd zs) : invs zs ≤ 49 := by
  have h1 := inv_le (atI zs) zs.length
  have h2 := h.len.2
  have : zs.length * zs.length ≤ 7 * 7 := Nat.mul_le_mul h2 h2
  unfold invs
  omega
theorem sortSwaps_len (zs : List Int) : (sortSwaps zs).length ≤ 49 := by
  unfold sortSwaps
  split
  · rename_i h
    rw [sortS_len]
    exact invs_le (order_iff.1 h)
  · simp

/-- One exchange at a place that came in. -/
def swapTry (cur : List Int) (s : Int) : Option (List Int) := if (orderOk cur && inB s 0 ((cur.length : Int) - 2)) = true then some (swapL cur s.toNat) else none
def aft (cur : List Int) : List Int → Option (List Int)
  | [] => some cur
  | s :: ss => match swapTry cur s with
    | some c => aft c ss
    | none => none
theorem aft_snoc (cur : List Int) (ss : List Int) (s : Int) : aft cur (ss ++ [s]) = (aft cur ss).bind fun c => swapTry c s := by
  induction ss generalizing cur with
  | nil =>
    cases h : swapTry cur s <;> simp [aft, h]
  | cons x ss ih =>
    simp only [List.cons_append, aft]
    cases swapTry cur x with
    | none => rfl
    | some c => exact ih c
theorem aft_take {cur : List Int} {ss : List Int} {k : Nat} (h : k < ss.length) : aft cur (ss.take (k + 1)) = (aft cur (ss.take k)).bind fun c => swapTry c ss[k] := by
  rw [List.take_succ_eq_append_getElem h, aft_snoc]
theorem aft_none {cur : List Int} {ss : List Int} {k n : Nat} (h : k ≤ n) (hn : n ≤ ss.length) (hf : aft cur (ss.take k) = none) : aft cur (ss.take n) = none := by
  induction n with
  | zero => rwa [Nat.le_zero.1 h] at hf
  | succ n ih =>
    rcases Nat.lt_or_ge k (n + 1) with c | c
    · rw [aft_take (by omega), ih (by omega) (by omega)]; rfl
    · rwa [show k = n + 1 by omega] at hf
theorem try_yes {cur : List Int} {k : Nat} (h : IsOrd cur) (hk : k + 1 < cur.length) : swapTry cur (k : Int) = some (swapL cur k) := by
  unfold swapTry
  rw [if_pos (by rw [order_iff.2 h, inB_yes (by omega)]; rfl), Int.toNat_natCast]
theorem try_parts {cur c : List Int} {s : Int} (h : swapTry cur s = some c) : IsOrd cur ∧ (0 ≤ s ∧ s ≤ (cur.length : Int) - 2) ∧ c = swapL cur s.toNat := by
  unfold swapTry at h
  split at h
  · rename_i hh
    rw [Bool.and_eq_true] at hh
    exact ⟨order_iff.1 hh.1, by simpa [inB] using hh.2, (Option.some.inj h).symm⟩
  · cases h
/-- What AfterSwaps answers. -/
def afterSwaps (zs ss : List Int) : List Int × Bool := if orderOk zs = true ∧ ss.length ≤ 60 then (match aft zs ss with | some r => (r, true) | none => (zs, false)) else (zs, false)
theorem aft_ord {ss : List Int} : ∀ {cur r : List Int}, IsOrd cur → aft cur ss = some r → IsOrd r ∧ r.length = cur.length := by
  induction ss with
  | nil =>
    intro cur r h e
    rw [aft] at e
    obtain rfl := Option.some.inj e
    exact ⟨h, rfl⟩
  | cons s ss ih =>
    intro cur r h e
    rw [aft] at e
    cases hs : swapTry cur s with
    | none => rw [hs] at e; cases e
    | some c =>
      rw [hs] at e
      obtain ⟨_, hr, rfl⟩ := try_parts hs
      obtain ⟨a, b⟩ := ih (swap_ord h (by omega)) e
      exact ⟨a, by rw [b, swap_len]⟩
/-- The exchanges that sort do sort. -/
theorem sort_done : ∀ (m : Nat) (zs : List Int), IsOrd zs → invs zs = m → ∃ r, aft zs (sortS m zs) = some r ∧ IsOrd r ∧ invs r = 0 ∧ r.length = zs.length ∧ ∀ x, (∃ i, i < zs.length ∧ atI r i = x) → ∃ i, i < zs.length ∧ atI zs i = x := by
  intro m
  induction m with
  | zero => exact fun zs h hm => ⟨zs, rfl, h, hm, rfl, fun _ h => h⟩
  | succ m ih =>
    intro zs h hm
    obtain ⟨f1, _, _⟩ := first_ok h (by omega)
    obtain ⟨o1, o2, _⟩ := sort_step h (by omega)
    obtain ⟨r, r1, r2, r3, r4, r5⟩ := ih (swapL zs (firstD zs)) o1 (by omega)
    rw [swap_len] at r4 r5
    refine ⟨r, ?_, r2, r3, r4, fun x hx => swap_mem f1 x (r5 x hx)⟩
    rw [sortS, aft, try_yes h f1]
    exact r1
/-- An order without inversions is 0, 1, 2 and so on. -/
theorem sorted_id {zs : List Int} (h : IsOrd zs) (hi : invs zs = 0) : ∀ k, k < zs.length → atI zs k = (k : Int) := by
  obtain ⟨r, o⟩ := ord_at h
  have lt : ∀ i, i + 1 < zs.length → atI zs i < atI zs (i + 1) := fun i hi' => by
    have h1 := inv_zero hi i (i + 1) (by omega) hi'
    have h2 := o i (i + 1) (by omega) hi' (by omega)
    omega
  have low : ∀ k, k < zs.length → (k : Int) ≤ atI zs k := by
    intro k
    induction k with
    | zero => exact fun hk => by have := (r 0 hk).1; omega
    | succ k ih => exact fun hk => by have := ih (by omega); have := lt k hk; omega
  have high : ∀ d k, k + d + 1 = zs.length → atI zs k ≤ (k : Int) := by
    intro d
    induction d with
    | zero => exact fun k hk => by have := (r k (by omega)).2; omega
    | succ d ih => exact fun k hk => by have := ih (k + 1) (by omega); have := lt k (by omega); omega
  exact fun k hk => by have := low k hk; have := high (zs.length - k - 1) k (by omega); omega
/-- Every number below the length stands somewhere. -/
theorem ord_has {zs : List Int} (h : IsOrd zs) {k : Nat} (hk : k < zs.length) : ∃ i, i < zs.length ∧ atI zs i = (k : Int) := by
  obtain ⟨r, _, r2, r3, r4, r5⟩ := sort_done _ zs h rfl
  exact r5 k ⟨k, hk, sorted_id r2 r3 k (by omega)⟩

/-- The first of n places at which x stands; -1. -/
def placeTo (f : Nat → Int) (x : Int) : Nat → Int
  | 0 => -1
  | n + 1 => if placeTo f x n = -1 then (if f n = x then (n : Int) else -1) else placeTo f x n
/-- What PlaceOf answers. -/
def placeOf (zs : List Int) (x : Int) : Int := if orderOk zs = true then placeTo (atI zs) x zs.length else -1
theorem place_not {f : Nat → Int} {x : Int} {k : Nat} (h : placeTo f x k = -1) (hx : ¬ f k = x) : placeTo f x (k + 1) = -1 := by rw [placeTo, if_pos h, if_neg hx]
theorem place_keep {f : Nat → Int} {x : Int} {k n : Nat} (hk : k < n) (h : placeTo f x k = -1) (hx : f k = x) : placeTo f x n = (k : Int) := by
  induction n with
  | zero => omega
  | succ n ih =>
    rcases Nat.lt_or_ge k n with c | c
    · rw [placeTo, ih c, if_neg (by omega)]
    · obtain rfl : n = k := by omega
      rw [placeTo, if_pos h, if_pos hx]
theorem place_found {f : Nat → Int} {x : Int} {n : Nat} (h : ∃ i, i < n ∧ f i = x) : ∃ p : Nat, p < n ∧ f p = x ∧ placeTo f x n = (p : Int) := by
  induction n with
  | zero => obtain ⟨i, hi, _⟩ := h; omega
  | succ n ih =>
    by_cases c : ∃ i, i < n ∧ f i = x
    · obtain ⟨p, p1, p2, p3⟩ := ih c
      exact ⟨p, by omega, p2, by rw [placeTo, p3, if_neg (by omega)]⟩
    · have none : ∀ m, m ≤ n → placeTo f x m = -1 := by
        intro m
        induction m with
        | zero => exact fun _ => rfl
        | succ m im => exact fun hm => place_not (im (by omega)) fun e => c ⟨m, by omega, e⟩
      obtain ⟨i, hi, e⟩ := h
      obtain rfl : i = n := by
        rcases Nat.lt_or_ge i n with y | y
        · exact absurd ⟨i, y, e⟩ c
        · omega
      exact ⟨i, by omega, e, place_keep (by omega) (none i (Nat.le_refl _)) e⟩
theorem place_range (f : Nat → Int) (x : Int) (n : Nat) : -1 ≤ placeTo f x n ∧ placeTo f x n < n := by
  induction n with
  | zero => rw [placeTo]; omega
  | succ n ih => rw [placeTo]; split <;> (try split) <;> omega
end Go.Proofs.Ythijfipjfdmoeaa

/- An own row of numbers behind another. Condition: the numbers lie in rows of their own. -/
namespace Go.Proofs.Ythijfipjfdmoeaa
set_option linter.unusedVariables false
open Go.RowKit

theorem intV_one (zs : List Int) : ∀ u ∈ zs.map intV, u.oneCell' = true := by
  intro u hu
  obtain ⟨z, _, rfl⟩ := List.mem_map.1 hu
  rfl
/-- One own row behind another: what came is nil, empty or holds numbers. -/
theorem run_rowsI (w : World) (ty : TypeId) (base b2 : Nat) (v x : Value) (xs ys : List Int) (h1 : OwnI w base v xs) (h2 : OwnI w b2 x ys) (hl : xs.length + ys.length ≤ 4000000) (hB : base ≤ w.heap.size) :
    ∃ v' w', (Builtin.append_ #[36, 36] ty #[v, x]).run Try.prog w = .ok v' w' ∧ OwnI w' base v' (xs ++ ys) ∧ w.grownBy w' v.ownBlock ∧ (v'.ownBlock = v.ownBlock ∨ v'.ownBlock = some w.heap.size) := by
  obtain ⟨i, hi, hz, hs, hb⟩ := info_parts info_int
  rcases id h2.2 with ⟨rfl, hn⟩ | ⟨g, cap, cur, rfl, _⟩
  · have hy : ys = [] := List.eq_nil_of_length_eq_zero hn
    subst hy
    refine ⟨v, w, ?_, by simpa using h1, World.grownBy.refl w _, .inl rfl⟩
    rcases h1.2 with ⟨rfl, _⟩ | ⟨g, cap, cur, rfl, _, _, hnc, _⟩
    · simp [Builtin.append_, run_underlying Try.underlying36, sizeOf, typeInfo, hi, Builtin.lenOf, Builtin.firstCells]
    · simp [Builtin.append_, run_underlying Try.underlying36, sizeOf, typeInfo, hi, Builtin.lenOf, Builtin.firstCells, hnc, storeCells]
  · obtain ⟨v', w', hr, o, g1, _, hat⟩ := run_append_own_at (P := Try.prog) w base 36 ty 3 i (.int .i64 0) 1 8 Try.underlying36 hi hz hs hb rfl (by omega) v xs.length (xs.map intV) h1
      ⟨g, 0, none⟩ ys.length cap (ys.map intV) (by simp) (World.ownsRow.cells h2 rfl) (intV_one ys) (by simp only [maxLen]; omega) (by omega) hB
    refine ⟨v', w', hr, ?_, g1, hat⟩
    unfold OwnI
    rw [List.length_append, List.map_append]
    exact o
section
variable {w : World} {o : Oper} {a : Act} {Q : Exit → Act → World → Prop}
theorem wp_rowsI {K : Act → World → Prop} (s y : Operand) (ho : o.op = .call { callee := .builtin .append, args := #[s, y], argTypes := #[36, 36] })
    (base b2 : Nat) (v x : Value) (xs ys : List Int) (hs : a.eval s = v) (hy : a.eval y = x) (h1 : OwnI w base v xs) (h2 : OwnI w b2 x ys) (hl : xs.length + ys.length ≤ 4000000) (hB : base ≤ w.heap.size)
    (h : ∀ v' w', OwnI w' base v' (xs ++ ys) → w.grownBy w' v.ownBlock → (v'.ownBlock = v.ownBlock ∨ v'.ownBlock = some w.heap.size) → K (a.put o.dst v') w') : o.wp Try.prog a w K Q := by
  obtain ⟨v', w', hrun, e2, e3, e4⟩ := run_rowsI w o.type base b2 v x xs ys h1 h2 hl hB
  unfold Oper.wp execOp
  simp only [ho, resolve, invoke, builtin, Sem.run_bind, Sem.run_pure, Result.andThen_ok, List.map_toArray, List.map_cons, List.map_nil, hs, hy, hrun]
  exact h v' w' e2 e3 e4
theorem wpList_rowsI {ops : Array Oper} {rest : List Oper} (hgd : o.guard = none) (s y : Operand) (ho : o.op = .call { callee := .builtin .append, args := #[s, y], argTypes := #[36, 36] })
    (base b2 : Nat) (v x : Value) (xs ys : List Int) (hs : a.eval s = v) (hy : a.eval y = x) (h1 : OwnI w base v xs) (h2 : OwnI w b2 x ys) (hl : xs.length + ys.length ≤ 4000000) (hB : base ≤ w.heap.size)
    (h : ∀ v' w', OwnI w' base v' (xs ++ ys) → w.grownBy w' v.ownBlock → (v'.ownBlock = v.ownBlock ∨ v'.ownBlock = some w.heap.size) → wpList Try.prog ops Q rest (a.put o.dst v') w') : wpList Try.prog ops Q (o :: rest) a w :=
  wpList_plain hgd fun _ hK => wp_rowsI s y ho base b2 v x xs ys hs hy h1 h2 hl hB fun v' w' e2 e3 e4 => hK _ _ (h v' w' e2 e3 e4)
theorem step_rowsI {ops : Array Oper} {K : Act → World → Prop} {E : Prop} (hgd : o.guard = none) (s y : Operand) (ho : o.op = .call { callee := .builtin .append, args := #[s, y], argTypes := #[36, 36] })
    (base b2 : Nat) (v x : Value) (xs ys : List Int) (hs : a.eval s = v) (hy : a.eval y = x) (h1 : OwnI w base v xs) (h2 : OwnI w b2 x ys) (hl : xs.length + ys.length ≤ 4000000) (hB : base ≤ w.heap.size)
    (h : ∀ v' w', OwnI w' base v' (xs ++ ys) → w.grownBy w' v.ownBlock → (v'.ownBlock = v.ownBlock ∨ v'.ownBlock = some w.heap.size) → K (a.put o.dst v') w') :
    if Region.wanted o (yielded ops a.tmps) = true then Oper.wp Try.prog o a w K Q else E := by
  have hw : Region.wanted o (yielded ops a.tmps) = true := by simp [Region.wanted, hgd]
  rw [if_pos hw]
  exact wp_rowsI s y ho base b2 v x xs ys hs hy h1 h2 hl hB h
end
end Go.Proofs.Ythijfipjfdmoeaa

/- A result of two: an own row of numbers and a bool. No condition. -/
namespace Go.Proofs.Ythijfipjfdmoeaa
set_option linter.unusedVariables false
open Go.RowKit

/-- An own row of numbers and a bool. -/
def IntsB (w : World) (r : List Int × Bool) (e : Ending) (w' : World) : Prop := ∃ v, e = .returned (.tuple #[v, .bool r.2]) ∧ OwnI w' w.heap.size v r.1 ∧ Below w.heap.size w w'
end Go.Proofs.Ythijfipjfdmoeaa

/- What SwapAt and AfterSwaps answer: plain mathematics, for both sides. -/
namespace Go.Proofs.Ythijfipjfdmoeaa
set_option linter.unusedVariables false
set_option linter.unusedSimpArgs false
open Go.RowKit

/-- What SwapAt answers. -/
def swapR (zs : List Int) (k : Int) : List Int × Bool := if orderOk zs = true ∧ inB k 0 ((zs.length : Int) - 2) = true then (swapL zs k.toNat, true) else (zs, false)
theorem swapR_yes {zs : List Int} {k : Nat} (h : IsOrd zs) (hk : k + 1 < zs.length) : swapR zs (k : Int) = (swapL zs k, true) := by
  unfold swapR
  rw [if_pos ⟨order_iff.2 h, inB_yes (by omega)⟩, Int.toNat_natCast]
theorem swapR_no {zs : List Int} {k : Int} (h : orderOk zs = false ∨ inB k 0 ((zs.length : Int) - 2) = false) : swapR zs k = (zs, false) := by
  unfold swapR
  rw [if_neg (by rintro ⟨h1, h2⟩; rcases h with h | h <;> simp_all)]

theorem swapR_len (zs : List Int) (k : Int) : (swapR zs k).1.length = zs.length := by
  unfold swapR
  split
  · exact swap_len _ _
  · rfl

theorem swapR_try {cur : List Int} {s : Int} : (swapR cur s).2 = (swapTry cur s).isSome ∧ ∀ c, swapTry cur s = some c → swapR cur s = (c, true) := by
  unfold swapR swapTry
  by_cases h : orderOk cur = true ∧ inB s 0 ((cur.length : Int) - 2) = true
  · rw [if_pos h, if_pos (by rw [h.1, h.2]; rfl)]
    exact ⟨rfl, fun c hc => by rw [Option.some.inj hc]⟩
  · rw [if_neg h, if_neg (by rw [Bool.and_eq_true]; exact h)]
    exact ⟨rfl, fun c hc => by cases hc⟩
theorem after_bad {zs ss : List Int} {k : Nat} (h : k ≤ ss.length) (hf : aft zs (ss.take k) = none) : afterSwaps zs ss = (zs, false) := by
  have := aft_none h (Nat.le_refl _) hf
  rw [List.take_length] at this
  unfold afterSwaps
  rw [this]
  split <;> rfl
theorem after_many {zs ss : List Int} (h : 60 < ss.length) : afterSwaps zs ss = (zs, false) := by
  unfold afterSwaps
  rw [if_neg (by omega)]
theorem after_end {zs ss cur : List Int} (h : ss.length ≤ 60 ∨ ss.length = 0) (hc : aft zs ss = some cur) : afterSwaps zs ss = (if orderOk zs = true then cur else zs, orderOk zs) := by
  unfold afterSwaps
  cases hok : orderOk zs with
  | true => rw [if_pos ⟨rfl, by omega⟩, hc]; rfl
  | false => rw [if_neg (by simp)]; rfl
theorem aft_same {zs ss cur : List Int} (hn : orderOk zs = false) (h : aft zs ss = some cur) : cur = zs := by
  cases ss with
  | nil => rw [aft] at h; exact (Option.some.inj h).symm
  | cons s ss =>
    rw [aft] at h
    have : swapTry zs s = none := by
      unfold swapTry
      rw [hn, Bool.false_and, if_neg (by simp)]
    rw [this] at h
    cases h

theorem after_len (zs ss : List Int) : (afterSwaps zs ss).1.length = zs.length := by
  unfold afterSwaps
  split
  · rename_i h
    cases ha : aft zs ss with
    | none => rfl
    | some r => exact (aft_ord (order_iff.1 h.1) ha).2
  · rfl

/-- One exchange is SwapAt. -/
theorem after_one (zs : List Int) (k : Int) : afterSwaps zs [k] = swapR zs k := by
  unfold afterSwaps
  by_cases h : orderOk zs = true
  · rw [if_pos ⟨h, by simp⟩, aft]
    obtain ⟨h1, h2⟩ := swapR_try (cur := zs) (s := k)
    cases ht : swapTry zs k with
    | some c => rw [h2 c ht]; rfl
    | none =>
      by_cases hh : orderOk zs = true ∧ inB k 0 ((zs.length : Int) - 2) = true
      · unfold swapTry at ht
        rw [if_pos (by rw [hh.1, hh.2]; rfl)] at ht
        cases ht
      · rw [swapR, if_neg hh]
  · rw [if_neg (by rintro ⟨x, _⟩; exact h x), swapR_no (.inl (by simpa using h))]
theorem after_off {zs ss : List Int} (h : orderOk zs = false) : afterSwaps zs ss = (zs, false) := by
  unfold afterSwaps
  rw [if_neg (by rintro ⟨x, _⟩; rw [h] at x; cases x)]
theorem try_no {cur : List Int} {s : Int} (h : inB s 0 ((cur.length : Int) - 2) = false) : swapTry cur s = none := by
  unfold swapTry
  rw [h, Bool.and_false, if_neg (by simp)]
end Go.Proofs.Ythijfipjfdmoeaa

/- Crossings as mathematics: valid lists, the order behind them, the pairs, undoing, reducing, counting. No condition. -/
namespace Go.Proofs.Ythijfipjfdmoeaa
set_option linter.unusedVariables false
open Go.RowKit

/-- CrossesOk. -/
def crossOk (n : Int) (ls : List RCross) : Bool := inB n 1 7 && (decide (ls.length ≤ 40) && ls.all fun l => inB l.f0 0 (n - 2))
theorem crossOk_no {n : Int} {ls : List RCross} (h : inB n 1 7 = false ∨ 40 < ls.length) : crossOk n ls = false := by
  unfold crossOk
  rcases h with h | h
  · rw [h]; rfl
  · rw [decide_eq_false (by omega : ¬ ls.length ≤ 40)]; simp
theorem crossOk_at {n : Int} {ls : List RCross} {k : Nat} (hk : k < ls.length) (h : inB ls[k].f0 0 (n - 2) = false) : crossOk n ls = false := by
  unfold crossOk
  rw [Bool.and_eq_false_iff]
  refine .inr ?_
  rw [Bool.and_eq_false_iff]
  refine .inr ?_
  rw [List.all_eq_false]
  exact ⟨ls[k], List.getElem_mem hk, by rw [h]; decide⟩
theorem crossOk_yes {n : Int} {ls : List RCross} (h1 : inB n 1 7 = true) (h2 : ls.length ≤ 40) (h : ∀ k (hk : k < ls.length), inB ls[k].f0 0 (n - 2) = true) : crossOk n ls = true := by
  unfold crossOk
  rw [h1, decide_eq_true h2, Bool.true_and, Bool.true_and, List.all_eq_true]
  intro l hl
  obtain ⟨k, hk, rfl⟩ := List.mem_iff_getElem.1 hl
  exact h k hk
theorem crossOk_has {n : Int} {ls : List RCross} (h : crossOk n ls = true) : inB n 1 7 = true ∧ ls.length ≤ 40 ∧ ∀ k (hk : k < ls.length), inB ls[k].f0 0 (n - 2) = true := by
  unfold crossOk at h
  simp only [Bool.and_eq_true, decide_eq_true_eq, List.all_eq_true] at h
  exact ⟨h.1, h.2.1, fun k hk => h.2.2 _ (List.getElem_mem hk)⟩
/-- What one crossing makes of an order. -/
def stepA (zs : List Int) (l : RCross) : List Int := (swapR zs l.f0).1
theorem stepA_len (zs : List Int) (l : RCross) : (stepA zs l).length = zs.length := by
  unfold stepA swapR
  split
  · exact swap_len _ _
  · rfl
def startL (n : Nat) : List Int := (List.range n).map fun (k : Nat) => (k : Int)
theorem startL_len (n : Nat) : (startL n).length = n := by simp [startL]
theorem startL_more (n : Nat) : startL (n + 1) = startL n ++ [(n : Int)] := by simp [startL, List.range_succ]
def nowAt (n : Int) (ls : List RCross) (k : Nat) : List Int := (ls.take k).foldl stepA (startL n.toNat)
theorem foldA_len (ls : List RCross) (zs : List Int) : (ls.foldl stepA zs).length = zs.length := by
  induction ls generalizing zs with
  | nil => rfl
  | cons l ls ih => rw [List.foldl_cons, ih, stepA_len]
theorem nowAt_len (n : Int) (ls : List RCross) (k : Nat) : (nowAt n ls k).length = n.toNat := by rw [nowAt, foldA_len, startL_len]
theorem nowAt_zero (n : Int) (ls : List RCross) : nowAt n ls 0 = startL n.toNat := rfl
theorem nowAt_more (n : Int) {ls : List RCross} {k : Nat} (h : k < ls.length) : nowAt n ls (k + 1) = stepA (nowAt n ls k) ls[k] := by
  unfold nowAt
  rw [List.take_add_one, List.getElem?_eq_getElem h, List.foldl_append]
  rfl
def ordAfter (n : Int) (ls : List RCross) : List Int := if crossOk n ls = true then nowAt n ls ls.length else []
theorem ordAfter_len (n : Int) (ls : List RCross) : (ordAfter n ls).length ≤ 7 := by
  unfold ordAfter
  split
  · next h =>
    have h := (crossOk_has h).1
    rw [nowAt_len]
    unfold inB at h
    have h := of_decide_eq_true h
    omega
  · simp
def turned (l : RCross) : RCross := ⟨l.f0, !l.f1⟩
def undo (ls : List RCross) : List RCross := (ls.map turned).reverse
theorem undo_len (ls : List RCross) : (undo ls).length = ls.length := by simp [undo]
/-- The crossings from place k on, the last one first, turned. -/
def undoTo (ls : List RCross) (k : Nat) : List RCross := undo (ls.drop k)
theorem undoTo_zero (ls : List RCross) : undoTo ls 0 = undo ls := by simp [undoTo]
theorem undoTo_all (ls : List RCross) : undoTo ls ls.length = [] := by simp [undoTo, undo]
theorem undoTo_less {ls : List RCross} {k : Nat} (h : k < ls.length) : undoTo ls k = undoTo ls (k + 1) ++ [turned ls[k]] := by
  unfold undoTo undo
  rw [List.drop_eq_getElem_cons h, List.map_cons, List.reverse_cons]
/-- One step of the reduction. -/
def undoes (x l : RCross) : Bool := decide (x.f0 = l.f0) && (x.f1 != l.f1)
def push (out : List RCross) (l : RCross) : List RCross :=
  match out.getLast? with
  | some x => if undoes x l = true then out.dropLast else out ++ [l]
  | none => out ++ [l]
def redTo (ls : List RCross) (k : Nat) : List RCross := (ls.take k).foldl push []
def reduced (n : Int) (ls : List RCross) : List RCross := if crossOk n ls = true then redTo ls ls.length else []
theorem redTo_more {ls : List RCross} {k : Nat} (h : k < ls.length) : redTo ls (k + 1) = push (redTo ls k) ls[k] := by
  unfold redTo
  rw [List.take_add_one, List.getElem?_eq_getElem h, List.foldl_append]
  rfl
theorem push_len (out : List RCross) (l : RCross) : (push out l).length ≤ out.length + 1 := by
  unfold push
  split
  · split <;> simp <;> omega
  · simp
theorem redTo_len (ls : List RCross) (k : Nat) : (redTo ls k).length ≤ k := by
  have : ∀ (xs : List RCross) (o : List RCross), (xs.foldl push o).length ≤ o.length + xs.length := by
    intro xs
    induction xs with
    | nil => intro o; simp
    | cons x xs ih =>
      intro o
      have h1 := ih (push o x)
      have h2 := push_len o x
      rw [List.foldl_cons, List.length_cons]
      omega
  have h := this (ls.take k) []
  simp only [List.length_nil, List.length_take] at h
  unfold redTo
  omega
theorem reduced_len (n : Int) (ls : List RCross) : (reduced n ls).length ≤ ls.length := by
  unfold reduced
  split
  · exact redTo_len ls _
  · simp
/-- Who passes whom at a crossing. -/
def pairC (now : List Int) (l : RCross) : List Int := if l.f1 = true then [atI now l.f0.toNat, atI now (l.f0.toNat + 1)] else [atI now (l.f0.toNat + 1), atI now l.f0.toNat]
def pairsTo (n : Int) (ls : List RCross) (k : Nat) : List (List Int) := (List.range k).map fun i => pairC (nowAt n ls i) (ls.getD i RCross.zero)
def pairsOf (n : Int) (ls : List RCross) : List (List Int) := if crossOk n ls = true then pairsTo n ls ls.length else []
theorem pairsTo_more (n : Int) {ls : List RCross} {k : Nat} (h : k < ls.length) : pairsTo n ls (k + 1) = pairsTo n ls k ++ [pairC (nowAt n ls k) ls[k]] := by
  unfold pairsTo
  rw [List.range_succ, List.map_append, List.map_singleton, List.getD_eq_getElem?_getD, List.getElem?_eq_getElem h]
  rfl
theorem pairsTo_len (n : Int) (ls : List RCross) (k : Nat) : (pairsTo n ls k).length = k := by simp [pairsTo]
theorem pairC_len (now : List Int) (l : RCross) : (pairC now l).length = 2 := by unfold pairC; split <;> rfl
/-- How often a puppet goes in front. -/
def frontTo (p : Int) (zss : List (List Int)) (k : Nat) : Nat := (zss.take k).countP fun z => decide (atI z 0 = p)
theorem frontTo_more (p : Int) {zss : List (List Int)} {k : Nat} (h : k < zss.length) : frontTo p zss (k + 1) = frontTo p zss k + (if atI zss[k] 0 = p then 1 else 0) := by
  unfold frontTo
  rw [List.take_add_one, List.getElem?_eq_getElem h, List.countP_append]
  simp [List.countP_cons]
def countFront (n : Int) (ls : List RCross) (p : Int) : Int := if crossOk n ls = true ∧ inB p 0 (n - 1) = true then (frontTo p (pairsOf n ls) (pairsOf n ls).length : Int) else -1
/-- A row of crossings of the call's own as a result. -/
def CrossPost (w : World) (ls : List RCross) (e : Ending) (w' : World) : Prop := ∃ v, e = .returned v ∧ OwnCross w' w.heap.size v ls ∧ Below w.heap.size w w'
end Go.Proofs.Ythijfipjfdmoeaa

/- Crossings: undoing leads back, reducing keeps the order and leaves no pair, everybody who passes in front is counted: plain mathematics. -/
namespace Go.Proofs.Ythijfipjfdmoeaa
set_option linter.unusedVariables false
set_option linter.unusedSimpArgs false

theorem start_at {n k : Nat} (h : k < n) : atI (startL n) k = (k : Int) := by
  rw [atI_of (by rw [startL_len]; exact h)]
  simp [startL]
theorem start_ord {n : Nat} (h : 1 ≤ n ∧ n ≤ 7) : IsOrd (startL n) := by
  refine ord_of (by rw [startL_len]; exact h) (fun k hk => ?_) (fun i j hi hj hij => ?_)
  · rw [startL_len] at hk ⊢
    rw [start_at hk]
    omega
  · rw [startL_len] at hi hj
    rw [start_at hi, start_at hj]
    omega
/-- A crossing of n puppets. -/
def Fits (n : Nat) (l : RCross) : Prop := 0 ≤ l.f0 ∧ l.f0 + 2 ≤ (n : Int)
theorem fits_turned {n : Nat} {l : RCross} (h : Fits n l) : Fits n (turned l) := h
section
variable {n : Nat} {zs : List Int} {l x : RCross} {ls : List RCross}
theorem stepA_swap (ho : IsOrd zs) (hn : zs.length = n) (h : Fits n l) : stepA zs l = swapL zs l.f0.toNat := by
  obtain ⟨q, hq⟩ := Int.eq_ofNat_of_zero_le h.1
  have h2 := h.2
  unfold stepA
  rw [hq, swapR_yes ho (by omega), Int.toNat_natCast]
theorem stepA_ord (ho : IsOrd zs) (hn : zs.length = n) (h : Fits n l) : IsOrd (stepA zs l) := by
  rw [stepA_swap ho hn h]
  exact swap_ord ho (by have := h.2; have := h.1; omega)
theorem stepA_twice (ho : IsOrd zs) (hn : zs.length = n) (h : Fits n l) (he : x.f0 = l.f0) : stepA (stepA zs l) x = zs := by
  have hx : Fits n x := by unfold Fits; rw [he]; exact h
  rw [stepA_swap (stepA_ord ho hn h) (by rw [stepA_len]; exact hn) hx, stepA_swap ho hn h, he]
  exact swap_back (by have := h.2; have := h.1; omega)
theorem run_ord (hf : ∀ l ∈ ls, Fits n l) : ∀ {zs : List Int}, IsOrd zs → zs.length = n → IsOrd (ls.foldl stepA zs) := by
  induction ls with
  | nil => exact fun ho _ => ho
  | cons l ls ih => exact fun ho hn => ih (fun x hx => hf x (List.mem_cons_of_mem _ hx)) (stepA_ord ho hn (hf l List.mem_cons_self)) (by rw [stepA_len]; exact hn)
theorem undo_cons (l : RCross) (ls : List RCross) : undo (l :: ls) = undo ls ++ [turned l] := by simp [undo]
/-- Undoing leads back. -/
theorem run_undo (hf : ∀ l ∈ ls, Fits n l) : ∀ {zs : List Int}, IsOrd zs → zs.length = n → (undo ls).foldl stepA (ls.foldl stepA zs) = zs := by
  induction ls with
  | nil => exact fun _ _ => rfl
  | cons l ls ih =>
    intro zs ho hn
    have h1 := hf l List.mem_cons_self
    rw [undo_cons, List.foldl_append]
    show stepA ((undo ls).foldl stepA (ls.foldl stepA (stepA zs l))) (turned l) = zs
    rw [ih (fun x hx => hf x (List.mem_cons_of_mem _ hx)) (stepA_ord ho hn h1) (by rw [stepA_len]; exact hn)]
    exact stepA_twice ho hn h1 rfl
theorem push_cases (out : List RCross) (l : RCross) : (∃ pre x, out = pre ++ [x] ∧ undoes x l = true ∧ push out l = pre) ∨ (push out l = out ++ [l] ∧ ∀ pre x, out = pre ++ [x] → undoes x l = false) := by
  rcases List.eq_nil_or_concat out with rfl | ⟨pre, x, rfl⟩
  · exact .inr ⟨rfl, fun pre x h => by simp at h⟩
  · have e : push (pre ++ [x]) l = if undoes x l = true then pre else pre ++ [x] ++ [l] := by unfold push; simp
    simp only [List.concat_eq_append]
    cases hu : undoes x l with
    | true => exact .inl ⟨pre, x, rfl, hu, by rw [e, if_pos hu]⟩
    | false =>
      refine .inr ⟨by rw [e, if_neg (by rw [hu]; decide)], fun p y h => ?_⟩
      have := List.append_inj' h rfl
      rw [← List.singleton_inj.1 this.2]
      exact hu
theorem undoes_at {x l : RCross} (h : undoes x l = true) : x.f0 = l.f0 ∧ turned l = x := by
  unfold undoes at h
  rw [Bool.and_eq_true, decide_eq_true_eq] at h
  refine ⟨h.1, ?_⟩
  obtain ⟨a, b⟩ := x
  obtain ⟨c, d⟩ := l
  obtain ⟨h1, h2⟩ := h
  simp only at h1 h2
  subst h1
  cases b <;> cases d <;> simp_all [turned]
/-- Reducing keeps the order. -/
theorem push_run (out : List RCross) (hf : ∀ x ∈ out, Fits n x) (hl : Fits n l) (ho : IsOrd zs) (hn : zs.length = n) : (push out l).foldl stepA zs = stepA (out.foldl stepA zs) l := by
  rcases push_cases out l with ⟨pre, x, rfl, hu, e⟩ | ⟨e, _⟩
  · have hp : ∀ y ∈ pre, Fits n y := fun y hy => hf y (List.mem_append_left _ hy)
    rw [e, List.foldl_append]
    exact (stepA_twice (run_ord hp ho hn) (by rw [foldA_len]; exact hn) (hf x (by simp)) (undoes_at hu).1.symm).symm
  · rw [e, List.foldl_append]
    rfl
theorem push_fits (out : List RCross) (hf : ∀ x ∈ out, Fits n x) (hl : Fits n l) : ∀ x ∈ push out l, Fits n x := by
  rcases push_cases out l with ⟨pre, x, rfl, hu, e⟩ | ⟨e, _⟩
  · rw [e]
    exact fun y hy => hf y (List.mem_append_left _ hy)
  · rw [e]
    intro y hy
    rcases List.mem_append.1 hy with h | h
    · exact hf y h
    · rw [List.mem_singleton.1 h]; exact hl
theorem red_run (hf : ∀ l ∈ ls, Fits n l) (ho : IsOrd zs) (hn : zs.length = n) : ∀ (out : List RCross), (∀ x ∈ out, Fits n x) → (ls.foldl push out).foldl stepA zs = ls.foldl stepA (out.foldl stepA zs) ∧ ∀ x ∈ ls.foldl push out, Fits n x := by
  induction ls with
  | nil => exact fun out h => ⟨rfl, h⟩
  | cons l ls ih =>
    intro out h
    have h1 := hf l List.mem_cons_self
    obtain ⟨i1, i2⟩ := ih (fun x hx => hf x (List.mem_cons_of_mem _ hx)) (push out l) (push_fits out h h1)
    refine ⟨?_, i2⟩
    rw [List.foldl_cons, i1, push_run out h h1 ho hn, List.foldl_cons]
theorem red_even (ls : List RCross) : ∀ (out : List RCross), ∃ m, out.length + ls.length = (ls.foldl push out).length + 2 * m := by
  induction ls with
  | nil => exact fun out => ⟨0, rfl⟩
  | cons l ls ih =>
    intro out
    obtain ⟨m, hm⟩ := ih (push out l)
    rcases push_cases out l with ⟨pre, x, rfl, hu, e⟩ | ⟨e, _⟩
    · rw [e] at hm
      exact ⟨m + 1, by rw [List.foldl_cons, e, List.length_cons, List.length_append, List.length_singleton]; omega⟩
    · rw [e, List.length_append, List.length_singleton] at hm
      exact ⟨m, by rw [List.foldl_cons, e, List.length_cons]; omega⟩
/-- No two that follow each other undo each other. -/
def NoPair (out : List RCross) : Prop := ∀ k (h : k + 1 < out.length), undoes out[k] out[k + 1] = false
theorem noPair_left {a b : List RCross} (h : NoPair (a ++ b)) : NoPair a := by
  intro k hk
  have := h k (by rw [List.length_append]; omega)
  rwa [List.getElem_append_left (by omega), List.getElem_append_left (by omega)] at this
theorem noPair_push {out : List RCross} (h : NoPair out) (l : RCross) : NoPair (push out l) := by
  rcases push_cases out l with ⟨pre, x, rfl, hu, e⟩ | ⟨e, hl⟩
  · rw [e]
    exact noPair_left h
  · rw [e]
    intro k hk
    rw [List.length_append, List.length_singleton] at hk
    rcases Nat.lt_or_ge (k + 1) out.length with c | c
    · rw [List.getElem_append_left (by omega), List.getElem_append_left c]
      exact h k c
    · have hk1 : k + 1 = out.length := by omega
      rw [List.getElem_append_left (by omega), List.getElem_append_right (by omega)]
      simp only [hk1, Nat.sub_self, List.getElem_cons_zero]
      refine hl (out.take k) _ ?_
      rw [← List.take_succ_eq_append_getElem (by omega), hk1, List.take_length]
theorem noPair_red (ls : List RCross) : ∀ (out : List RCross), NoPair out → NoPair (ls.foldl push out) := by
  induction ls with
  | nil => exact fun out h => h
  | cons l ls ih => exact fun out h => ih _ (noPair_push h l)
theorem push_back {out : List RCross} (h : NoPair out) (l : RCross) : push (push out l) (turned l) = out := by
  rcases push_cases out l with ⟨pre, x, rfl, hu, e⟩ | ⟨e, _⟩
  · rw [e, (undoes_at hu).2]
    rcases push_cases pre x with ⟨p2, y, rfl, hy, e2⟩ | ⟨e2, _⟩
    · have := h p2.length (by simp)
      simp [List.getElem_append] at this
      rw [hy] at this
      cases this
    · exact e2
  · rw [e]
    have hu : undoes l (turned l) = true := by
      unfold undoes turned
      cases l.f1 <;> simp
    rcases push_cases (out ++ [l]) (turned l) with ⟨pre, x, h1, _, e2⟩ | ⟨_, hh⟩
    · have := List.append_inj' h1 rfl
      rw [e2, this.1]
    · have := hh out l rfl
      rw [hu] at this
      cases this
/-- Whatever is undone is reduced to nothing. -/
theorem red_undo (ls : List RCross) : ∀ (out : List RCross), NoPair out → (undo ls).foldl push (ls.foldl push out) = out := by
  induction ls with
  | nil => exact fun _ _ => rfl
  | cons l ls ih =>
    intro out h
    rw [undo_cons, List.foldl_append]
    show push ((undo ls).foldl push (ls.foldl push (push out l))) (turned l) = out
    rw [ih _ (noPair_push h l)]
    exact push_back h l
end

theorem ok_fits {n : Int} {ls : List RCross} (h : crossOk n ls = true) : (1 ≤ n.toNat ∧ n.toNat ≤ 7) ∧ (n.toNat : Int) = n ∧ ls.length ≤ 40 ∧ ∀ l ∈ ls, Fits n.toNat l := by
  obtain ⟨h1, h2, h3⟩ := crossOk_has h
  have h1' : 1 ≤ n ∧ n ≤ 7 := by simpa [inB] using h1
  refine ⟨by omega, by omega, h2, fun l hl => ?_⟩
  obtain ⟨k, hk, rfl⟩ := List.mem_iff_getElem.1 hl
  have := h3 k hk
  have h4 : 0 ≤ ls[k].f0 ∧ ls[k].f0 ≤ n - 2 := by simpa [inB] using this
  unfold Fits
  omega
theorem ok_of {n : Nat} {ls : List RCross} (h1 : 1 ≤ n ∧ n ≤ 7) (h2 : ls.length ≤ 40) (h3 : ∀ l ∈ ls, Fits n l) : crossOk (n : Int) ls = true :=
  crossOk_yes (inB_yes (by omega)) h2 fun k hk => inB_yes (by have := h3 _ (List.getElem_mem hk); unfold Fits at this; omega)
/-- All that FnCrossings asks of valid crossings. -/
structure CrossFacts (n : Int) (ls : List RCross) : Prop where
  ordLen : ((ordAfter n ls).length : Int) = n
  pairLen : (pairsOf n ls).length = ls.length
  redOrd : ordAfter n (reduced n ls) = ordAfter n ls
  redLen : ∃ m, ls.length = (reduced n ls).length + 2 * m
  bothOrd : ls.length ≤ 20 → ordAfter n (ls ++ undo ls) = ordAfter n []
  bothRed : ls.length ≤ 20 → reduced n (ls ++ undo ls) = []
  pair : ∀ k (h : k < (pairsOf n ls).length), ∃ a b, (pairsOf n ls)[k] = [a, b] ∧ a ≠ b ∧ (0 ≤ a ∧ a < n) ∧ (0 ≤ b ∧ b < n)
  noPair : NoPair (reduced n ls)
theorem nowAt_ord {n : Int} {ls : List RCross} (h : crossOk n ls = true) (k : Nat) : IsOrd (nowAt n ls k) := by
  obtain ⟨h1, h2, h3, h4⟩ := ok_fits h
  exact run_ord (fun l hl => h4 l (List.mem_of_mem_take hl)) (start_ord h1) (startL_len _)
theorem crossFacts {n : Int} {ls : List RCross} (h : crossOk n ls = true) : CrossFacts n ls := by
  obtain ⟨h1, h2, h3, h4⟩ := ok_fits h
  have so := start_ord h1
  have sl := startL_len n.toNat
  have e1 : ordAfter n ls = ls.foldl stepA (startL n.toNat) := by unfold ordAfter nowAt; rw [if_pos h, List.take_length]
  have e2 : reduced n ls = ls.foldl push [] := by unfold reduced redTo; rw [if_pos h, List.take_length]
  have e3 : pairsOf n ls = pairsTo n ls ls.length := by unfold pairsOf; rw [if_pos h]
  obtain ⟨r1, r2⟩ := red_run h4 so sl [] (by simp)
  obtain ⟨m, hm⟩ := red_even ls []
  have hz : crossOk n [] = true := by rw [← h2]; exact ok_of h1 (by simp) (by simp)
  have hr : crossOk n (reduced n ls) = true := by
    rw [e2]
    rw [← h2] at *
    exact ok_of h1 (by simp at hm; omega) r2
  have hb : ls.length ≤ 20 → crossOk n (ls ++ undo ls) = true := fun hl => by
    rw [← h2]
    refine ok_of h1 (by rw [List.length_append, undo_len]; omega) fun l hx => ?_
    rcases List.mem_append.1 hx with c | c
    · exact h4 l c
    · unfold undo at c
      rw [List.mem_reverse, List.mem_map] at c
      obtain ⟨y, hy, rfl⟩ := c
      exact fits_turned (h4 y hy)
  refine ⟨?_, ?_, ?_, ?_, ?_, ?_, ?_, ?_⟩
  · rw [e1, foldA_len, sl]; exact h2
  · rw [e3, pairsTo_len]
  · rw [e1, ← List.foldl_nil (f := stepA) (b := startL n.toNat)]
    conv => lhs; unfold ordAfter nowAt; rw [if_pos hr, List.take_length, e2]
    exact r1
  · exact ⟨m, by rw [e2]; simpa using hm⟩
  · intro hl
    unfold ordAfter nowAt
    rw [if_pos (hb hl), if_pos hz, List.take_length, List.take_length, List.foldl_append, run_undo h4 so sl]
    rfl
  · intro hl
    unfold reduced redTo
    rw [if_pos (hb hl), List.take_length, List.foldl_append]
    exact red_undo ls [] (fun k hk => by simp at hk)
  · intro k hk
    have hk' : k < ls.length := by rw [e3, pairsTo_len] at hk; exact hk
    have ho := nowAt_ord h k
    have hn := nowAt_len n ls k
    obtain ⟨q1, q2⟩ := ord_at ho
    rw [hn] at q1 q2
    have hf := h4 _ (List.getElem_mem hk')
    unfold Fits at hf
    have ee : (pairsOf n ls)[k] = pairC (nowAt n ls k) ls[k] := by
      simp [e3, pairsTo, List.getD_eq_getElem?_getD, List.getElem?_eq_getElem hk']
    have a1 := q1 (ls[k].f0.toNat) (by omega)
    have a2 := q1 (ls[k].f0.toNat + 1) (by omega)
    have a3 := q2 (ls[k].f0.toNat) (ls[k].f0.toNat + 1) (by omega) (by omega) (by omega)
    rw [ee]
    unfold pairC
    split
    · exact ⟨_, _, rfl, a3, by omega, by omega⟩
    · exact ⟨_, _, rfl, fun e => a3 e.symm, by omega, by omega⟩
  · rw [e2]
    exact noPair_red ls [] (fun k hk => by simp at hk)
/-- Who passes in front among the first m puppets. -/
def frontBelow (m : Int) (zss : List (List Int)) : Nat := zss.countP fun z => decide (0 ≤ atI z 0 ∧ atI z 0 < m)
theorem frontBelow_more (m : Nat) (zss : List (List Int)) : frontBelow ((m + 1 : Nat) : Int) zss = frontBelow (m : Int) zss + frontTo (m : Int) zss zss.length := by
  unfold frontBelow frontTo
  rw [List.take_length]
  induction zss with
  | nil => rfl
  | cons z zs ih =>
    rw [List.countP_cons, List.countP_cons, List.countP_cons, ih]
    by_cases a : 0 ≤ atI z 0 ∧ atI z 0 < (m : Int)
    · rw [if_pos (decide_eq_true (p := 0 ≤ atI z 0 ∧ atI z 0 < ((m + 1 : Nat) : Int)) (by omega)), if_pos (decide_eq_true a), if_neg (by simp; omega)]
      omega
    · by_cases b : atI z 0 = (m : Int)
      · rw [if_pos (decide_eq_true (p := 0 ≤ atI z 0 ∧ atI z 0 < ((m + 1 : Nat) : Int)) (by omega)), if_neg (by simpa using a), if_pos (decide_eq_true b)]
        omega
      · rw [if_neg (by simp; omega), if_neg (by simpa using a), if_neg (by simpa using b)]
        omega
theorem frontBelow_zero (zss : List (List Int)) : frontBelow 0 zss = 0 := by
  unfold frontBelow
  rw [List.countP_eq_zero]
  intro z _
  simp
theorem frontBelow_all {n : Int} {zss : List (List Int)} (h : ∀ k (h : k < zss.length), 0 ≤ atI zss[k] 0 ∧ atI zss[k] 0 < n) : frontBelow n zss = zss.length := by
  unfold frontBelow
  rw [List.countP_eq_length]
  intro z hz
  obtain ⟨k, hk, rfl⟩ := List.mem_iff_getElem.1 hz
  exact decide_eq_true (h k hk)
end Go.Proofs.Ythijfipjfdmoeaa

/- Rows of rows of numbers of the call's own (each row in a block of its own, no two of them in one). No condition. -/
namespace Go.Proofs.Ythijfipjfdmoeaa
set_option linter.unusedVariables false
set_option linter.unusedSimpArgs false
open Go.RowKit

theorem info_ints : (Try.prog.info? 36).map (fun i => (i.zero, i.size, i.bytes)) = some (some (.slice none 0 0), 1, 24) := by kernel_rfl
/-- A row of rows of the call's own; vs: the rows' values. -/
structure OwnRR (w : World) (base : Nat) (v : Value) (vs : List Value) (zss : List (List Int)) : Prop where
  row : w.ownsRow base 36 1 v zss.length vs
  len : vs.length = zss.length
  each : ∀ k (h : k < vs.length) (h' : k < zss.length), OwnI w base vs[k] zss[k]
  off : ∀ k (h : k < vs.length), vs[k].ownBlock = none ∨ vs[k].ownBlock ≠ v.ownBlock
  apart : ∀ i j (hi : i < vs.length) (hj : j < vs.length), i ≠ j → vs[i].ownBlock = none ∨ vs[i].ownBlock ≠ vs[j].ownBlock
def OwnR (w : World) (base : Nat) (v : Value) (zss : List (List Int)) : Prop := ∃ vs, OwnRR w base v vs zss
section
variable {w w' : World} {base b : Nat} {v : Value} {vs : List Value} {zss : List (List Int)}
theorem OwnRR.below (h : OwnRR w base v vs zss) (hb : Below w.heap.size w w') : OwnRR w' base v vs zss :=
  ⟨World.ownsRow.kept h.row (grown_of_below hb none) (by cases v.ownBlock <;> simp), h.len, fun k hk hk' => (h.each k hk hk').below hb, h.off, h.apart⟩
theorem OwnR.below (h : OwnR w base v zss) (hb : Below w.heap.size w w') : OwnR w' base v zss := let ⟨vs, x⟩ := h; ⟨vs, x.below hb⟩
theorem OwnR.alloc (h : OwnR w base v zss) (o : Obj) : OwnR (w.alloc o) base v zss := h.below ((Below.refl _ _).alloc (Nat.le_refl _) _)
theorem OwnRR.slice (h : OwnRR w base v vs zss) : ∃ A c, v = .slice A zss.length c := by
  rcases h.row.2 with ⟨rfl, hn⟩ | ⟨g, cap, _, rfl, _⟩
  · exact ⟨none, 0, by rw [hn]⟩
  · exact ⟨_, _, rfl⟩
theorem OwnR.slice (h : OwnR w base v zss) : ∃ A c, v = .slice A zss.length c := let ⟨_, x⟩ := h; x.slice
theorem OwnRR.lt (h : OwnRR w base v vs zss) : ∀ k, v.ownBlock = some k → base ≤ k ∧ k < w.heap.size := World.ownsRow.lt h.row
theorem OwnR.lt (h : OwnR w base v zss) : ∀ k, v.ownBlock = some k → base ≤ k ∧ k < w.heap.size := let ⟨_, x⟩ := h; x.lt
/-- Row k: its cell, its value, its numbers. -/
theorem OwnR.spot (h : OwnR w base v zss) {k : Nat} (hk : k < zss.length) :
    ∃ g c A c', v = .slice (some ⟨g, 0, none⟩) zss.length c ∧ w.cell? ⟨g, k, none⟩ = some (.slice A zss[k].length c') ∧ w.frozen? ⟨g, k, none⟩ = false ∧ OwnI w base (.slice A zss[k].length c') zss[k] := by
  obtain ⟨vs, x⟩ := h
  have hv : k < vs.length := by rw [x.len]; exact hk
  have O := x.each k hv hk
  obtain ⟨A, c', e⟩ := O.slice
  rcases x.row.2 with ⟨_, hn⟩ | ⟨g, cap, cur, rfl, hb, hg, _⟩
  · omega
  · refine ⟨g, cap, A, c', rfl, ?_, World.ownsRow.frozenAt x.row k, e ▸ O⟩
    rw [World.ownsRow.cellAt x.row k (by omega)]
    simp only [Nat.mul_one] at *
    rw [List.getElem?_eq_getElem hv, e]
/-- A row that has been made since is laid in at place k. -/
theorem OwnRR.set {w0 : World} {g c k : Nat} {u : Value} {zs : List Int} (h : OwnRR w0 base (.slice (some ⟨g, 0, none⟩) zss.length c) vs zss) (hb : Below w0.heap.size w0 w) (hu : OwnI w w0.heap.size u zs) (hbs : base ≤ w0.heap.size) (hk : k < zss.length) :
    OwnRR (w.setCell ⟨g, k, none⟩ u) base (.slice (some ⟨g, 0, none⟩) zss.length c) (vs.set k u) (zss.set k zs) ∧ w.grownBy (w.setCell ⟨g, k, none⟩ u) (some g) := by
  have h1 := h.below hb
  obtain ⟨s1, g1⟩ := World.ownsRow.stored h1.row k u
  have hg : g < w0.heap.size := (h.lt g rfl).2
  have hgw : some g = (Value.slice (some ⟨g, 0, none⟩) zss.length c).ownBlock := rfl
  have lt0 : ∀ i (hi : i < vs.length) b, vs[i].ownBlock = some b → b < w0.heap.size := fun i hi b e => ((h.each i hi (by rw [← h.len]; exact hi)).lt b e).2
  refine ⟨⟨by simpa using s1, by simp [h.len], fun i hi hi' => ?_, fun i hi => ?_, fun i j hi hj hij => ?_⟩, g1⟩
  · simp only [List.length_set] at hi hi'
    by_cases e : k = i
    · subst e
      simp only [List.getElem_set_self]
      exact (hu.mono hbs).kept g1 (sep_of fun b e1 e2 => by have := (hu.lt b e1).1; have := Option.some.inj e2; omega)
    · simp only [List.getElem_set_ne e]
      exact (h1.each i hi hi').kept g1 (h1.off i hi)
  · simp only [List.length_set] at hi
    by_cases e : k = i
    · subst e
      simp only [List.getElem_set_self]
      exact sep_of fun b e1 e2 => by have := (hu.lt b e1).1; have := Option.some.inj (hgw.trans e2); omega
    · simp only [List.getElem_set_ne e]
      exact h1.off i hi
  · simp only [List.length_set] at hi hj
    by_cases e : k = i
    · subst e
      simp only [List.getElem_set_self, List.getElem_set_ne hij]
      exact sep_of fun b e1 e2 => by have := (hu.lt b e1).1; have := lt0 j hj b e2; omega
    · simp only [List.getElem_set_ne e]
      by_cases e2 : k = j
      · subst e2
        simp only [List.getElem_set_self]
        exact sep_of fun b e1 e3 => by have := (hu.lt b e3).1; have := lt0 i hi b e1; omega
      · simp only [List.getElem_set_ne e2]
        exact h1.apart i j hi hj hij
theorem OwnR.set {w0 : World} {g c k : Nat} {u : Value} {zs : List Int} (h : OwnR w0 base (.slice (some ⟨g, 0, none⟩) zss.length c) zss) (hb : Below w0.heap.size w0 w) (hu : OwnI w w0.heap.size u zs) (hbs : base ≤ w0.heap.size) (hk : k < zss.length) :
    OwnR (w.setCell ⟨g, k, none⟩ u) base (.slice (some ⟨g, 0, none⟩) zss.length c) (zss.set k zs) ∧ w.grownBy (w.setCell ⟨g, k, none⟩ u) (some g) :=
  let ⟨vs, x⟩ := h; ⟨⟨vs.set k u, (x.set hb hu hbs hk).1⟩, (x.set hb hu hbs hk).2⟩
/-- n rows made, all nil. -/
theorem ownR_made {n : Nat} {g : Nat} (h : w.ownsRow base 36 1 (.slice (some ⟨g, 0, none⟩) n n) n (List.replicate n (.slice none 0 0))) : OwnR w base (.slice (some ⟨g, 0, none⟩) n n) (List.replicate n []) := by
  refine ⟨List.replicate n (.slice none 0 0), by simpa using h, by simp, fun k hk hk' => ?_, fun k hk => ?_, fun i j hi hj _ => ?_⟩
  · simp only [List.getElem_replicate]
    exact ⟨rfl, .inl ⟨rfl, rfl⟩⟩
  · simp only [List.getElem_replicate]
    exact .inl rfl
  · simp only [List.getElem_replicate]
    exact .inl rfl
end
def RowsPost (w : World) (zss : List (List Int)) (e : Ending) (w' : World) : Prop := ∃ v, e = .returned v ∧ OwnR w' w.heap.size v zss ∧ Below w.heap.size w w'
end Go.Proofs.Ythijfipjfdmoeaa
