/- The program's way to TwistTable, IsUntwisted and LeastUndoing as mathematics: part of the flat table is a row; no wound pair leaves the order as before; the sum over the wound pairs. No condition. -/
import Derived.Test.YtokgcchcjaimhaaTwaM
import Derived.Test.YtokgcchcjaimhaaTwxN
namespace Go.Proofs.Ytokgcchcjaimhaa
set_option linter.unusedVariables false
set_option linter.unusedSimpArgs false
open Go.RowKit

theorem aft_row {n : Int} {ls : List RCross} (h : crossOk n ls = true) {i : Nat} (hi : i < n.toNat) : ((aftTo n ls ls.length).drop (i * 7)).take n.toNat = (twistTab n ls).getD i [] := by
  obtain ⟨⟨_, hn7⟩, _, _, _⟩ := ok_fits h
  have sq := tab_square h ls.length (Nat.le_refl _)
  have hl := aft_len n ls ls.length
  have e : twistTab n ls = tabTo n ls ls.length := by unfold twistTab; rw [if_pos h]
  rw [e, getD_row (by rw [sq.len]; exact hi)]
  have hr := sq.row i (by rw [sq.len]; exact hi)
  apply List.ext_getElem
  · rw [List.length_take, List.length_drop, hl, hr]
    omega
  · intro k h1 h2
    rw [hr] at h2
    have a := aft_ent h hi h2 ls.length (Nat.le_refl _)
    rw [ent_of (by rw [sq.len]; exact hi) (by rw [hr]; exact h2), atI_of (by omega)] at a
    rw [List.getElem_take, List.getElem_drop]
    exact a
theorem rsum_pos {f : Nat → Nat → Int} {i : Nat} (hp : ∀ i k, 0 ≤ f i k) : ∀ m, 0 ≤ rsum f i m := by
  intro m
  induction m with
  | zero => rw [rsum]; omega
  | succ m ih => have := hp i m; rw [rsum]; omega
theorem dsum_pos {f : Nat → Nat → Int} (hp : ∀ i k, 0 ≤ f i k) : ∀ n, 0 ≤ dsum f n := by
  intro n
  induction n with
  | zero => rw [dsum]; omega
  | succ n ih => have := rsum_pos (i := n) hp n; rw [dsum]; omega
theorem rsum_nil {f : Nat → Nat → Int} {i : Nat} (hp : ∀ i k, 0 ≤ f i k) : ∀ m, rsum f i m = 0 → ∀ k, k < m → f i k = 0 := by
  intro m
  induction m with
  | zero => intro _ k hk; omega
  | succ m ih =>
    intro h k hk
    have h1 := hp i m
    have h2 := rsum_pos (i := i) hp m
    rw [rsum] at h
    by_cases e : k = m
    · subst e; omega
    · exact ih (by omega) k (by omega)
theorem dsum_nil {f : Nat → Nat → Int} (hp : ∀ i k, 0 ≤ f i k) : ∀ n, dsum f n = 0 → ∀ i k, i < n → k < i → f i k = 0 := by
  intro n
  induction n with
  | zero => intro _ i k hi; omega
  | succ n ih =>
    intro h i k hi hk
    have h1 := dsum_pos hp n
    have h2 := rsum_pos (i := n) hp n
    rw [dsum] at h
    by_cases e : i = n
    · subst e; exact rsum_nil hp i (by omega) k hk
    · exact ih (by omega) i k (by omega) hk
/-- The order is as before where no pair is wound. -/
theorem untw_wound (n : Int) (ls : List RCross) : untw n ls = (crossOk n ls && decide ((woundPs n ls).length = 0)) := by
  by_cases h : crossOk n ls = true
  rotate_left
  · unfold untw
    rw [Bool.eq_false_iff.2 h]
    rfl
  obtain ⟨h1, h2, h3, h4⟩ := ok_fits h
  obtain ⟨N, rfl⟩ : ∃ N : Nat, n = (N : Int) := ⟨n.toNat, h2.symm⟩
  rw [Int.toNat_natCast] at h1 h4
  unfold untw
  rw [h, Bool.true_and, Bool.true_and]
  by_cases hw : (woundPs (N : Int) ls).length = 0
  rotate_left
  · rw [decide_eq_false hw, Bool.and_false]
  rw [decide_eq_true hw, Bool.and_true]
  have F := twistFacts h
  have so := start_ord h1
  have sl := startL_len N
  have e1 : ordAfter (N : Int) ls = ls.foldl stepA (startL N) := by unfold ordAfter nowAt; rw [if_pos h, List.take_length, Int.toNat_natCast]
  have oo : IsOrd (ordAfter (N : Int) ls) := by rw [e1]; exact run_ord h4 so sl
  have ol : (ordAfter (N : Int) ls).length = N := by rw [e1, foldA_len]; exact sl
  have wz := F.wound
  rw [hw] at wz
  have z := dsum_nil (f := wnd (twistTab (N : Int) ls)) (fun i k => by unfold wnd; split <;> omega) N (by omega)
  have pl : ∀ x : Nat, placeOf (ordAfter (N : Int) ls) (x : Int) = pos (ordAfter (N : Int) ls) x := fun x => by unfold placeOf pos; rw [if_pos (order_iff.2 oo)]
  have up : ∀ i k, i < N → k < i → pos (ordAfter (N : Int) ls) k < pos (ordAfter (N : Int) ls) i := by
    intro i k hi hk
    have e := z i k hi hk
    have e0 : ent (twistTab (N : Int) ls) i k = 0 := by
      unfold wnd at e
      split at e
      · assumption
      · omega
    have a := (F.even i k hi hk).1 (by rw [e0]; rfl)
    rwa [pl, pl] at a
  have iz : invs (ordAfter (N : Int) ls) = 0 := by
    generalize ordAfter (N : Int) ls = o at oo ol up
    refine inv_none fun p hp => ?_
    obtain ⟨o1, o2⟩ := ord_at oo
    obtain ⟨a, ha⟩ := Int.eq_ofNat_of_zero_le (o1 p (by omega)).1
    obtain ⟨b, hb⟩ := Int.eq_ofNat_of_zero_le (o1 (p + 1) hp).1
    have a1 := (o1 p (by omega)).2
    have b1 := (o1 (p + 1) hp).2
    by_cases c : b < a
    · have q := up a b (by omega) c
      rw [pos_at oo (p := p) (by omega) ha, pos_at oo hp hb] at q
      omega
    · rw [ha, hb]
      omega
  rw [if_pos (order_iff.2 oo), iz]
  rfl
/-- What a row of pairs adds up to. -/
def lsum (t : List (List Int)) : List (List Int) → Int
  | [] => 0
  | z :: zs => absI (ent t (pa z) (pb z)) + lsum t zs
theorem lsum_append (t : List (List Int)) (xs ys : List (List Int)) : lsum t (xs ++ ys) = lsum t xs + lsum t ys := by
  induction xs with
  | nil => simp [lsum]
  | cons x xs ih => rw [List.cons_append, lsum, lsum, ih]; omega
theorem woundK_lsum (t : List (List Int)) (i : Nat) : ∀ k, lsum t (woundK t i k) = rsum (fun i k => if i < k then absI (ent t i k) else 0) i k := by
  intro k
  induction k with
  | zero => rfl
  | succ k ih =>
    rw [woundK, lsum_append, rsum, ← ih]
    by_cases a : i < k
    · by_cases b : ent t i k = 0
      · simp [a, b, lsum, absI]
      · simp [a, b, lsum, pa, pb, atI]
    · simp [a, lsum]
theorem woundI_lsum {n : Nat} {t : List (List Int)} (hs : Square n t) : ∀ m, lsum t (woundI t m) = usum (fun i k => if i < k then absI (ent t i k) else 0) n m := by
  intro m
  induction m with
  | zero => rfl
  | succ m ih => rw [woundI, lsum_append, usum, ← ih, hs.len, ← woundK_lsum]
theorem least_lsum {n : Nat} {ls : List RCross} (h : crossOk (n : Int) ls = true) : leastUn (n : Int) ls = lsum (twistTab (n : Int) ls) (woundPs (n : Int) ls) := by
  have F := twistFacts h
  unfold woundPs
  rw [F.least, F.len, woundI_lsum F.sq, usum_dsum (fun i k => absI (ent (twistTab (n : Int) ls) i k))]
  exact dsum_congr fun i k hi hk => by rw [F.sym i k hi (by omega)]
/-- A wound pair: two puppets below n. -/
def PairB (n : Nat) (z : List Int) : Prop := ∃ i k : Nat, z = [(i : Int), (k : Int)] ∧ i < n ∧ k < n
theorem woundK_pair (t : List (List Int)) {i n : Nat} (hi : i < n) : ∀ k, k ≤ n → ∀ z ∈ woundK t i k, PairB n z := by
  intro k
  induction k with
  | zero => exact fun _ z hz => by cases hz
  | succ k ih =>
    intro hk z hz
    rw [woundK] at hz
    rcases List.mem_append.1 hz with c | c
    · exact ih (by omega) z c
    · split at c
      · rw [List.mem_singleton.1 c]; exact ⟨i, k, rfl, hi, by omega⟩
      · cases c
theorem woundI_pair (t : List (List Int)) : ∀ i, i ≤ t.length → ∀ z ∈ woundI t i, PairB t.length z := by
  intro i
  induction i with
  | zero => exact fun _ z hz => by cases hz
  | succ i ih =>
    intro hi z hz
    rw [woundI] at hz
    rcases List.mem_append.1 hz with c | c
    · exact ih (by omega) z c
    · exact woundK_pair t (by omega) _ (Nat.le_refl _) z c
theorem wound_pair {n : Nat} {ls : List RCross} (h : crossOk (n : Int) ls = true) {k : Nat} (hk : k < (woundPs (n : Int) ls).length) : PairB n (woundPs (n : Int) ls)[k] := by
  have := woundI_pair (twistTab (n : Int) ls) _ (Nat.le_refl _) _ (List.getElem_mem hk)
  rwa [(twistFacts h).len] at this
/-- The sum over the first k pairs. -/
def lsumTo (t : List (List Int)) (zs : List (List Int)) (k : Nat) : Int := lsum t (zs.take k)
theorem lsumTo_more (t : List (List Int)) {zs : List (List Int)} {k : Nat} (h : k < zs.length) : lsumTo t zs (k + 1) = lsumTo t zs k + absI (ent t (pa zs[k]) (pb zs[k])) := by
  unfold lsumTo
  rw [List.take_succ_eq_append_getElem h, lsum_append, lsum, lsum]
  omega
theorem lsumTo_small {n : Nat} {t : List (List Int)} {zs : List (List Int)} (hz : ∀ k (h : k < zs.length), PairB n zs[k]) (ht : ∀ i k, i < n → k < n → -40 ≤ ent t i k ∧ ent t i k ≤ 40) :
    ∀ k, k ≤ zs.length → 0 ≤ lsumTo t zs k ∧ lsumTo t zs k ≤ 40 * (k : Int) := by
  intro k
  induction k with
  | zero => intro _; unfold lsumTo; rw [List.take_zero, lsum]; omega
  | succ k ih =>
    intro hk
    have h1 := ih (by omega)
    obtain ⟨i, j, e, hi, hj⟩ := hz k (by omega)
    rw [lsumTo_more t (by omega), e]
    have e1 : pa [(i : Int), (j : Int)] = i := by simp [pa, atI]
    have e2 : pb [(i : Int), (j : Int)] = j := by simp [pb, atI]
    rw [e1, e2]
    have h2 := ht i j hi hj
    unfold absI
    split <;> omega
end Go.Proofs.Ytokgcchcjaimhaa
