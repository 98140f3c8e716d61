/- Texts of this seat laid together, each with its own first sentence below: HomM UnzM EnhI TwbM WndI PrsS TwsS. -/
import Derived.Test.YthijfipjfdmoeaaPk8
import Derived.Test.YthijfipjfdmoeaaPk6
import Derived.Test.YthijfipjfdmoeaaPk5
import Derived.Test.YthijfipjfdmoeaaPk7
import Derived.Test.YthijfipjfdmoeaaPk3
import Derived.Test.YthijfipjfdmoeaaPk4
import Derived.OwnWalk
import Derived.RegionTactic
import Derived.BigRegion
import Derived.StillTailTactics
import Derived.Deep.RegionHeld3
/- The way home: the sorting swaps as crossings lead to the order of the beginning. No condition. -/
namespace Go.Proofs.Ythijfipjfdmoeaa
set_option linter.unusedVariables false
set_option linter.unusedSimpArgs false

theorem front_run {n : Nat} : ∀ {ss zs r : List Int}, zs.length = n → aft zs ss = some r → (frontL ss).foldl stepA zs = r ∧ ∀ l ∈ frontL ss, Fits n l := by
  intro ss
  induction ss with
  | nil =>
    intro zs r _ h
    rw [aft] at h
    exact ⟨Option.some.inj h, fun l hl => by cases hl⟩
  | cons s ss ih =>
    intro zs r hn h
    rw [aft] at h
    cases ht : swapTry zs s with
    | none => rw [ht] at h; cases h
    | some c =>
      rw [ht] at h
      have e1 := (swapR_try (cur := zs) (s := s)).2 c ht
      obtain ⟨_, hr, hc⟩ := try_parts ht
      obtain ⟨i1, i2⟩ := ih (zs := c) (r := r) (by rw [hc, swap_len]; exact hn) h
      have e2 : stepA zs ⟨s, true⟩ = c := by show (swapR zs s).1 = c; rw [e1]
      refine ⟨?_, fun l hl => ?_⟩
      · show (frontL ss).foldl stepA (stepA zs ⟨s, true⟩) = r
        rw [e2]
        exact i1
      · rcases List.mem_cons.1 hl with x | x
        · rw [x]
          exact ⟨hr.1, by show s + 2 ≤ (n : Int); omega⟩
        · exact i2 l x
theorem ord_home {n : Nat} {r : List Int} (h : IsOrd r) (hl : r.length = n) (hi : invs r = 0) : r = startL n := by
  refine List.ext_getElem (by rw [startL_len]; exact hl) fun k h1 h2 => ?_
  have a := sorted_id h hi k h1
  have b := start_at (n := n) (k := k) (by omega)
  rw [atI_of h1] at a
  rw [atI_of h2] at b
  rw [a, b]
/-- Behind the way home all stand as at the beginning. -/
theorem home_facts {N : Nat} {ls : List RCross} (hok : crossOk (N : Int) ls = true) (h5 : N ≤ 5) (h9 : ls.length ≤ 9) :
    crossOk (N : Int) (ls ++ (bringHome (N : Int) ls).1) = true ∧ (ls ++ (bringHome (N : Int) ls).1).foldl stepA (startL N) = startL N ∧ (ls ++ (bringHome (N : Int) ls).1).length ≤ 34 ∧ (bringHome (N : Int) ls).1.length = invs (ordAfter (N : Int) ls) ∧ (bringHome (N : Int) ls).2 = true := by
  obtain ⟨h1, h2, h3, h4⟩ := ok_fits hok
  rw [Int.toNat_natCast] at h1 h4
  have so := start_ord h1
  have sl := startL_len N
  have oo : ordAfter (N : Int) ls = ls.foldl stepA (startL N) := by unfold ordAfter nowAt; rw [if_pos hok, List.take_length, Int.toNat_natCast]
  have io : IsOrd (ordAfter (N : Int) ls) := by rw [oo]; exact run_ord h4 so sl
  have ol : (ordAfter (N : Int) ls).length = N := by rw [oo, foldA_len]; exact sl
  have eb : bringHome (N : Int) ls = (frontL (sortSwaps (ordAfter (N : Int) ls)), true) := by unfold bringHome; rw [if_pos hok]
  have es : sortSwaps (ordAfter (N : Int) ls) = sortS (invs (ordAfter (N : Int) ls)) (ordAfter (N : Int) ls) := by unfold sortSwaps; rw [if_pos (order_iff.2 io)]
  obtain ⟨r, r1, r2, r3, r4, _⟩ := sort_done _ _ io rfl
  rw [← es] at r1
  obtain ⟨f1, f2⟩ := front_run (n := N) ol r1
  have il : invs (ordAfter (N : Int) ls) ≤ 25 := by
    have := inv_le (atI (ordAfter (N : Int) ls)) (ordAfter (N : Int) ls).length
    unfold invs
    rw [ol] at this ⊢
    have h : N * N ≤ 5 * 5 := Nat.mul_le_mul h5 h5
    omega
  have fl : (frontL (sortSwaps (ordAfter (N : Int) ls))).length = invs (ordAfter (N : Int) ls) := by unfold frontL; rw [List.length_map, es, sortS_len]
  rw [eb]
  have ll : (ls ++ frontL (sortSwaps (ordAfter (N : Int) ls))).length ≤ 34 := by rw [List.length_append, fl]; omega
  refine ⟨ok_of h1 (by show (ls ++ frontL (sortSwaps (ordAfter (N : Int) ls))).length ≤ 40; omega) (fun l hl => ?_), ?_, ll, fl, rfl⟩
  · rcases List.mem_append.1 hl with c | c
    · exact h4 l c
    · exact f2 l c
  · rw [List.foldl_append, ← oo, f1]
    exact ord_home r2 (by rw [r4]; exact ol) r3
/-- Who is at home has no way home. -/
theorem home_none {N : Nat} {ls : List RCross} (hok : crossOk (N : Int) ls = true) (hh : ls.foldl stepA (startL N) = startL N) : bringHome (N : Int) ls = ([], true) := by
  obtain ⟨h1, h2, h3, h4⟩ := ok_fits hok
  rw [Int.toNat_natCast] at h1
  have so := start_ord h1
  have sl := startL_len N
  have oo : ordAfter (N : Int) ls = startL N := by unfold ordAfter nowAt; rw [if_pos hok, List.take_length, Int.toNat_natCast]; exact hh
  have iz : invs (startL N) = 0 := inv_none fun i hi => by
    rw [sl] at hi
    rw [start_at (by omega), start_at hi]
    omega
  unfold bringHome
  rw [if_pos hok, oo]
  unfold sortSwaps
  rw [if_pos (order_iff.2 so), iz]
  rfl
end Go.Proofs.Ythijfipjfdmoeaa

/- What FnUntwisting asks: of a full turn, of unwinding, of the way home: plain mathematics. -/
namespace Go.Proofs.Ythijfipjfdmoeaa
set_option linter.unusedVariables false
set_option linter.unusedSimpArgs false
open Go.RowKit

theorem tab_tw {n : Nat} {ls : List RCross} (h : crossOk (n : Int) ls = true) {i k : Nat} (hi : i < n) (hk : k < n) : ent (twistTab (n : Int) ls) i k = tw (startL n) ls i k := by
  have e := ent_tw h (i := i) (k := k) (by rw [Int.toNat_natCast]; exact hi) (by rw [Int.toNat_natCast]; exact hk) ls.length (Nat.le_refl _)
  rw [List.take_length, Int.toNat_natCast] at e
  rw [← e]
  unfold twistTab
  rw [if_pos h]
theorem home_inv {N : Nat} {ls : List RCross} (hok : crossOk (N : Int) ls = true) (hh : ls.foldl stepA (startL N) = startL N) : homeInv (N : Int) ls = 0 := by
  obtain ⟨h1, _⟩ := ok_fits hok
  rw [Int.toNat_natCast] at h1
  have so := start_ord h1
  have sl := startL_len N
  have oo : ordAfter (N : Int) ls = startL N := by unfold ordAfter nowAt; rw [if_pos hok, List.take_length, Int.toNat_natCast]; exact hh
  have iz : invs (startL N) = 0 := inv_none fun i hi => by
    rw [sl] at hi
    rw [start_at (by omega), start_at hi]
    omega
  unfold homeInv
  rw [oo, if_pos (order_iff.2 so), iz]
  rfl
/-- All that FnUntwisting asks of one full turn. -/
structure TurnAll (N i k : Nat) (T : List RCross) (t : List (List Int)) : Prop where
  len : T.length = 2 * (k - i)
  inv : homeInv (N : Int) T = 0
  sq : Square N t
  twist : ∀ a b, a < N → b < a → ent t a b = if a = k ∧ b = i then 2 else 0
theorem turnAll {N i k : Nat} (hN : 2 ≤ N ∧ N ≤ 7) (hik : i < k) (hk : k < N) :
    fullTurn (N : Int) (i : Int) (k : Int) true = (turnL i k true, true) ∧ TurnAll N i k (turnL i k true) (twistTab (N : Int) (turnL i k true)) := by
  have F := turnFacts (show 1 ≤ N ∧ N ≤ 7 by omega) hik hk true
  have hok : crossOk (N : Int) (turnL i k true) = true := ok_of (by omega) (by rw [F.len]; omega) F.ok
  refine ⟨?_, F.len, home_inv hok F.home, ?_, fun a b ha hb => ?_⟩
  · unfold fullTurn
    rw [if_pos ⟨inB_yes (by omega), inB_yes (by omega), inB_yes (by omega)⟩, Int.toNat_natCast, Int.toNat_natCast]
  · exact (twistFacts hok).sq
  · rw [tab_tw hok ha (by omega), F.twist a b hb, if_pos rfl]
/-- A byte modulo a small number, as a number from 0 on. -/
theorem rem_nat {x : Int} {m : Nat} (h0 : 0 ≤ x) (hm : 1 ≤ m) : ∃ q : Nat, x.tmod (m : Int) = (q : Int) ∧ q < m := by
  have h1 := Int.tmod_nonneg (m : Int) h0
  have h2 := Int.tmod_lt_of_pos x (show (0 : Int) < (m : Int) by omega)
  obtain ⟨q, hq⟩ := Int.eq_ofNat_of_zero_le h1
  exact ⟨q, hq, by omega⟩
end Go.Proofs.Ythijfipjfdmoeaa

/- The contract of the program's endsAtHome. Condition: the crossings lie in a row of their own and are valid. -/
namespace Go.Proofs.Ythijfipjfdmoeaa
set_option linter.unusedVariables false
set_option linter.unusedSimpArgs false
open Go.RowKit

theorem same_home {N : Nat} {ls : List RCross} (hok : crossOk (N : Int) ls = true) : sameO (ordAfter (N : Int) ls) (startL N) = decide (homeInv (N : Int) ls = 0) := by
  obtain ⟨h1, _⟩ := ok_fits hok
  rw [Int.toNat_natCast] at h1
  have hl : (ordAfter (N : Int) ls).length = N := by unfold ordAfter; rw [if_pos hok, nowAt_len, Int.toNat_natCast]
  unfold sameO
  by_cases e : ordAfter (N : Int) ls = startL N
  · rw [decide_eq_true e, decide_eq_true]
    have sl := startL_len N
    have iz : invs (startL N) = 0 := inv_none fun i hi => by
      rw [sl] at hi
      rw [start_at (by omega), start_at hi]
      omega
    unfold homeInv
    rw [e, if_pos (order_iff.2 (start_ord h1)), iz]
    rfl
  · rw [decide_eq_false e, decide_eq_false]
    intro h
    unfold homeInv at h
    split at h
    · next ho => exact e (ord_home (order_iff.1 ho) hl (by omega))
    · omega

set_option maxRecDepth 100000 in
set_option maxHeartbeats 1600000 in
theorem implEnd (N : Nat) (v : Value) (ls : List RCross) (b : Nat) (w : World) (h : OwnCross w b v ls) (hok : crossOk (N : Int) ls = true) :
    Calls Try.prog 33 #[.int .i64 (N : Int), v] w fun e w' => e = .returned (.bool (decide (homeInv (N : Int) ls = 0))) ∧ Below w.heap.size w w' := by
  obtain ⟨h1, _, h40, _⟩ := ok_fits hok
  rw [Int.toNat_natCast] at h1
  have CA := Lib.hid (fun W h => implOrdA (N : Int) v ls b W h (by omega))
  have CH := Lib.hid (fun W => homeM (N : Int) W (by omega))
  have R := Lib.hid (same_home hok)
  have hl : (ordAfter (N : Int) ls).length = N := by unfold ordAfter; rw [if_pos hok, nowAt_len, Int.toNat_natCast]
  have CE := Lib.hid (fun v u b1 b2 W h h' => equalO_any v u (ordAfter (N : Int) ls) (startL N) b1 b2 W h h' (by omega) (by rw [startL_len, hl]))
  rw [R.out] at CE
  obtain ⟨A, c, rfl⟩ := h.slice
  have O := Lib.hid h
  clear h hl R
  rw [Int.toNat_natCast] at CH
  generalize ordAfter (N : Int) ls = zs at CA CE
  generalize decide (homeInv (N : Int) ls = 0) = r at CE ⊢
  generalize startL N = ys at CH CE
  go_enter Try.func33, Try.ntmps33
  go_wp2_with fail
  refine (CA.out _ O.out).mono ?_
  rintro e w1 ⟨v1, rfl, o1, b1⟩
  go_wp2_with fail
  refine (CH.out _).mono ?_
  rintro e w2 ⟨v2, rfl, o2, b2⟩
  go_wp2_with fail
  refine (CE.out _ _ _ _ _ (o1.below b2) o2).mono ?_
  rintro e w3 ⟨rfl, b3⟩
  have B := Lib.hid (b1.trans ((b2.mono b1.size).trans (b3.mono (Nat.le_trans b1.size b2.size))))
  clear o1 o2 b1 b2 b3
  go_wp2
  go_ret
  exact ⟨rfl, B.out⟩
end Go.Proofs.Ythijfipjfdmoeaa

/- The program's way to TwistTable, IsUntwisted and LeastUndoing as mathematics: part of the flat table is a row; no wound pair leaves the order as before; the sum over the wound pairs. No condition. -/
namespace Go.Proofs.Ythijfipjfdmoeaa
set_option linter.unusedVariables false
set_option linter.unusedSimpArgs false
open Go.RowKit

theorem aft_row {n : Int} {ls : List RCross} (h : crossOk n ls = true) {i : Nat} (hi : i < n.toNat) : ((aftTo n ls ls.length).drop (i * 7)).take n.toNat = (twistTab n ls).getD i [] := by
  obtain ⟨⟨_, hn7⟩, _, _, _⟩ := ok_fits h
  have sq := tab_square h ls.length (Nat.le_refl _)
  have hl := aft_len n ls ls.length
  have e : twistTab n ls = tabTo n ls ls.length := by unfold twistTab; rw [if_pos h]
  rw [e, getD_row (by rw [sq.len]; exact hi)]
  have hr := sq.row i (by rw [sq.len]; exact hi)
  apply List.ext_getElem
  · rw [List.length_take, List.length_drop, hl, hr]
    omega
  · intro k h1 h2
    rw [hr] at h2
    have a := aft_ent h hi h2 ls.length (Nat.le_refl _)
    rw [ent_of (by rw [sq.len]; exact hi) (by rw [hr]; exact h2), atI_of (by omega)] at a
    rw [List.getElem_take, List.getElem_drop]
    exact a
theorem rsum_pos {f : Nat → Nat → Int} {i : Nat} (hp : ∀ i k, 0 ≤ f i k) : ∀ m, 0 ≤ rsum f i m := by
  intro m
  induction m with
  | zero => rw [rsum]; omega
  | succ m ih => have := hp i m; rw [rsum]; omega
theorem dsum_pos {f : Nat → Nat → Int} (hp : ∀ i k, 0 ≤ f i k) : ∀ n, 0 ≤ dsum f n := by
  intro n
  induction n with
  | zero => rw [dsum]; omega
  | succ n ih => have := rsum_pos (i := n) hp n; rw [dsum]; omega
theorem rsum_nil {f : Nat → Nat → Int} {i : Nat} (hp : ∀ i k, 0 ≤ f i k) : ∀ m, rsum f i m = 0 → ∀ k, k < m → f i k = 0 := by
  intro m
  induction m with
  | zero => intro _ k hk; omega
  | succ m ih =>
    intro h k hk
    have h1 := hp i m
    have h2 := rsum_pos (i := i) hp m
    rw [rsum] at h
    by_cases e : k = m
    · subst e; omega
    · exact ih (by omega) k (by omega)
theorem dsum_nil {f : Nat → Nat → Int} (hp : ∀ i k, 0 ≤ f i k) : ∀ n, dsum f n = 0 → ∀ i k, i < n → k < i → f i k = 0 := by
  intro n
  induction n with
  | zero => intro _ i k hi; omega
  | succ n ih =>
    intro h i k hi hk
    have h1 := dsum_pos hp n
    have h2 := rsum_pos (i := n) hp n
    rw [dsum] at h
    by_cases e : i = n
    · subst e; exact rsum_nil hp i (by omega) k hk
    · exact ih (by omega) i k (by omega) hk
/-- The order is as before where no pair is wound. -/
theorem untw_wound (n : Int) (ls : List RCross) : untw n ls = (crossOk n ls && decide ((woundPs n ls).length = 0)) := by
  by_cases h : crossOk n ls = true
  rotate_left
  · unfold untw
    rw [Bool.eq_false_iff.2 h]
    rfl
  obtain ⟨h1, h2, h3, h4⟩ := ok_fits h
  obtain ⟨N, rfl⟩ : ∃ N : Nat, n = (N : Int) := ⟨n.toNat, h2.symm⟩
  rw [Int.toNat_natCast] at h1 h4
  unfold untw
  rw [h, Bool.true_and, Bool.true_and]
  by_cases hw : (woundPs (N : Int) ls).length = 0
  rotate_left
  · rw [decide_eq_false hw, Bool.and_false]
  rw [decide_eq_true hw, Bool.and_true]
  have F := twistFacts h
  have so := start_ord h1
  have sl := startL_len N
  have e1 : ordAfter (N : Int) ls = ls.foldl stepA (startL N) := by unfold ordAfter nowAt; rw [if_pos h, List.take_length, Int.toNat_natCast]
  have oo : IsOrd (ordAfter (N : Int) ls) := by rw [e1]; exact run_ord h4 so sl
  have ol : (ordAfter (N : Int) ls).length = N := by rw [e1, foldA_len]; exact sl
  have wz := F.wound
  rw [hw] at wz
  have z := dsum_nil (f := wnd (twistTab (N : Int) ls)) (fun i k => by unfold wnd; split <;> omega) N (by omega)
  have pl : ∀ x : Nat, placeOf (ordAfter (N : Int) ls) (x : Int) = pos (ordAfter (N : Int) ls) x := fun x => by unfold placeOf pos; rw [if_pos (order_iff.2 oo)]
  have up : ∀ i k, i < N → k < i → pos (ordAfter (N : Int) ls) k < pos (ordAfter (N : Int) ls) i := by
    intro i k hi hk
    have e := z i k hi hk
    have e0 : ent (twistTab (N : Int) ls) i k = 0 := by
      unfold wnd at e
      split at e
      · assumption
      · omega
    have a := (F.even i k hi hk).1 (by rw [e0]; rfl)
    rwa [pl, pl] at a
  have iz : invs (ordAfter (N : Int) ls) = 0 := by
    generalize ordAfter (N : Int) ls = o at oo ol up
    refine inv_none fun p hp => ?_
    obtain ⟨o1, o2⟩ := ord_at oo
    obtain ⟨a, ha⟩ := Int.eq_ofNat_of_zero_le (o1 p (by omega)).1
    obtain ⟨b, hb⟩ := Int.eq_ofNat_of_zero_le (o1 (p + 1) hp).1
    have a1 := (o1 p (by omega)).2
    have b1 := (o1 (p + 1) hp).2
    by_cases c : b < a
    · have q := up a b (by omega) c
      rw [pos_at oo (p := p) (by omega) ha, pos_at oo hp hb] at q
      omega
    · rw [ha, hb]
      omega
  rw [if_pos (order_iff.2 oo), iz]
  rfl
/-- What a row of pairs adds up to. -/
def lsum (t : List (List Int)) : List (List Int) → Int
  | [] => 0
  | z :: zs => absI (ent t (pa z) (pb z)) + lsum t zs
theorem lsum_append (t : List (List Int)) (xs ys : List (List Int)) : lsum t (xs ++ ys) = lsum t xs + lsum t ys := by
  induction xs with
  | nil => simp [lsum]
  | cons x xs ih => rw [List.cons_append, lsum, lsum, ih]; omega
theorem woundK_lsum (t : List (List Int)) (i : Nat) : ∀ k, lsum t (woundK t i k) = rsum (fun i k => if i < k then absI (ent t i k) else 0) i k := by
  intro k
  induction k with
  | zero => rfl
  | succ k ih =>
    rw [woundK, lsum_append, rsum, ← ih]
    by_cases a : i < k
    · by_cases b : ent t i k = 0
      · simp [a, b, lsum, absI]
      · simp [a, b, lsum, pa, pb, atI]
    · simp [a, lsum]
theorem woundI_lsum {n : Nat} {t : List (List Int)} (hs : Square n t) : ∀ m, lsum t (woundI t m) = usum (fun i k => if i < k then absI (ent t i k) else 0) n m := by
  intro m
  induction m with
  | zero => rfl
  | succ m ih => rw [woundI, lsum_append, usum, ← ih, hs.len, ← woundK_lsum]
theorem least_lsum {n : Nat} {ls : List RCross} (h : crossOk (n : Int) ls = true) : leastUn (n : Int) ls = lsum (twistTab (n : Int) ls) (woundPs (n : Int) ls) := by
  have F := twistFacts h
  unfold woundPs
  rw [F.least, F.len, woundI_lsum F.sq, usum_dsum (fun i k => absI (ent (twistTab (n : Int) ls) i k))]
  exact dsum_congr fun i k hi hk => by rw [F.sym i k hi (by omega)]
/-- A wound pair: two puppets below n. -/
def PairB (n : Nat) (z : List Int) : Prop := ∃ i k : Nat, z = [(i : Int), (k : Int)] ∧ i < n ∧ k < n
theorem woundK_pair (t : List (List Int)) {i n : Nat} (hi : i < n) : ∀ k, k ≤ n → ∀ z ∈ woundK t i k, PairB n z := by
  intro k
  induction k with
  | zero => exact fun _ z hz => by cases hz
  | succ k ih =>
    intro hk z hz
    rw [woundK] at hz
    rcases List.mem_append.1 hz with c | c
    · exact ih (by omega) z c
    · split at c
      · rw [List.mem_singleton.1 c]; exact ⟨i, k, rfl, hi, by omega⟩
      · cases c
theorem woundI_pair (t : List (List Int)) : ∀ i, i ≤ t.length → ∀ z ∈ woundI t i, PairB t.length z := by
  intro i
  induction i with
  | zero => exact fun _ z hz => by cases hz
  | succ i ih =>
    intro hi z hz
    rw [woundI] at hz
    rcases List.mem_append.1 hz with c | c
    · exact ih (by omega) z c
    · exact woundK_pair t (by omega) _ (Nat.le_refl _) z c
theorem wound_pair {n : Nat} {ls : List RCross} (h : crossOk (n : Int) ls = true) {k : Nat} (hk : k < (woundPs (n : Int) ls).length) : PairB n (woundPs (n : Int) ls)[k] := by
  have := woundI_pair (twistTab (n : Int) ls) _ (Nat.le_refl _) _ (List.getElem_mem hk)
  rwa [(twistFacts h).len] at this
/-- The sum over the first k pairs. -/
def lsumTo (t : List (List Int)) (zs : List (List Int)) (k : Nat) : Int := lsum t (zs.take k)
theorem lsumTo_more (t : List (List Int)) {zs : List (List Int)} {k : Nat} (h : k < zs.length) : lsumTo t zs (k + 1) = lsumTo t zs k + absI (ent t (pa zs[k]) (pb zs[k])) := by
  unfold lsumTo
  rw [List.take_succ_eq_append_getElem h, lsum_append, lsum, lsum]
  omega
theorem lsumTo_small {n : Nat} {t : List (List Int)} {zs : List (List Int)} (hz : ∀ k (h : k < zs.length), PairB n zs[k]) (ht : ∀ i k, i < n → k < n → -40 ≤ ent t i k ∧ ent t i k ≤ 40) :
    ∀ k, k ≤ zs.length → 0 ≤ lsumTo t zs k ∧ lsumTo t zs k ≤ 40 * (k : Int) := by
  intro k
  induction k with
  | zero => intro _; unfold lsumTo; rw [List.take_zero, lsum]; omega
  | succ k ih =>
    intro hk
    have h1 := ih (by omega)
    obtain ⟨i, j, e, hi, hj⟩ := hz k (by omega)
    rw [lsumTo_more t (by omega), e]
    have e1 : pa [(i : Int), (j : Int)] = i := by simp [pa, atI]
    have e2 : pb [(i : Int), (j : Int)] = j := by simp [pb, atI]
    rw [e1, e2]
    have h2 := ht i j hi hj
    unfold absI
    split <;> omega
end Go.Proofs.Ythijfipjfdmoeaa

/- The contract of impl.WoundPairs. Condition: the crossings lie in a row of their own. -/
namespace Go.Proofs.Ythijfipjfdmoeaa
set_option linter.unusedVariables false
set_option linter.unusedSimpArgs false
open Go.RowKit

set_option maxRecDepth 100000 in
set_option maxHeartbeats 3200000 in
theorem implWnd (n : Int) (v : Value) (ls : List RCross) (b : Nat) (w : World) (h : OwnCross w b v ls) (hl : ls.length ≤ 2000000) :
    Calls Try.prog 34 #[.int .i64 n, v] w (RowsPost w (woundPs n ls)) := by
  have CK := Lib.hid (fun W h => implCrOk n v ls b W h hl)
  have CA := Lib.hid (fun W h => implAft n v ls b W h hl)
  obtain ⟨A, c, rfl⟩ := h.slice
  have O := Lib.hid h
  clear h
  cases hc : crossOk n ls with
  | false =>
    have R := Lib.hid (show woundPs n ls = [] by
      have e : twistTab n ls = [] := by unfold twistTab; rw [hc]; rfl
      unfold woundPs
      rw [e]
      rfl)
    rw [hc] at CK
    go_enter Try.func34, Try.ntmps34
    go_wp2_with (go_at_call 32; refine (CK.out _ O.out).mono ?_; rintro e w1 ⟨rfl, b1⟩; have B1 := Lib.hid b1; clear b1)
    go_ret
    exact ⟨_, rfl, by rw [R.out]; exact ⟨[], ⟨rfl, .inl ⟨rfl, rfl⟩⟩, rfl, fun k hk => absurd hk (by simp), fun k hk => absurd hk (by simp), fun i j hi => absurd hi (by simp)⟩, B1.out⟩
  | true =>
    obtain ⟨hn7, hnn, h40, -⟩ := ok_fits hc
    obtain ⟨N, hN⟩ : ∃ N : Nat, n = (N : Int) := ⟨n.toNat, hnn.symm⟩
    subst hN
    rw [Int.toNat_natCast] at hn7
    have CA := Lib.hid (fun W h => CA.out W h hc)
    have te : twistTab (N : Int) ls = tabTo (N : Int) ls ls.length := by unfold twistTab; rw [if_pos hc]
    have EN := Lib.hid (show ∀ p q, p < N → q < N → atI (aftTo (N : Int) ls ls.length) (p * 7 + q) = ent (twistTab (N : Int) ls) p q from fun p q hp hq => by rw [te]; exact aft_ent hc (by rw [Int.toNat_natCast]; exact hp) (by rw [Int.toNat_natCast]; exact hq) ls.length (Nat.le_refl _))
    have tl : (twistTab (N : Int) ls).length = N := by
      have := (tab_square hc ls.length (Nat.le_refl _)).len
      rw [te, this, Int.toNat_natCast]
    have al := aft_len (N : Int) ls ls.length
    have R := Lib.hid (show woundPs (N : Int) ls = woundI (twistTab (N : Int) ls) (twistTab (N : Int) ls).length from rfl)
    rw [hc] at CK
    clear te
    generalize twistTab (N : Int) ls = t at R EN tl
    generalize aftTo (N : Int) ls ls.length = T at CA EN al
    obtain ⟨hci, hca⟩ := arrT_cells T al
    have hcs : (49 : Nat) = (T.map intV).toArray.size := by simp [al]
    have HN := Lib.hid tl
    have AL := Lib.hid al
    clear hc hnn tl al
    go_enter Try.func34, Try.ntmps34
    go_wp2_with (first
      | (go_at_call 32; refine (CK.out _ O.out).mono ?_; rintro e w1 ⟨rfl, b1⟩; have B1 := Lib.hid b1; clear b1)
      | (go_at_call 57; refine (CA.out _ (O.out.below B1.out)).mono ?_; rintro e w2 ⟨rfl, b2⟩; have B2 := Lib.hid (B1.out.trans (b2.mono B1.out.size)); clear b2)
      | (refine wpList_store_new rfl 75 75 _ _ rfl _ ((T.map intV).toArray) rfl rfl hci hcs hca ?_))
    have A3 := Lib.hid (arrT_one w2 w.heap.size T AL.out B2.out.size)
    have B3 := Lib.hid (B2.out.alloc B2.out.size (.cells (T.map intV).toArray 75))
    have E3 := Lib.hid (show OwnR (w2.alloc (.cells (T.map intV).toArray 75)) (w2.heap.size + 1) (.slice none 0 0) [] from ⟨[], ⟨rfl, .inl ⟨rfl, rfl⟩⟩, rfl, fun k hk => absurd hk (by simp), fun k hk => absurd hk (by simp), fun i j hi => absurd hi (by simp)⟩)
    have hs0 := B2.out.size
    clear B1 B2 CK CA hci hca hcs
    generalize hW : w2.alloc (.cells (T.map intV).toArray 75) = w3 at A3 B3 E3 ⊢
    clear hW
    generalize w2.heap.size = g at *
    go_loopw [6, 17] (fun ov iv wr => ∃ (i : Nat) (vo : Value), vo = ov ∧ i ≤ N ∧ iv = .int .i64 (i : Int) ∧ Hid (ArrT wr w.heap.size g T) ∧ Hid (OwnR wr (g + 1) vo (woundI t i)) ∧ Hid (Below w.heap.size w wr)) (fun _ iv _ => N - (intOf iv).toNat)
    case atStart => exact ⟨0, _, rfl, by omega, rfl, A3, E3, B3⟩
    case round =>
      clear A3 E3 B3
      obtain ⟨i, vo, rfl, hi, rfl, AT, OO, BW⟩ := hrel
      by_cases hlt : i < N
      rotate_left
      · obtain rfl : i = N := by omega
        have R2 := Lib.hid (show woundPs (i : Int) ls = woundI t i by rw [R.out, HN.out])
        go_wp2
        go_ret
        exact ⟨_, rfl, by rw [R2.out]; exact OO.out.mono (by omega), BW.out⟩
      have hi0 : (0 : Int) ≤ (i : Int) := by omega
      have hi1 : (i : Int) < (N : Int) := by omega
      have hi7 : (i : Int) < 7 := by omega
      have e1 : IntKind.i64.wrap ((i : Int) + 1) = ((i + 1 : Nat) : Int) := by rw [IntWalk.i64_in _ (by omega)]; omega
      have K0 := Lib.hid (show woundI t i ++ woundK t i (i + 1) = woundI t i by rw [woundK_low t i (i + 1) (Nat.le_refl _), List.append_nil])
      have K1 := Lib.hid (show woundI t (i + 1) = woundI t i ++ woundK t i N by rw [woundI, HN.out])
      have KL := Lib.hid (fun k => woundK_len t i k)
      have IL := woundI_len t i
      rw [HN.out] at IL
      have hil : (woundI t i).length ≤ 49 := by
        have : i * N ≤ 7 * 7 := Nat.mul_le_mul (by omega) hn7.2
        omega
      have HL := Lib.hid hil
      clear IL hil
      rw [← K0.out] at OO
      go_wp2_with fail
      go_loopw [6, 8] (fun ov kv wr => ∃ (k : Nat) (vo : Value), vo = ov ∧ i + 1 ≤ k ∧ k ≤ N ∧ kv = .int .i64 (k : Int) ∧ Hid (ArrT wr w.heap.size g T) ∧ Hid (OwnR wr (g + 1) vo (woundI t i ++ woundK t i k)) ∧ Hid (Below w.heap.size w wr)) (fun _ kv _ => N - (intOf kv).toNat)
      case atStart => exact ⟨i + 1, _, rfl, Nat.le_refl _, by omega, by go_num, AT, OO, BW⟩
      case round =>
        clear OO AT BW K0 e1
        obtain ⟨k, vo, rfl, hk1, hk, rfl, AT, OO, BW⟩ := hrel
        by_cases hlk : k < N
        rotate_left
        · obtain rfl : k = N := by omega
          go_wp2
          exact ⟨⟨i + 1, _, rfl, by omega, by go_num, AT, Lib.hid (by rw [K1.out]; exact OO.out), BW⟩, by simp [intOf]; omega⟩
        have hk0 : (0 : Int) ≤ (k : Int) := by omega
        have hk3 : (k : Int) < (N : Int) := by omega
        have hk7 : (k : Int) < 7 := by omega
        have KK := Lib.hid (show woundK t i (k + 1) = woundK t i k ++ if ent t i k ≠ 0 then [[(i : Int), (k : Int)]] else [] by rw [woundK]; simp only [show i < k by omega, true_and])
        have hkl := KL.out k
        have hil := HL.out
        have x0 := (AT.out.spot (k := i * 7 + k) (by omega)).1
        rw [EN.out i k hlt hlk] at x0
        have hsz := BW.out.size
        have hgs := AT.out.lt.2
        have hll : (woundI t i ++ woundK t i k).length ≤ 4000000 := by rw [List.length_append]; omega
        generalize ent t i k = z at x0 KK
        clear hkl hil
        by_cases hz : z = 0
        · subst hz
          have K2 := Lib.hid (show woundI t i ++ woundK t i (k + 1) = woundI t i ++ woundK t i k by rw [KK.out, if_neg (by simp), List.append_nil])
          go_wp2
          exact ⟨⟨k + 1, _, rfl, by omega, by omega, by go_num, AT, Lib.hid (by rw [K2.out]; exact OO.out), BW⟩, by simp [intOf]; omega⟩
        · have K2 := Lib.hid (show woundI t i ++ woundK t i (k + 1) = woundI t i ++ woundK t i k ++ [[(i : Int), (k : Int)]] by rw [KK.out, if_pos hz, List.append_assoc])
          have hzb : (z != 0) = true := by simpa using hz
          have TW := Lib.hid (twoI wr wr.heap.size (i : Int) (k : Int) (Nat.le_refl _))
          have NX := Lib.hid (fun u => (oneRow (wr.alloc (.cells #[.int .i64 (i : Int), .int .i64 (k : Int)] 3)) u wr.heap.size (by simp)))
          have BB := Lib.hid (fun u => (((Below.refl wr.heap.size wr).alloc (Nat.le_refl _) (.cells #[.int .i64 (i : Int), .int .i64 (k : Int)] 3)).alloc (by simp) (.cells #[u] 36)))
          simp only [World.size_alloc] at NX
          clear hz KK
          go_wp2_with (at_builtin; refine wpList_rowR rfl (.tmp 33) (.tmp 37) rfl wr (g + 1) wr.heap.size vo (.slice (some ⟨wr.heap.size + 1, 0, none⟩) 1 1) (.slice (some ⟨wr.heap.size, 0, none⟩) 2 2) (woundI t i ++ woundK t i k) [(i : Int), (k : Int)] rfl rfl OO.out (BB.out _) (TW.out.alloc _) hgs (NX.out _) hll ?_; intro v3 w3 o3 g3 hat3; have B3 := Lib.hid (((BW.out.alloc hsz _).alloc (by simp; omega) _).grown g3 (by simp; omega) (fun q hq => by have := (OO.out.lt q hq).1; omega)); have M3 := Lib.hid ((AT.out.below (BB.out _)).kept g3 (fun e => by have := (OO.out.lt g e.symm).1; omega)); have O3 := Lib.hid (K2.out ▸ o3); clear o3 g3 hat3)
          exact ⟨⟨k + 1, _, rfl, by omega, by omega, by go_num, M3, O3, B3⟩, by simp [intOf]; omega⟩
end Go.Proofs.Ythijfipjfdmoeaa

/- The contract of spec.PairsOf. Condition: the crossings lie in a row of their own. -/
namespace Go.Proofs.Ythijfipjfdmoeaa
set_option linter.unusedVariables false
set_option linter.unusedSimpArgs false
open Go.RowKit

set_option maxRecDepth 100000 in
set_option maxHeartbeats 3200000 in
theorem specPairs (n : Int) (v : Value) (ls : List RCross) (b : Nat) (w : World) (h : OwnCross w b v ls) (hl : ls.length ≤ 2000000) :
    Calls Try.prog 42 #[.int .i64 n, v] w (RowsPost w (pairsOf n ls)) := by
  have CK := Lib.hid (fun W h => specCrOk n v ls b W h hl)
  obtain ⟨A, c, rfl⟩ := h.slice
  have O := Lib.hid h
  clear h
  have E0 := Lib.hid (emptyR w w.heap.size w.heap.size #[] rfl (Nat.le_refl _) rfl)
  have B0 := Lib.hid ((Below.refl w.heap.size w).alloc (Nat.le_refl _) (.cells #[] 36))
  have OA := Lib.hid (O.out.alloc (.cells #[] 36))
  cases hc : crossOk n ls with
  | false =>
    have R := Lib.hid (show pairsOf n ls = [] by unfold pairsOf; rw [hc]; rfl)
    rw [hc] at CK
    go_enter Try.func42, Try.ntmps42
    go_wp2_with fail
    refine (CK.out _ OA.out).mono ?_
    rintro e w1 ⟨rfl, b1⟩
    have B1 := Lib.hid (B0.out.trans (b1.mono B0.out.size))
    have E1 := Lib.hid (E0.out.below b1)
    clear b1
    go_wp2
    go_ret
    exact ⟨_, rfl, by rw [R.out]; exact E1.out, B1.out⟩
  | true =>
    have hn := (crossOk_has hc).1
    have hn' : 1 ≤ n ∧ n ≤ 7 := by
      unfold inB at hn
      exact of_decide_eq_true hn
    have h40 := (crossOk_has hc).2.1
    have AT := Lib.hid (crossOk_has hc).2.2
    have R := Lib.hid (show pairsOf n ls = pairsTo n ls ls.length by unfold pairsOf; rw [if_pos hc])
    rw [hc] at CK
    have ST := Lib.hid (fun W => specStart n W hn')
    have NL := Lib.hid (fun k => nowAt_len n ls k)
    have NZ := Lib.hid (nowAt_zero n ls)
    clear hn hc
    go_enter Try.func42, Try.ntmps42
    go_wp2_with fail
    refine (CK.out _ OA.out).mono ?_
    rintro e w1 ⟨rfl, b1⟩
    have hb1 := b1.size
    simp only [World.size_alloc] at hb1
    have B1 := Lib.hid (B0.out.trans (b1.mono B0.out.size))
    have E1 := Lib.hid (E0.out.below b1)
    clear b1 CK E0 B0 OA
    go_wp2_with fail
    refine (ST.out _).mono ?_
    rintro e w2 ⟨v0, rfl, o0, b2⟩
    have B2 := Lib.hid (B1.out.trans (b2.mono B1.out.size))
    have E2 := Lib.hid (E1.out.below b2)
    have S0 := Lib.hid (show v0.ownBlock = none ∨ v0.ownBlock ≠ (Value.slice (some ⟨w.heap.size, 0, none⟩) 0 0).ownBlock from sep_of fun b e1 e2 => by have := (o0.lt b e1).1; have : w.heap.size = b := Option.some.inj e2; omega)
    have O0 := Lib.hid (show OwnI w2 w.heap.size v0 (nowAt n ls 0) by rw [NZ.out]; exact o0.mono B1.out.size)
    clear b2 o0 B1 E1 hb1
    go_wp2_with fail
    go_loopw [5, 6, 7] (fun ov nv iv wr => ∃ (k : Nat) (vo vn : Value), vo = ov ∧ vn = nv ∧ k ≤ ls.length ∧ iv = .int .i64 (k : Int) ∧ Hid (OwnR wr w.heap.size vo (pairsTo n ls k)) ∧ Hid (OwnI wr w.heap.size vn (nowAt n ls k)) ∧ Hid (vn.ownBlock = none ∨ vn.ownBlock ≠ vo.ownBlock) ∧ Hid (Below w.heap.size w wr)) (fun _ _ iv _ => ls.length - (intOf iv).toNat)
    case atStart => exact ⟨0, _, _, rfl, rfl, by omega, rfl, E2, O0, S0, B2⟩
    case round =>
      clear O0 B2 E2 S0
      obtain ⟨k, vo, vn, rfl, rfl, hk, rfl, OO, ON, SE, BW⟩ := hrel
      by_cases hlt : k < ls.length
      rotate_left
      · obtain rfl : k = ls.length := by omega
        go_wp2
        go_ret
        exact ⟨_, rfl, by rw [R.out]; exact OO.out, BW.out⟩
      have hk0 : (0 : Int) ≤ (k : Int) := by omega
      have hk1 : (k : Int) < (ls.length : Int) := by omega
      obtain ⟨gl, _, f1, _, lt1, z0, _⟩ := O.out.spot hlt
      simp only [Value.slice.injEq] at f1
      obtain ⟨rfl, -, rfl⟩ := f1
      have LC := Lib.hid (fun W (hb : Below w.heap.size w W) => (show W.cell? ⟨gl, k * 2, none⟩ = some (.int .i64 ls[k].f0) ∧ W.cell? ⟨gl, k * 2 + 1, none⟩ = some (.bool ls[k].f1) from ⟨(z0.below hb lt1) 0 _ rfl, (z0.below hb lt1) 1 _ rfl⟩))
      have hx := AT.out k hlt
      have hx := of_decide_eq_true (show decide (0 ≤ ls[k].f0 ∧ ls[k].f0 ≤ n - 2) = true from hx)
      have SW := Lib.hid (fun W h => specSwap vn (nowAt n ls k) ls[k].f0 w.heap.size W h (by rw [NL.out]; omega))
      have NM := Lib.hid (show nowAt n ls (k + 1) = (swapR (nowAt n ls k) ls[k].f0).1 from nowAt_more n hlt)
      have PM := Lib.hid (show pairsTo n ls (k + 1) = pairsTo n ls k ++ [pairC (nowAt n ls k) ⟨ls[k].f0, ls[k].f1⟩] from pairsTo_more n hlt)
      have hzl := NL.out k
      have hpl : (pairsTo n ls k).length ≤ 40 := by rw [pairsTo_len]; omega
      generalize nowAt n ls k = zs at ON SW NM PM hzl
      generalize pairsTo n ls k = ps at OO PM hpl
      generalize swapR zs ls[k].f0 = rr at SW NM
      obtain ⟨ys, rb⟩ := rr
      unfold IntsB at SW
      dsimp only at SW NM
      generalize ls[k].f0 = x at LC SW PM hx
      generalize ls[k].f1 = y at LC PM
      obtain ⟨i, rfl⟩ := Int.eq_ofNat_of_zero_le hx.1
      have hi : i + 1 < zs.length := by omega
      obtain ⟨gn, cn, rfl, _, _, p0, _⟩ := ON.out.spot (k := i) (by omega)
      obtain ⟨gn2, cn2, e2, _, _, p1, _⟩ := ON.out.spot (k := i + 1) hi
      simp only [Value.slice.injEq, Option.some.injEq, Addr.mk.injEq, and_true, true_and] at e2
      obtain ⟨rfl, -⟩ := e2
      have hi0 : (0 : Int) ≤ (i : Int) := by omega
      have hi1 : (i : Int) < (zs.length : Int) := by omega
      have hi2 : (i : Int) + 1 < (zs.length : Int) := by omega
      have e1 : IntKind.i64.wrap ((i : Int) + 1) = (i : Int) + 1 := IntWalk.i64_in _ (by omega)
      have PC := Lib.hid (show pairC zs ⟨(i : Int), y⟩ = if y = true then [zs[i], zs[i + 1]] else [zs[i + 1], zs[i]] by unfold pairC; rw [Int.toNat_natCast, atI_of hi, atI_of (by omega)])
      rw [PC.out] at PM
      generalize zs[i] = a at p0 PM
      generalize zs[i + 1] = d at p1 PM
      clear PC hx z0 hzl
      obtain ⟨r0, r1⟩ := LC.out _ BW.out
      have hsz := BW.out.size
      have TW := Lib.hid (fun a d => twoI wr wr.heap.size a d (Nat.le_refl _))
      have NX := Lib.hid (fun a d u => (oneRow (wr.alloc (.cells #[.int .i64 a, .int .i64 d] 3)) u wr.heap.size (by simp)))
      have BB := Lib.hid (fun a d u => (((Below.refl wr.heap.size wr).alloc (Nat.le_refl _) (.cells #[.int .i64 a, .int .i64 d] 3)).alloc (by simp) (.cells #[u] 36)))
      simp only [World.size_alloc] at NX
      cases y with
      | true =>
        have PM := Lib.hid (show pairsTo n ls (k + 1) = ps ++ [[a, d]] from PM.out)
        go_wp2_with (at_builtin; refine wpList_rowR rfl (.tmp 49) (.tmp 53) rfl wr w.heap.size wr.heap.size vo (.slice (some ⟨wr.heap.size + 1, 0, none⟩) 1 1) (.slice (some ⟨wr.heap.size, 0, none⟩) 2 2) ps [a, d] rfl rfl OO.out (BB.out a d _) ((TW.out a d).alloc _) hsz (NX.out a d _) (by omega) ?_; intro v3 w3 o3 g3 hat3; have B3 := Lib.hid (((BW.out.alloc hsz _).alloc (by simp; omega) _).grown g3 (by simp; omega) (fun k hk => (OO.out.lt k hk).1)); have N3 := Lib.hid (((ON.out.alloc _).alloc _).kept g3 SE.out); obtain ⟨q0, q1⟩ := LC.out _ B3.out; have O3 := Lib.hid (PM.out ▸ o3); clear o3 g3 hat3)
        refine (SW.out _ N3.out).mono ?_
        rintro e w4 ⟨v4, rfl, o4, b4⟩
        have B4 := Lib.hid (B3.out.trans (b4.mono B3.out.size))
        have O4 := Lib.hid (O3.out.below b4)
        have N4 := Lib.hid (show OwnI w4 w.heap.size v4 (nowAt n ls (k + 1)) by rw [NM.out]; exact o4.mono B3.out.size)
        have S4 := Lib.hid (show v4.ownBlock = none ∨ v4.ownBlock ≠ v3.ownBlock from sep_of fun b e1 e2 => by have := (o4.lt b e1).1; have := (O3.out.lt b e2).2; omega)
        clear b4 o4 OO ON BW SW SE
        go_wp2
        exact ⟨⟨k + 1, v3, v4, rfl, rfl, by omega, by go_num, O4, N4, S4, B4⟩, by simp [intOf]; omega⟩
      | false =>
        have PM := Lib.hid (show pairsTo n ls (k + 1) = ps ++ [[d, a]] from PM.out)
        go_wp2_with (at_builtin; refine wpList_rowR rfl (.tmp 49) (.tmp 53) rfl wr w.heap.size wr.heap.size vo (.slice (some ⟨wr.heap.size + 1, 0, none⟩) 1 1) (.slice (some ⟨wr.heap.size, 0, none⟩) 2 2) ps [d, a] rfl rfl OO.out (BB.out d a _) ((TW.out d a).alloc _) hsz (NX.out d a _) (by omega) ?_; intro v3 w3 o3 g3 hat3; have B3 := Lib.hid (((BW.out.alloc hsz _).alloc (by simp; omega) _).grown g3 (by simp; omega) (fun k hk => (OO.out.lt k hk).1)); have N3 := Lib.hid (((ON.out.alloc _).alloc _).kept g3 SE.out); obtain ⟨q0, q1⟩ := LC.out _ B3.out; have O3 := Lib.hid (PM.out ▸ o3); clear o3 g3 hat3)
        refine (SW.out _ N3.out).mono ?_
        rintro e w4 ⟨v4, rfl, o4, b4⟩
        have B4 := Lib.hid (B3.out.trans (b4.mono B3.out.size))
        have O4 := Lib.hid (O3.out.below b4)
        have N4 := Lib.hid (show OwnI w4 w.heap.size v4 (nowAt n ls (k + 1)) by rw [NM.out]; exact o4.mono B3.out.size)
        have S4 := Lib.hid (show v4.ownBlock = none ∨ v4.ownBlock ≠ v3.ownBlock from sep_of fun b e1 e2 => by have := (o4.lt b e1).1; have := (O3.out.lt b e2).2; omega)
        clear b4 o4 OO ON BW SW SE
        go_wp2
        exact ⟨⟨k + 1, v3, v4, rfl, rfl, by omega, by go_num, O4, N4, S4, B4⟩, by simp [intOf]; omega⟩
end Go.Proofs.Ythijfipjfdmoeaa

/- The contract of spec.TwistTable. Condition: the crossings lie in a row of their own. -/
namespace Go.Proofs.Ythijfipjfdmoeaa
set_option linter.unusedVariables false
set_option linter.unusedSimpArgs false
open Go.RowKit

set_option maxRecDepth 100000 in
set_option maxHeartbeats 3200000 in
theorem specTab (n : Int) (v : Value) (ls : List RCross) (b : Nat) (w : World) (h : OwnCross w b v ls) (hl : ls.length ≤ 2000000) :
    Calls Try.prog 15 #[.int .i64 n, v] w (RowsPost w (twistTab n ls)) := by
  have CK := Lib.hid (fun W h => specCrOk n v ls b W h hl)
  have CP := Lib.hid (fun W h => specPairs n v ls b W h hl)
  obtain ⟨A, c, rfl⟩ := h.slice
  have O := Lib.hid h
  clear h
  have E0 := Lib.hid (emptyR w w.heap.size w.heap.size #[] rfl (Nat.le_refl _) rfl)
  have B0 := Lib.hid ((Below.refl w.heap.size w).alloc (Nat.le_refl _) (.cells #[] 36))
  have OA := Lib.hid (O.out.alloc (.cells #[] 36))
  cases hc : crossOk n ls with
  | false =>
    have R := Lib.hid (show twistTab n ls = [] by unfold twistTab; rw [hc]; rfl)
    rw [hc] at CK
    go_enter Try.func15, Try.ntmps15
    go_wp2_with fail
    refine (CK.out _ OA.out).mono ?_
    rintro e w1 ⟨rfl, b1⟩
    have B1 := Lib.hid (B0.out.trans (b1.mono B0.out.size))
    have E1 := Lib.hid (E0.out.below b1)
    clear b1
    go_wp2
    go_ret
    exact ⟨_, rfl, by rw [R.out]; exact E1.out, B1.out⟩
  | true =>
    obtain ⟨i0, hi0, hz0, hz1, hz2⟩ := info_parts info_int
    obtain ⟨hn7, hnn, h40, -⟩ := ok_fits hc
    obtain ⟨N, hN⟩ : ∃ N : Nat, n = (N : Int) := ⟨n.toNat, hnn.symm⟩
    subst hN
    rw [Int.toNat_natCast] at hn7
    have F := crossFacts hc
    have hpl := F.pairLen
    have R := Lib.hid (show twistTab (N : Int) ls = tabTo (N : Int) ls ls.length by unfold twistTab; rw [if_pos hc])
    have SQ := Lib.hid (show ∀ k, k ≤ ls.length → Square N (tabTo (N : Int) ls k) from fun k hk => by have := tab_square hc k hk; rwa [Int.toNat_natCast] at this)
    have DU := Lib.hid (show ∀ k, k < ls.length → Duo N ((pairsOf (N : Int) ls).getD k []) from fun k hk => by have := duo_at hc hk; rwa [Int.toNat_natCast] at this)
    have SM := Lib.hid (show ∀ k, k ≤ ls.length → ∀ i j, i < N → j < N → -(k : Int) ≤ ent (tabTo (N : Int) ls k) i j ∧ ent (tabTo (N : Int) ls k) i j ≤ (k : Int) from fun k hk i j hi hj => tab_small hc (by rw [Int.toNat_natCast]; exact hi) (by rw [Int.toNat_natCast]; exact hj) k hk)
    have ST := Lib.hid (show ∀ k, tabTo (N : Int) ls (k + 1) = tabStep (tabTo (N : Int) ls k) ((pairsOf (N : Int) ls).getD k []) (sgn (ls.getD k RCross.zero)) from fun k => rfl)
    have Z0 := Lib.hid (show tabTo (N : Int) ls 0 = zeroTab N by rw [tabTo, Int.toNat_natCast])
    have HPL := Lib.hid hpl
    rw [hc] at CK
    generalize pairsOf (N : Int) ls = ps at CP DU ST HPL
    generalize tabTo (N : Int) ls = T at R SQ SM ST Z0
    clear F hpl hc hnn
    go_enter Try.func15, Try.ntmps15
    go_wp2_with fail
    refine (CK.out _ OA.out).mono ?_
    rintro e w1 ⟨rfl, b1⟩
    have B1 := Lib.hid (B0.out.trans (b1.mono B0.out.size))
    have E1 := Lib.hid (E0.out.below b1)
    clear b1 CK E0 B0 OA
    go_wp2_with fail
    go_loopw [5, 6] (fun ov iv wr => ∃ (k : Nat) (vo : Value), vo = ov ∧ k ≤ N ∧ iv = .int .i64 (k : Int) ∧ Hid (OwnR wr w.heap.size vo (List.replicate k (List.replicate N 0))) ∧ Hid (Below w.heap.size w wr)) (fun _ iv _ => N - (intOf iv).toNat)
    case atStart => exact ⟨0, _, rfl, by omega, rfl, E1, B1⟩
    case round =>
      clear E1 B1
      obtain ⟨k, vo, rfl, hk, rfl, OO, BW⟩ := hrel
      by_cases hlt : k < N
      · have hk1 : (k : Int) < (N : Int) := by omega
        have hsz := BW.out.size
        have hN0 : (0 : Int) ≤ (N : Int) := by omega
        go_wp2_with (first
          | (have q_ := O1; at_builtin; refine wpList_rowR rfl (.tmp 21) (.tmp 24) rfl wr w.heap.size wr.heap.size vo (.slice (some ⟨w1.heap.size, 0, none⟩) 1 1) (.slice (some ⟨wr.heap.size, 0, none⟩) N N) (List.replicate k (List.replicate N 0)) (List.replicate N 0) rfl rfl OO.out (B2.out.alloc hw1 _) (O1.out.alloc _) hsz (oneRow w1 _ wr.heap.size hw1) (by simp; omega) ?_; intro v3 w3 o3 g3 hat3; have O3 := Lib.hid o3; have B3 := Lib.hid ((BW.out.trans ((B2.out.alloc hw1 _).mono hsz)).grown g3 (by simp; omega) (fun k hk => (OO.out.lt k hk).1)); clear o3 g3 hat3)
          | (refine wpList_make_full _ rfl _ _ 36 rfl wr.heap.size 3 i0 (.int .i64 0) 1 Try.underlying36 hi0 hz0 hz1 .i64 .i64 _ _ N rfl rfl rfl rfl (by rw [hz2]; omega) (by simp only [maxLen]; omega) (Nat.le_refl _) ?_; intro w1 own1 grown1; have B2 := Lib.hid (below_of_grown grown1); have hw1 := B2.out.size; have O1 := Lib.hid (madeZero own1); clear own1 grown1))
        exact ⟨⟨k + 1, _, rfl, by omega, by go_num, Lib.hid (by rw [List.replicate_succ']; exact O3.out), B3⟩, by simp [intOf]; omega⟩
      obtain rfl : k = N := by omega
      clear hk hlt
      obtain ⟨vs, orr⟩ := OO.out
      have OO := Lib.hid orr
      obtain ⟨go, co, rfl⟩ : ∃ go co, vo = .slice (some ⟨go, 0, none⟩) k co := by
        rcases orr.row.2 with ⟨_, hn⟩ | ⟨g, cap, cur, e, _⟩
        · simp at hn; omega
        · exact ⟨g, cap, by simpa using e⟩
      clear orr
      go_wp2_with fail
      refine (CP.out _ (O.out.below BW.out)).mono ?_
      rintro e w3 ⟨vp, rfl, p3, b3⟩
      have OT := Lib.hid (show OwnRR w3 w.heap.size (.slice (some ⟨go, 0, none⟩) k co) vs (T 0) by rw [Z0.out]; exact OO.out.below b3)
      have LT := Lib.hid (show ∀ i (hi : i < vs.length) q, vs[i].ownBlock = some q → q < wr.heap.size from fun i hi q e => ((OO.out.each i hi (by rw [← OO.out.len]; exact hi)).lt q e).2)
      have B3 := Lib.hid (BW.out.trans (b3.mono BW.out.size))
      obtain ⟨P, cp, rfl⟩ := p3.slice
      have P3 := Lib.hid p3
      have htop := BW.out.size
      clear p3 b3 OO BW CP
      generalize wr.heap.size = top at LT P3 htop
      have hp40 : ps.length ≤ 40 := by have := HPL.out; omega
      go_wp2_with fail
      go_loopw [8] (fun iv wx => ∃ j : Nat, j ≤ ps.length ∧ iv = .int .i64 (j : Int) ∧ Hid (OwnRR wx w.heap.size (.slice (some ⟨go, 0, none⟩) k co) vs (T j)) ∧ Hid (OwnR wx top (.slice P ps.length cp) ps) ∧ Hid (Below w.heap.size w wx)) (fun iv _ => ps.length - (intOf iv).toNat)
      case atStart => exact ⟨0, by omega, rfl, OT, P3, B3⟩
      case round =>
        clear OT P3 B3
        obtain ⟨j, hj, rfl, OT, OP, BX⟩ := hrel
        by_cases hlt : j < ps.length
        rotate_left
        · obtain rfl : j = ps.length := by omega
          have F := Lib.hid (show twistTab (k : Int) ls = T ps.length by rw [R.out, HPL.out])
          go_wp2
          go_ret
          exact ⟨_, rfl, by rw [F.out]; exact ⟨vs, OT.out⟩, BX.out⟩
        have hjl : j < ls.length := by have := HPL.out; omega
        have hj0 : (0 : Int) ≤ (j : Int) := by omega
        have hj1 : (j : Int) < (ps.length : Int) := by omega
        have hj2 : (j : Int) < (ls.length : Int) := by omega
        obtain ⟨gl, _, f1, _, lt1, z0, _⟩ := O.out.spot hjl
        simp only [Value.slice.injEq] at f1
        obtain ⟨rfl, -, rfl⟩ := f1
        have l1 : wr.cell? ⟨gl, j * 2 + 1, none⟩ = some (.bool ls[j].f1) := (z0.below BX.out lt1) 1 _ rfl
        have hss : sgn (ls.getD j RCross.zero) = if ls[j].f1 = true then 1 else -1 := by rw [List.getD_eq_getElem?_getD, List.getElem?_eq_getElem hjl]; rfl
        obtain ⟨a, d, hz, had, ha, hd⟩ := DU.out j hjl
        have STJ := Lib.hid (ST.out j)
        rw [hz, hss] at STJ
        have EA : pa [(a : Int), (d : Int)] = a := by simp [pa, atI]
        have EB : pb [(a : Int), (d : Int)] = d := by simp [pb, atI]
        unfold tabStep at STJ
        rw [EA, EB] at STJ
        rw [getD_row hlt] at hz
        generalize ls[j].f1 = y at l1 STJ
        have SQJ := SQ.out j (by omega)
        have SMJ := SM.out j (by omega)
        clear z0 hss EA EB
        cases y with
        | true =>
          replace STJ : Hid (T (j + 1) = bump (bump (T j) a d (1)) d a (1)) := STJ
          obtain ⟨g1, c1, ga, ca, e1, va, x0, x1, xf, hgb, SET⟩ := OT.out.entry SQJ ha hd
          simp only [Value.slice.injEq, Option.some.injEq, Addr.mk.injEq] at e1
          obtain ⟨⟨rfl, -⟩, -, rfl⟩ := e1
          obtain ⟨gp, cP, A2, c2, f2, p0, _, pr⟩ := OP.out.spot hlt
          simp only [Value.slice.injEq] at f2
          obtain ⟨rfl, -, rfl⟩ := f2
          rw [hz] at p0 pr
          obtain ⟨gq, cq, f2, _, _, q0, _⟩ := pr.spot (k := 0) (by simp)
          simp only [Value.slice.injEq] at f2
          obtain ⟨rfl, -, rfl⟩ := f2
          obtain ⟨_, _, f2, _, _, q1, _⟩ := pr.spot (k := 1) (by simp)
          simp only [Value.slice.injEq, Option.some.injEq, Addr.mk.injEq] at f2
          obtain ⟨⟨rfl, -⟩, -⟩ := f2
          simp only [List.getElem_cons_zero, List.getElem_cons_succ] at q0 q1
          replace p0 : wr.cell? ⟨gp, j, none⟩ = some (.slice (some ⟨gq, 0, none⟩) 2 c2) := p0
          have hga : ga < top := by
            obtain ⟨h1, h2⟩ := List.getElem?_eq_some_iff.1 va
            exact LT.out a h1 ga (by rw [h2]; rfl)
          have eb := SMJ a d ha hd
          obtain ⟨t1, gg1⟩ := SET (1)
          have OT2 := Lib.hid (t1.below (Below.refl _ _).drew)
          have OP2 := Lib.hid ((OP.out.older gg1 (fun q hq => by have := Option.some.inj hq; omega)).below (Below.refl _ _).drew)
          have BX2 := Lib.hid ((BX.out.grown gg1 BX.out.size (fun q hq => by have := Option.some.inj hq; omega)).drew)
          obtain ⟨x, hx⟩ : ∃ x, ent (T j) a d = x := ⟨_, rfl⟩
          have XE := Lib.hid hx
          rw [hx] at x1 OT2 OP2 BX2 eb
          clear hx
          have ew : IntKind.i64.wrap (x + (1)) = x + (1) := IntWalk.i64_in _ (by omega)
          have ha0 : (0 : Int) ≤ (a : Int) := by omega
          have ha1 : (a : Int) < (k : Int) := by omega
          have hd0 : (0 : Int) ≤ (d : Int) := by omega
          have hd1 : (d : Int) < (k : Int) := by omega
          clear SET t1 gg1 pr va
          go_wp2_with fail
          go_still_tail 35, (by kernel_rfl)
          go_wp2_with fail
          generalize World.drew _ = w2 at OT2 OP2 BX2 ⊢
          clear p0 q0 q1 x0 x1 xf ew eb OT OP BX hga hgb
          have SQ2 : Square k (bump (T j) a d (1)) := bump_square SQJ ha
          have eb2 : -(j : Int) ≤ ent (bump (T j) a d (1)) d a ∧ ent (bump (T j) a d (1)) d a ≤ (j : Int) := by
            rw [ent_bump SQJ ha hd hd ha, if_neg (fun x => had x.1.symm)]
            exact SMJ d a hd ha
          obtain ⟨g1, c1, ga, ca, e1, va, x0, x1, xf, hgb, SET⟩ := OT2.out.entry SQ2 hd ha
          simp only [Value.slice.injEq, Option.some.injEq, Addr.mk.injEq] at e1
          obtain ⟨⟨rfl, -⟩, -, rfl⟩ := e1
          obtain ⟨_, cP, A2, c2, f2, p0, _, pr⟩ := OP2.out.spot hlt
          simp only [Value.slice.injEq, Option.some.injEq, Addr.mk.injEq] at f2
          obtain ⟨⟨rfl, -⟩, -, rfl⟩ := f2
          rw [hz] at p0 pr
          obtain ⟨gq, cq, f2, _, _, q0, _⟩ := pr.spot (k := 0) (by simp)
          simp only [Value.slice.injEq] at f2
          obtain ⟨rfl, -, rfl⟩ := f2
          obtain ⟨_, _, f2, _, _, q1, _⟩ := pr.spot (k := 1) (by simp)
          simp only [Value.slice.injEq, Option.some.injEq, Addr.mk.injEq] at f2
          obtain ⟨⟨rfl, -⟩, -⟩ := f2
          simp only [List.getElem_cons_zero, List.getElem_cons_succ] at q0 q1
          replace p0 : w2.cell? ⟨gp, j, none⟩ = some (.slice (some ⟨gq, 0, none⟩) 2 c2) := p0
          have hga : ga < top := by
            obtain ⟨h1, h2⟩ := List.getElem?_eq_some_iff.1 va
            exact LT.out d h1 ga (by rw [h2]; rfl)
          obtain ⟨t1, gg1⟩ := SET (1)
          have OT3 := Lib.hid (t1.below (Below.refl _ _).drew)
          rw [← STJ.out] at OT3
          have OP3 := Lib.hid ((OP2.out.older gg1 (fun q hq => by have := Option.some.inj hq; omega)).below (Below.refl _ _).drew)
          have BX3 := Lib.hid ((BX2.out.grown gg1 BX2.out.size (fun q hq => by have := Option.some.inj hq; omega)).drew)
          generalize ent (bump (T j) a d (1)) d a = x2 at x1 OT3 OP3 BX3 eb2
          have ew : IntKind.i64.wrap (x2 + (1)) = x2 + (1) := IntWalk.i64_in _ (by omega)
          clear SET t1 gg1 pr va OT2 OP2 BX2 SQ2
          go_still_tail 35, (by kernel_rfl)
          go_wp2_with fail
          exact ⟨⟨j + 1, by omega, by go_num, OT3, OP3, BX3⟩, by simp [intOf]; omega⟩
        | false =>
          replace STJ : Hid (T (j + 1) = bump (bump (T j) a d (-1)) d a (-1)) := STJ
          obtain ⟨g1, c1, ga, ca, e1, va, x0, x1, xf, hgb, SET⟩ := OT.out.entry SQJ ha hd
          simp only [Value.slice.injEq, Option.some.injEq, Addr.mk.injEq] at e1
          obtain ⟨⟨rfl, -⟩, -, rfl⟩ := e1
          obtain ⟨gp, cP, A2, c2, f2, p0, _, pr⟩ := OP.out.spot hlt
          simp only [Value.slice.injEq] at f2
          obtain ⟨rfl, -, rfl⟩ := f2
          rw [hz] at p0 pr
          obtain ⟨gq, cq, f2, _, _, q0, _⟩ := pr.spot (k := 0) (by simp)
          simp only [Value.slice.injEq] at f2
          obtain ⟨rfl, -, rfl⟩ := f2
          obtain ⟨_, _, f2, _, _, q1, _⟩ := pr.spot (k := 1) (by simp)
          simp only [Value.slice.injEq, Option.some.injEq, Addr.mk.injEq] at f2
          obtain ⟨⟨rfl, -⟩, -⟩ := f2
          simp only [List.getElem_cons_zero, List.getElem_cons_succ] at q0 q1
          replace p0 : wr.cell? ⟨gp, j, none⟩ = some (.slice (some ⟨gq, 0, none⟩) 2 c2) := p0
          have hga : ga < top := by
            obtain ⟨h1, h2⟩ := List.getElem?_eq_some_iff.1 va
            exact LT.out a h1 ga (by rw [h2]; rfl)
          have eb := SMJ a d ha hd
          obtain ⟨t1, gg1⟩ := SET (-1)
          have OT2 := Lib.hid (t1.below (Below.refl _ _).drew)
          have OP2 := Lib.hid ((OP.out.older gg1 (fun q hq => by have := Option.some.inj hq; omega)).below (Below.refl _ _).drew)
          have BX2 := Lib.hid ((BX.out.grown gg1 BX.out.size (fun q hq => by have := Option.some.inj hq; omega)).drew)
          obtain ⟨x, hx⟩ : ∃ x, ent (T j) a d = x := ⟨_, rfl⟩
          have XE := Lib.hid hx
          rw [hx] at x1 OT2 OP2 BX2 eb
          clear hx
          have ew : IntKind.i64.wrap (x + (-1)) = x + (-1) := IntWalk.i64_in _ (by omega)
          have ha0 : (0 : Int) ≤ (a : Int) := by omega
          have ha1 : (a : Int) < (k : Int) := by omega
          have hd0 : (0 : Int) ≤ (d : Int) := by omega
          have hd1 : (d : Int) < (k : Int) := by omega
          clear SET t1 gg1 pr va
          go_wp2_with fail
          go_still_tail 35, (by kernel_rfl)
          go_wp2_with fail
          generalize World.drew _ = w2 at OT2 OP2 BX2 ⊢
          clear p0 q0 q1 x0 x1 xf ew eb OT OP BX hga hgb
          have SQ2 : Square k (bump (T j) a d (-1)) := bump_square SQJ ha
          have eb2 : -(j : Int) ≤ ent (bump (T j) a d (-1)) d a ∧ ent (bump (T j) a d (-1)) d a ≤ (j : Int) := by
            rw [ent_bump SQJ ha hd hd ha, if_neg (fun x => had x.1.symm)]
            exact SMJ d a hd ha
          obtain ⟨g1, c1, ga, ca, e1, va, x0, x1, xf, hgb, SET⟩ := OT2.out.entry SQ2 hd ha
          simp only [Value.slice.injEq, Option.some.injEq, Addr.mk.injEq] at e1
          obtain ⟨⟨rfl, -⟩, -, rfl⟩ := e1
          obtain ⟨_, cP, A2, c2, f2, p0, _, pr⟩ := OP2.out.spot hlt
          simp only [Value.slice.injEq, Option.some.injEq, Addr.mk.injEq] at f2
          obtain ⟨⟨rfl, -⟩, -, rfl⟩ := f2
          rw [hz] at p0 pr
          obtain ⟨gq, cq, f2, _, _, q0, _⟩ := pr.spot (k := 0) (by simp)
          simp only [Value.slice.injEq] at f2
          obtain ⟨rfl, -, rfl⟩ := f2
          obtain ⟨_, _, f2, _, _, q1, _⟩ := pr.spot (k := 1) (by simp)
          simp only [Value.slice.injEq, Option.some.injEq, Addr.mk.injEq] at f2
          obtain ⟨⟨rfl, -⟩, -⟩ := f2
          simp only [List.getElem_cons_zero, List.getElem_cons_succ] at q0 q1
          replace p0 : w2.cell? ⟨gp, j, none⟩ = some (.slice (some ⟨gq, 0, none⟩) 2 c2) := p0
          have hga : ga < top := by
            obtain ⟨h1, h2⟩ := List.getElem?_eq_some_iff.1 va
            exact LT.out d h1 ga (by rw [h2]; rfl)
          obtain ⟨t1, gg1⟩ := SET (-1)
          have OT3 := Lib.hid (t1.below (Below.refl _ _).drew)
          rw [← STJ.out] at OT3
          have OP3 := Lib.hid ((OP2.out.older gg1 (fun q hq => by have := Option.some.inj hq; omega)).below (Below.refl _ _).drew)
          have BX3 := Lib.hid ((BX2.out.grown gg1 BX2.out.size (fun q hq => by have := Option.some.inj hq; omega)).drew)
          generalize ent (bump (T j) a d (-1)) d a = x2 at x1 OT3 OP3 BX3 eb2
          have ew : IntKind.i64.wrap (x2 + (-1)) = x2 + (-1) := IntWalk.i64_in _ (by omega)
          clear SET t1 gg1 pr va OT2 OP2 BX2 SQ2
          go_still_tail 35, (by kernel_rfl)
          go_wp2_with fail
          exact ⟨⟨j + 1, by omega, by go_num, OT3, OP3, BX3⟩, by simp [intOf]; omega⟩
end Go.Proofs.Ythijfipjfdmoeaa
