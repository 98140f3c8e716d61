/- Puppets kept one by one where a casting of all that are kept is found: as many as can be cast. No condition. -/
import Derived.Test.YtjpalndcfaeihaaPrxM
namespace Go.Proofs.Ytjpalndcfaeihaa
set_option linter.unusedVariables false
set_option linter.unusedSimpArgs false
open Go.RowKit

theorem rising_asc {zs : List Int} {most : Int} (h : rising zs most = true) : Asc (most + 1) zs := by
  have hr := (rise_iff _ _ _).1 h
  have at_ : ∀ k, k < zs.length → (0 ≤ zs.getD k 0 ∧ zs.getD k 0 ≤ most) ∧ (0 < k → zs.getD (k - 1) 0 < zs.getD k 0) := fun k hk => by
    have q := hr k hk
    unfold riseAt at q
    simp only [Bool.and_eq_true, Bool.or_eq_true, decide_eq_true_eq] at q
    obtain ⟨q1, q2⟩ := q
    refine ⟨?_, fun h0 => q2.resolve_left (by omega)⟩
    generalize zs.getD k 0 = x at q1
    simpa [inB] using q1
  have up : ∀ i j, i < j → j < zs.length → zs.getD i 0 < zs.getD j 0 := by
    intro i j
    induction j with
    | zero => intro a _; omega
    | succ j ih =>
      intro a b
      have q := (at_ (j + 1) b).2 (by omega)
      rw [show j + 1 - 1 = j by omega] at q
      rcases (by omega : i < j ∨ i = j) with c | rfl
      · have := ih c (by omega); omega
      · exact q
  refine ⟨fun z hz => ?_, List.pairwise_iff_getElem.2 fun i j hi hj hij => ?_⟩
  · obtain ⟨k, hk, rfl⟩ := List.mem_iff_getElem.1 hz
    have q := (at_ k hk).1
    rw [List.getD_eq_getElem?_getD, List.getElem?_eq_getElem hk] at q
    have q : 0 ≤ zs[k] ∧ zs[k] ≤ most := q
    omega
  · have q := up i j hij hj
    rw [List.getD_eq_getElem?_getD, List.getElem?_eq_getElem hi, List.getD_eq_getElem?_getD, List.getElem?_eq_getElem hj] at q
    exact q

section
variable {A : Nat → Nat → Bool} {f : Nat → Nat} {n m : Nat}
/-- One that cannot be served beside those that are served: a set with it that is tight but for it. -/
theorem kept_tight {T P : Nat → Bool} {x : Nat} (hx : x < n) (HP : Hall A f n m P) (hPT : ∀ i, P i = true → T i = true) (hTx : T x = false) (hn : ¬ Hall A f n m (fun i => P i || decide (i = x))) :
    ∃ Q : Nat → Bool, Q x = true ∧ capP A f Q n m ≤ cardP (fun i => Q i && T i) n := by
  unfold Hall at hn
  obtain ⟨Q, hQ⟩ := Classical.not_forall.1 hn
  obtain ⟨hs, hc⟩ := Classical.not_imp.1 hQ
  have hs' : ∀ i, Q i = true → P i = true ∨ i = x := fun i hi => by simpa using hs i hi
  have hqx : Q x = true := by
    cases c : Q x with
    | true => rfl
    | false =>
      refine absurd (HP Q fun i hi => ?_) hc
      rcases hs' i hi with q | rfl
      · exact q
      · rw [c] at hi; cases hi
  refine ⟨Q, hqx, ?_⟩
  have a := card_less (n := n) hx hqx
  have b : cardP (fun i => Q i && decide (i ≠ x)) n ≤ cardP (fun i => Q i && T i) n := card_mono fun i _ hi => by
    rw [Bool.and_eq_true, decide_eq_true_eq] at hi
    rcases hs' i hi.1 with q | q
    · rw [hi.1, hPT i q]; rfl
    · exact absurd q hi.2
  omega
/-- Together. -/
theorem kept_union {T R Q : Nat → Bool} (HT : Hall A f n m T) (hR : capP A f R n m ≤ cardP (fun i => R i && T i) n) (hQ : capP A f Q n m ≤ cardP (fun i => Q i && T i) n) :
    capP A f (fun i => R i || Q i) n m ≤ cardP (fun i => (R i || Q i) && T i) n := by
  have a := cap_sub (A := A) (f := f) R Q n m
  have b := card_or_and (fun i => R i && T i) (fun i => Q i && T i) n
  have c := HT (fun i => (R i && T i) && (Q i && T i)) (fun i hi => by
    rw [Bool.and_eq_true, Bool.and_eq_true] at hi; exact hi.1.2)
  have d : capP A f (fun i => (R i && T i) && (Q i && T i)) n m ≤ capP A f (fun i => R i && Q i) n m := cap_mono fun j hj h => .inl (nb_mono (fun i _ hi => by
    rw [Bool.and_eq_true, Bool.and_eq_true, Bool.and_eq_true] at hi
    rw [hi.1.1, hi.2.1]; rfl) h)
  have e : cardP (fun i => (R i || Q i) && T i) n = cardP (fun i => (R i && T i) || (Q i && T i)) n := card_same fun i _ => by
    cases R i <;> cases Q i <;> cases T i <;> rfl
  omega
/-- Where one by one is kept that can be served beside those kept, as many are kept as can be served. -/
theorem kept_most {T S : Nat → Bool} (HT : Hall A f n m T) (HN : ∀ x, x < n → T x = false → ¬ Hall A f n m (fun i => (T i && decide (i < x)) || decide (i = x))) (HS : Hall A f n m S) : cardP S n ≤ cardP T n := by
  have all : ∀ k, k ≤ n → ∃ R : Nat → Bool, (∀ x, x < k → T x = false → R x = true) ∧ capP A f R n m ≤ cardP (fun i => R i && T i) n := by
    intro k
    induction k with
    | zero =>
      intro _
      refine ⟨fun _ => false, fun x h => absurd h (by omega), ?_⟩
      have z : ∀ m', capP A f (fun _ => false) n m' = 0 := fun m' => by
        induction m' with
        | zero => rfl
        | succ m' ih' => rw [capP, ih', if_neg (fun h => by obtain ⟨i, _, q, _⟩ := nb_iff.1 h; cases q)]
      rw [z]
      exact Nat.zero_le _
    | succ k ih =>
      intro hk
      obtain ⟨R, r1, r2⟩ := ih (by omega)
      cases c : T k with
      | true =>
        refine ⟨R, fun x hx ht => ?_, r2⟩
        rcases (by omega : x < k ∨ x = k) with q | rfl
        · exact r1 x q ht
        · rw [c] at ht; cases ht
      | false =>
        obtain ⟨Q, q1, q2⟩ := kept_tight (T := T) (P := fun i => T i && decide (i < k)) (show k < n by omega) (fun Z hZ => HT Z fun i hi => by
          have := hZ i hi
          rw [Bool.and_eq_true] at this
          exact this.1) (fun i hi => by rw [Bool.and_eq_true] at hi; exact hi.1) c (HN k (by omega) c)
        refine ⟨fun i => R i || Q i, fun x hx ht => ?_, kept_union HT r2 q2⟩
        rcases (by omega : x < k ∨ x = k) with q | rfl
        · show (R x || Q x) = true
          rw [r1 x q ht]; rfl
        · show (R x || Q x) = true
          rw [q1, Bool.or_true]
  obtain ⟨R, r1, r2⟩ := all n (Nat.le_refl _)
  have a := lack_most (S := R) HS
  have b := card_or_and R T n
  have c : cardP (fun i => R i || T i) n = n := by
    rw [card_same (R := fun _ => true) fun i hi => ?_]
    · exact card_all n
    · cases h : T i with
      | true => exact Bool.or_true _
      | false => rw [r1 i hi h]; rfl
  omega
end

/-- What is kept of the first k. -/
def grd (ls : List RPlayer) (ps : List Int) : Nat → List Int
  | 0 => []
  | k + 1 => if (castR (firstCast ls (grd ls ps k ++ [ps.getD k 0]))).2 = true then grd ls ps k ++ [ps.getD k 0] else grd ls ps k
def grdB (ls : List RPlayer) (ps : List Int) (k : Nat) : Bool := (castR (firstCast ls (grd ls ps k ++ [ps.getD k 0]))).2
theorem grd_len (ls : List RPlayer) (ps : List Int) : ∀ k, (grd ls ps k).length ≤ k := by
  intro k
  induction k with
  | zero => exact Nat.le_refl _
  | succ k ih =>
    rw [grd]
    split
    · rw [List.length_append, List.length_singleton]; omega
    · omega
/-- A set below n as a number's bits, wholly. -/
theorem mask_all (Q : Nat → Bool) (n : Nat) (h : ∀ i, n ≤ i → Q i = false) : ∃ s, s < 2 ^ n ∧ s.testBit = Q := by
  obtain ⟨s, h1, h2⟩ := mask Q n
  refine ⟨s, h1, funext fun i => ?_⟩
  rcases (by omega : i < n ∨ n ≤ i) with c | c
  · exact h2 i c
  · rw [h i c, Nat.testBit_lt_two_pow (Nat.lt_of_lt_of_le h1 (Nat.pow_le_pow_right (by omega) c))]
theorem grd_cut {ls : List RPlayer} {ps : List Int} {s k : Nat} (h : s.testBit = fun i => grdB ls ps i && decide (i < k)) : ∀ j, partTo ps s j = grd ls ps (min j k) := by
  intro j
  induction j with
  | zero => rw [Nat.zero_min]; rfl
  | succ j ih =>
    have tb : s.testBit j = (grdB ls ps j && decide (j < k)) := congrFun h j
    by_cases c : j < k
    · rw [decide_eq_true c, Bool.and_true] at tb
      rw [partTo, ih, tb, Nat.min_eq_left (by omega), Nat.min_eq_left (by omega), grd]
      rfl
    · rw [decide_eq_false c, Bool.and_false] at tb
      rw [partTo, ih, tb, if_neg (by simp), Nat.min_eq_right (by omega), Nat.min_eq_right (by omega)]
theorem grd_cut1 {ls : List RPlayer} {ps : List Int} {s k : Nat} (h : s.testBit = fun i => (grdB ls ps i && decide (i < k)) || decide (i = k)) : ∀ j, k < j → partTo ps s j = grd ls ps k ++ [ps.getD k 0] := by
  have tb : ∀ j, s.testBit j = ((grdB ls ps j && decide (j < k)) || decide (j = k)) := fun j => congrFun h j
  have low : ∀ j, j ≤ k → partTo ps s j = grd ls ps j := by
    intro j
    induction j with
    | zero => intro _; rfl
    | succ j ih =>
      intro hj
      have t := tb j
      rw [decide_eq_true (show j < k by omega), decide_eq_false (show ¬ j = k by omega), Bool.and_true, Bool.or_false] at t
      rw [partTo, ih (by omega), t, grd]
      rfl
  intro j
  induction j with
  | zero => intro h; omega
  | succ j ih =>
    intro hj
    have t := tb j
    by_cases c : j = k
    · subst c
      rw [decide_eq_true rfl, Bool.or_true] at t
      rw [partTo, t, low j (Nat.le_refl _), if_pos rfl]
    · rw [decide_eq_false c, decide_eq_false (show ¬ j < k by omega), Bool.and_false, Bool.or_false] at t
      rw [partTo, t, ih (by omega), if_neg (by simp)]
theorem castB_iff (o : Option (List Int)) : (castR o).2 = true ↔ ∃ x, o = some x := by
  cases o with
  | none => exact ⟨fun h => (by cases h), fun ⟨x, h⟩ => (by cases h)⟩
  | some x => exact ⟨fun _ => ⟨x, rfl⟩, fun _ => rfl⟩
/-- As many are kept as can be cast. -/
theorem grd_most {ls : List RPlayer} {ps : List Int} (hpk : proofOk ls ps = true) : mostCast ls ps = ((grd ls ps ps.length).length : Int) := by
  obtain ⟨hok, hr⟩ : playersOk ls = true ∧ rising ps 6 = true := by
    unfold proofOk at hpk
    rwa [Bool.and_eq_true] at hpk
  have hrp : ∀ s, rising (partOf ps s) 6 = true := fun s => asc_rising (part_asc ps s (rising_asc hr) _ (Nat.le_refl _)) (by omega)
  have hcast : ∀ s, (castR (firstCast ls (partOf ps s))).2 = true ↔ Hall (kn ls ps) (hd ls) ps.length ls.length s.testBit := fun s => (castB_iff _).trans ((cast_iff hok (hrp s)).trans (part_hall ls ps s))
  have step : ∀ k, k < ps.length → (grdB ls ps k = true ↔ Hall (kn ls ps) (hd ls) ps.length ls.length (fun i => (grdB ls ps i && decide (i < k)) || decide (i = k))) := fun k hk => by
    obtain ⟨s, _, e⟩ := mask_all (fun i => (grdB ls ps i && decide (i < k)) || decide (i = k)) ps.length (fun i hi => by
      rw [decide_eq_false (show ¬ i < k by omega), decide_eq_false (show ¬ i = k by omega), Bool.and_false]; rfl)
    have q := hcast s
    rw [e] at q
    rw [← q]
    unfold partOf
    rw [grd_cut1 e _ hk]
    rfl
  have hall : ∀ k, k ≤ ps.length → Hall (kn ls ps) (hd ls) ps.length ls.length (fun i => grdB ls ps i && decide (i < k)) := by
    intro k
    induction k with
    | zero =>
      intro _ Q hQ
      rw [card_none fun i _ => by
        cases c : Q i with
        | false => rfl
        | true =>
          have this : (grdB ls ps i && decide (i < 0)) = true := hQ i c
          rw [decide_eq_false (Nat.not_lt_zero i), Bool.and_false] at this; cases this]
      exact Nat.zero_le _
    | succ k ih =>
      intro hk
      cases c : grdB ls ps k with
      | true =>
        have q := (step k (by omega)).1 c
        have e : (fun i => grdB ls ps i && decide (i < k + 1)) = fun i => (grdB ls ps i && decide (i < k)) || decide (i = k) := funext fun i => by
          by_cases d : i = k
          · subst d; rw [c, decide_eq_true (show i < i + 1 by omega), decide_eq_true (rfl : i = i), Bool.or_true]; rfl
          · rw [decide_eq_false d, Bool.or_false, Bool.eq_iff_iff]; simp; omega
        rw [e]
        exact q
      | false =>
        have e : (fun i => grdB ls ps i && decide (i < k + 1)) = fun i => grdB ls ps i && decide (i < k) := funext fun i => by
          by_cases d : i = k
          · subst d; rw [c]; rfl
          · rw [Bool.eq_iff_iff]; simp; omega
        rw [e]
        exact ih (by omega)
  obtain ⟨t, t1, t2⟩ := mask_all (fun i => grdB ls ps i && decide (i < ps.length)) ps.length (fun i hi => by rw [decide_eq_false (show ¬ i < ps.length by omega), Bool.and_false])
  have et : partOf ps t = grd ls ps ps.length := by
    unfold partOf
    rw [grd_cut t2, Nat.min_self]
  have hlt : (partOf ps t).length = cardP t.testBit ps.length := part_card ps t _
  have HT := hall ps.length (Nat.le_refl _)
  rw [← t2] at HT
  have HN : ∀ x, x < ps.length → t.testBit x = false → ¬ Hall (kn ls ps) (hd ls) ps.length ls.length (fun i => (t.testBit i && decide (i < x)) || decide (i = x)) := fun x hx hf hH => by
    have b : grdB ls ps x = false := by
      rw [t2] at hf
      dsimp only at hf
      rwa [show (grdB ls ps x && decide (x < ps.length)) = grdB ls ps x by rw [decide_eq_true hx, Bool.and_true]] at hf
    have e : (fun i => (t.testBit i && decide (i < x)) || decide (i = x)) = fun i => (grdB ls ps i && decide (i < x)) || decide (i = x) := funext fun i => by
      rw [t2]
      dsimp only
      by_cases d : i < x
      · rw [decide_eq_true (show i < ps.length by omega), Bool.and_true]
      · rw [decide_eq_false d, Bool.and_false, Bool.and_false]
    rw [e] at hH
    rw [(step x hx).2 hH] at b
    cases b
  obtain ⟨M, hM⟩ : ∃ M, 1 <<< ps.length = M := ⟨_, rfl⟩
  have hMp : M = 2 ^ ps.length := by rw [← hM, Nat.shiftLeft_eq, Nat.one_mul]
  have low := most_ge ls ps M t (by rw [hMp]; exact t1) ((castB_iff _).1 ((hcast t).2 HT))
  have high : mostTo ls ps M ≤ (partOf ps t).length := by
    rcases most_is ls ps M with z | ⟨s, _, s1, s2⟩
    · omega
    · rw [← s2, hlt, show (partOf ps s).length = cardP s.testBit ps.length from part_card ps s _]
      exact kept_most HT HN ((hcast s).1 ((castB_iff _).2 s1))
  unfold mostCast
  rw [if_pos hpk, hM, ← et]
  omega
end Go.Proofs.Ytjpalndcfaeihaa
