/- What FnProofs asks: a casting is found just if no set of puppets is short; what lacks is what cannot be cast. No condition. -/
import Derived.Test.YtjpalndcfaeihaaPrfM
import Derived.Test.YtjpalndcfaeihaaHaxM
import Derived.Test.YtjpalndcfaeihaaHall
import Derived.Test.YtjpalndcfaeihaaAscM
namespace Go.Proofs.Ytjpalndcfaeihaa
set_option linter.unusedVariables false
set_option linter.unusedSimpArgs false
open Go.RowKit

/-- Puppet i is known by player j; a player's hands. -/
def kn (ls : List RPlayer) (ps : List Int) (i j : Nat) : Bool := knowsB (ls.getD j RPlayer.zero) (ps.getD i 0)
def hd (ls : List RPlayer) (j : Nat) : Nat := (fr ls j).toNat
theorem first_is {f : Nat → Option (List Int)} {p : Nat} {x : List Int} (e : f p = some x) : ∀ n, p < n → ∃ y, firstOf f n = some y := by
  intro n
  induction n with
  | zero => intro h; omega
  | succ n ih =>
    intro h
    rw [firstOf]
    cases c : firstOf f n with
    | some y => exact ⟨y, rfl⟩
    | none =>
      by_cases q : p = n
      · subst q; exact ⟨x, e⟩
      · obtain ⟨y, hy⟩ := ih (by omega)
        rw [hy] at c
        cases c
theorem srch_hall {ls : List RPlayer} {ps : List Int} : ∀ r cast load, cast.length + r = ps.length → load.length = ls.length → Hall (kn ls ps) (fun j => (fr ls j - load.getD j 0).toNat) ps.length ls.length (fun i => decide (cast.length ≤ i)) → ∃ x, srch ls ps r cast load = some x := by
  intro r
  induction r with
  | zero => intro cast load _ _ _; exact ⟨cast, rfl⟩
  | succ r ih =>
    intro cast load hl ho H
    obtain ⟨j, hj, ha, hf, H2⟩ := hall_step H (show cast.length < ps.length by omega) (by simp)
    have e1 : (fun i => if i = j then (fr ls i - load.getD i 0).toNat - 1 else (fr ls i - load.getD i 0).toNat) = fun i => (fr ls i - (load.set j (load.getD j 0 + 1)).getD i 0).toNat := funext fun i => by
      by_cases c : i = j
      · subst c
        rw [if_pos rfl, List.getD_eq_getElem?_getD (l := load.set _ _), List.getElem?_set_self (by omega), Option.getD_some]
        omega
      · rw [if_neg c, List.getD_eq_getElem?_getD (l := load.set _ _), List.getElem?_set_ne (fun e => c e.symm), ← List.getD_eq_getElem?_getD]
    have e2 : (fun i => decide (cast.length ≤ i) && decide (i ≠ cast.length)) = fun i => decide ((cast ++ [(j : Int)]).length ≤ i) := funext fun i => by
      rw [List.length_append, List.length_singleton, Bool.eq_iff_iff]
      simp
      omega
    rw [e1, e2] at H2
    obtain ⟨x, hx⟩ := ih (cast ++ [(j : Int)]) (load.set j (load.getD j 0 + 1)) (by rw [List.length_append, List.length_singleton]; omega) (by rw [List.length_set]; exact ho) H2
    rw [srch]
    refine first_is (p := j) (x := x) ?_ _ hj
    have hfr : freeFor ls load (ps.getD cast.length 0) j = true := by
      unfold freeFor
      unfold kn at ha
      rw [ha, Bool.and_true, decide_eq_true_eq]
      unfold fr at hf
      omega
    show (if freeFor ls load (ps.getD cast.length 0) j = true then _ else none) = some x
    rw [if_pos hfr]
    exact hx
theorem card_cnt (x : List Int) (k : Int) : ∀ i, ((cardP (fun i => decide (x.getD i 0 = k)) i : Nat) : Int) = cntI x k i := by
  intro i
  induction i with
  | zero => rfl
  | succ i ih =>
    rw [cardP, cntI, ← ih]
    by_cases c : x.getD i 0 = k
    · rw [if_pos c, if_pos (decide_eq_true c)]; omega
    · rw [if_neg c, if_neg (by simpa using c)]; omega
theorem card_split (Q : Nat → Bool) (x : List Int) (m : Nat) : ∀ n, cardP (fun i => Q i && decide (x.getD i 0 < ((m + 1 : Nat) : Int))) n = cardP (fun i => Q i && decide (x.getD i 0 < (m : Int))) n + cardP (fun i => Q i && decide (x.getD i 0 = (m : Int))) n := by
  intro n
  induction n with
  | zero => rfl
  | succ n ih =>
    rw [cardP, cardP, cardP, ih]
    generalize x.getD n 0 = y
    cases Q n with
    | false => simp
    | true =>
      rcases (by omega : y < (m : Int) ∨ y = (m : Int) ∨ (m : Int) < y) with c | c | c
      · rw [if_pos (by simp; omega), if_pos (by simp; omega), if_neg (by simp; omega)]; omega
      · rw [if_pos (by simp; omega), if_neg (by simp; omega), if_pos (by simp; omega)]; omega
      · rw [if_neg (by simp; omega), if_neg (by simp; omega), if_neg (by simp; omega)]; omega
theorem cast_hall {ls : List RPlayer} {ps x : List Int} (hl : x.length = ps.length) (at_ : ∀ p, p < ls.length → cntI x (p : Int) x.length ≤ fr ls p) (hc : ∀ k, k < x.length → castAt ls ps x k = true) : Hall (kn ls ps) (hd ls) ps.length ls.length (fun _ => true) := by
  intro Q _
  have bd : ∀ k, k < ps.length → (0 ≤ x.getD k 0 ∧ x.getD k 0 < (ls.length : Int)) ∧ kn ls ps k (x.getD k 0).toNat = true := fun k hk => by
    have := hc k (by omega)
    unfold castAt at this
    rw [Bool.and_eq_true] at this
    obtain ⟨a, b⟩ := this
    refine ⟨?_, b⟩
    generalize x.getD k 0 = y at a
    have a : 0 ≤ y ∧ y ≤ (ls.length : Int) - 1 := by simpa [inB] using a
    omega
  have le : ∀ m, m ≤ ls.length → cardP (fun i => Q i && decide (x.getD i 0 < (m : Int))) ps.length ≤ capP (kn ls ps) (hd ls) Q ps.length m := by
    intro m
    induction m with
    | zero =>
      intro _
      rw [card_none fun i hi => by have := (bd i hi).1; rw [decide_eq_false (by omega), Bool.and_false]]
      exact Nat.zero_le _
    | succ m ih =>
      intro hm
      have a := ih (by omega)
      rw [card_split, capP]
      by_cases c : nbP (kn ls ps) Q m ps.length = true
      · rw [if_pos c]
        have b1 := at_ m (by omega)
        have b2 := card_cnt x (m : Int) x.length
        have b3 : cardP (fun i => Q i && decide (x.getD i 0 = (m : Int))) ps.length ≤ cardP (fun i => decide (x.getD i 0 = (m : Int))) ps.length := card_mono fun i _ h => by
          rw [Bool.and_eq_true] at h; exact h.2
        rw [hl] at b1 b2
        rw [show hd ls m = (fr ls m).toNat from rfl]
        omega
      · rw [if_neg c, card_none (Q := fun i => Q i && decide (x.getD i 0 = (m : Int))) fun i hi => ?_]
        · omega
        · cases hq : (Q i && decide (x.getD i 0 = (m : Int))) with
          | false => rfl
          | true =>
            rw [Bool.and_eq_true, decide_eq_true_eq] at hq
            have := (bd i hi).2
            rw [hq.2, Int.toNat_natCast] at this
            exact absurd (nb_iff.2 ⟨i, hi, hq.1, this⟩) c
  have a := le ls.length (Nat.le_refl _)
  rw [card_same (R := Q) fun i hi => by rw [decide_eq_true (bd i hi).1.2, Bool.and_true]] at a
  exact a
/-- A casting is found just if no set of puppets is short. -/
theorem cast_iff {ls : List RPlayer} {ps : List Int} (hok : playersOk ls = true) (hr : rising ps 6 = true) : (∃ x, firstCast ls ps = some x) ↔ Hall (kn ls ps) (hd ls) ps.length ls.length (fun _ => true) := by
  constructor
  · rintro ⟨x, hx⟩
    unfold firstCast at hx
    rw [hok, hr, if_pos (by rfl)] at hx
    obtain ⟨lo, F, hl⟩ := srch_far _ _ _ _ (far_start hok ps) (by simp) hx
    exact cast_hall hl (fun p hp => by have := F.at_ p hp; omega) F.cast
  · intro H
    unfold firstCast
    rw [hok, hr, if_pos (by rfl)]
    refine srch_hall _ _ _ (by simp) (by simp) ?_
    have e1 : (fun j => (fr ls j - (List.replicate ls.length (0 : Int)).getD j 0).toNat) = hd ls := funext fun j => by
      unfold hd
      have : (List.replicate ls.length (0 : Int)).getD j 0 = 0 := by
        rw [List.getD_eq_getElem?_getD, List.getElem?_replicate]
        split <;> rfl
      rw [this, Int.sub_zero]
    have e2 : (fun i => decide (([] : List Int).length ≤ i)) = fun _ => true := funext fun i => by simp
    rw [e1, e2]
    exact H
section
variable (ps : List Int) (t : Nat)
theorem part_card : ∀ k, (partTo ps t k).length = cardP t.testBit k := by
  intro k
  induction k with
  | zero => rfl
  | succ k ih =>
    rw [partTo, cardP]
    split
    · rw [List.length_append, List.length_singleton, ih]
    · exact ih
theorem part_get {k : Nat} (ht : t.testBit k = true) : ∀ n, k < n → (partTo ps t n).getD (cardP t.testBit k) 0 = ps.getD k 0 := by
  intro n
  induction n with
  | zero => intro h; omega
  | succ n ih =>
    intro h
    rw [partTo]
    by_cases c : k = n
    · subst c
      rw [if_pos ht, ← part_card ps t k, List.getD_eq_getElem?_getD, List.getElem?_append_right (Nat.le_refl _), Nat.sub_self]
      rfl
    · have a := ih (by omega)
      have b : cardP t.testBit k < cardP t.testBit n := by
        clear ih a
        have z : ∀ n, k < n → cardP t.testBit k < cardP t.testBit n := by
          intro n
          induction n with
          | zero => intro h; omega
          | succ n ih =>
            intro h
            rw [cardP.eq_2 t.testBit n]
            by_cases q : k = n
            · subst q; rw [if_pos ht]; omega
            · have := ih (by omega); omega
        exact z n (by omega)
      split
      · rw [List.getD_eq_getElem?_getD, List.getElem?_append_left (by rw [part_card]; exact b), ← List.getD_eq_getElem?_getD]
        exact a
      · exact a
theorem part_mem {z : Int} : ∀ n, z ∈ partTo ps t n → ∃ i, i < n ∧ t.testBit i = true ∧ z = ps.getD i 0 := by
  intro n
  induction n with
  | zero => intro h; cases h
  | succ n ih =>
    intro h
    rw [partTo] at h
    split at h
    · next ht =>
      rcases List.mem_append.1 h with q | q
      · obtain ⟨i, a, b⟩ := ih q; exact ⟨i, by omega, b⟩
      · exact ⟨n, by omega, ht, List.mem_singleton.1 q⟩
    · obtain ⟨i, a, b⟩ := ih h; exact ⟨i, by omega, b⟩
theorem part_in {i : Nat} (ht : t.testBit i = true) : ∀ n, i < n → ps.getD i 0 ∈ partTo ps t n := by
  intro n
  induction n with
  | zero => intro h; omega
  | succ n ih =>
    intro h
    rw [partTo]
    by_cases c : i = n
    · subst c; rw [if_pos ht]; simp
    · have := ih (by omega)
      split
      · exact List.mem_append_left _ this
      · exact this
theorem part_asc {m : Int} (h : Asc m ps) : ∀ n, n ≤ ps.length → Asc m (partTo ps t n) := by
  have lt : ∀ i j, i < j → j < ps.length → ps.getD i 0 < ps.getD j 0 := fun i j hij hj => by
    rw [List.getD_eq_getElem?_getD, List.getElem?_eq_getElem (show i < ps.length by omega), List.getD_eq_getElem?_getD, List.getElem?_eq_getElem hj]
    exact List.pairwise_iff_getElem.1 h.2 i j (by omega) hj hij
  intro n
  induction n with
  | zero => intro _; exact asc_nil m
  | succ n ih =>
    intro hn
    have a := ih (by omega)
    rw [partTo]
    split
    · refine ⟨fun z hz => ?_, List.pairwise_append.2 ⟨a.2, List.pairwise_singleton _ _, fun x hx y hy => ?_⟩⟩
      · rcases List.mem_append.1 hz with q | q
        · exact a.1 z q
        · rw [List.mem_singleton.1 q]; exact asc_get h (by omega)
      · obtain ⟨i, b, _, e⟩ := part_mem ps t n hx
        rw [List.mem_singleton.1 hy, e]
        exact lt i n b (by omega)
    · exact a
end
theorem rank_card (T Q : Nat → Bool) : ∀ n, cardP (fun i => T i && Q (cardP T i)) n = cardP Q (cardP T n) := by
  intro n
  induction n with
  | zero => rfl
  | succ n ih =>
    rw [cardP, ih, cardP.eq_2 T n]
    cases h : T n with
    | false => simp
    | true =>
      rw [if_pos (rfl : true = true), cardP]
      simp
theorem rank_lt {T : Nat → Bool} {k : Nat} (ht : T k = true) : ∀ n, k < n → cardP T k < cardP T n := by
  intro n
  induction n with
  | zero => intro h; omega
  | succ n ih =>
    intro h
    rw [cardP.eq_2 T n]
    by_cases q : k = n
    · subst q; rw [if_pos ht]; omega
    · have := ih (by omega); omega
theorem cap_mono2 {A B : Nat → Nat → Bool} {f : Nat → Nat} {Q R : Nat → Bool} {n n' : Nat} : ∀ m, (∀ j, j < m → nbP A Q j n = true → nbP B R j n' = true) → capP A f Q n m ≤ capP B f R n' m := by
  intro m
  induction m with
  | zero => intro _; exact Nat.le_refl _
  | succ m ih =>
    intro h
    have a := ih (fun j hj => h j (by omega))
    have b := h m (by omega)
    rw [capP, capP]
    by_cases c : nbP A Q m n = true
    · rw [if_pos c, if_pos (b c)]; omega
    · rw [if_neg c]; omega
/-- What holds of a part holds of the set. -/
theorem part_hall (ls : List RPlayer) (ps : List Int) (t : Nat) : Hall (kn ls (partOf ps t)) (hd ls) (partOf ps t).length ls.length (fun _ => true) ↔ Hall (kn ls ps) (hd ls) ps.length ls.length t.testBit := by
  have hl : (partOf ps t).length = cardP t.testBit ps.length := part_card ps t _
  constructor
  · intro H Q hQ
    let B : Nat → Nat → Bool := fun i r => decide (cardP t.testBit i = r)
    have h := H (fun r => nbP B Q r ps.length) (fun _ _ => rfl)
    have a : cardP Q ps.length ≤ cardP (fun i => t.testBit i && nbP B Q (cardP t.testBit i) ps.length) ps.length := card_mono fun i hi hq => by
      rw [hQ i hq, Bool.true_and]
      exact nb_iff.2 ⟨i, hi, hq, decide_eq_true rfl⟩
    rw [rank_card t.testBit (fun r => nbP B Q r ps.length)] at a
    rw [hl] at h
    have c : capP (kn ls (partOf ps t)) (hd ls) (fun r => nbP B Q r ps.length) (cardP t.testBit ps.length) ls.length ≤ capP (kn ls ps) (hd ls) Q ps.length ls.length := cap_mono2 _ fun j hj hb => by
      obtain ⟨r, _, hr, hk⟩ := nb_iff.1 hb
      obtain ⟨i, hi, hq, he⟩ := nb_iff.1 hr
      have he : cardP t.testBit i = r := of_decide_eq_true he
      subst he
      refine nb_iff.2 ⟨i, hi, hq, ?_⟩
      unfold kn at hk ⊢
      have g := part_get ps t (hQ i hq) ps.length hi
      unfold partOf at hk
      rw [g] at hk
      exact hk
    omega
  · intro H Q _
    have h := H (fun i => t.testBit i && Q (cardP t.testBit i)) (fun i hi => by rw [Bool.and_eq_true] at hi; exact hi.1)
    rw [rank_card] at h
    rw [hl]
    have c : capP (kn ls ps) (hd ls) (fun i => t.testBit i && Q (cardP t.testBit i)) ps.length ls.length ≤ capP (kn ls (partOf ps t)) (hd ls) Q (cardP t.testBit ps.length) ls.length := cap_mono2 _ fun j hj hb => by
      obtain ⟨i, hi, hq, hk⟩ := nb_iff.1 hb
      rw [Bool.and_eq_true] at hq
      refine nb_iff.2 ⟨cardP t.testBit i, rank_lt hq.1 _ hi, hq.2, ?_⟩
      unfold kn at hk ⊢
      have g := part_get ps t hq.1 ps.length hi
      unfold partOf
      rw [g]
      exact hk
    omega
theorem some_iff (l : RPlayer) (ps : List Int) : ∀ i, someTo l ps i = true ↔ ∃ k, k < i ∧ knowsB l (ps.getD k 0) = true := by
  intro i
  induction i with
  | zero => exact ⟨fun h => (by cases h), fun ⟨k, h, _⟩ => absurd h (by omega)⟩
  | succ i ih =>
    rw [someTo, Bool.or_eq_true, ih]
    constructor
    · rintro (⟨k, a, b⟩ | b)
      · exact ⟨k, by omega, b⟩
      · exact ⟨i, by omega, b⟩
    · rintro ⟨k, a, b⟩
      rcases (by omega : k < i ∨ k = i) with c | rfl
      · exact .inl ⟨k, c, b⟩
      · exact .inr b
theorem part_some (ls : List RPlayer) (ps : List Int) (s j : Nat) : someTo (ls.getD j RPlayer.zero) (partOf ps s) (partOf ps s).length = nbP (kn ls ps) s.testBit j ps.length := by
  rw [Bool.eq_iff_iff, some_iff, nb_iff]
  constructor
  · rintro ⟨k, hk, h⟩
    rw [List.getD_eq_getElem?_getD (l := partOf ps s), List.getElem?_eq_getElem hk, Option.getD_some] at h
    obtain ⟨i, a, b, e⟩ := part_mem ps s ps.length (List.getElem_mem hk)
    exact ⟨i, a, b, by unfold kn; rw [← e]; exact h⟩
  · rintro ⟨i, a, b, h⟩
    obtain ⟨k, hk, e⟩ := List.mem_iff_getElem.1 (part_in ps s b ps.length a)
    refine ⟨k, hk, ?_⟩
    rw [List.getD_eq_getElem?_getD (l := partOf ps s), List.getElem?_eq_getElem (show k < (partOf ps s).length from hk), Option.getD_some]
    show knowsB _ (partTo ps s ps.length)[k] = true
    rw [e]
    exact h
theorem part_hands {ls : List RPlayer} (hok : playersOk ls = true) (ps : List Int) (s : Nat) : ∀ k, k ≤ ls.length → hforTo ls (partOf ps s) k = ((capP (kn ls ps) (hd ls) s.testBit ps.length k : Nat) : Int) := by
  intro k
  induction k with
  | zero => intro _; rfl
  | succ k ih =>
    intro hk
    have b := (player_fine ((playersOk_has hok).2 k (by omega))).2
    rw [← getP (by omega)] at b
    rw [hforTo, capP, part_some, ih (by omega)]
    split
    · unfold hd fr; omega
    · omega
/-- A set as a number's bits. -/
theorem mask (Q : Nat → Bool) : ∀ n, ∃ s, s < 2 ^ n ∧ ∀ i, i < n → s.testBit i = Q i := by
  intro n
  induction n with
  | zero => exact ⟨0, by simp, fun i h => absurd h (by omega)⟩
  | succ n ih =>
    obtain ⟨s, h1, h2⟩ := ih
    have h3 : s < 2 ^ (n + 1) := Nat.lt_trans h1 (Nat.pow_lt_pow_right (by omega) (by omega))
    cases c : Q n with
    | false =>
      refine ⟨s, h3, fun i hi => ?_⟩
      rcases (by omega : i < n ∨ i = n) with q | rfl
      · exact h2 i q
      · rw [Nat.testBit_lt_two_pow h1, c]
    | true =>
      refine ⟨s ||| 2 ^ n, Nat.or_lt_two_pow h3 (Nat.pow_lt_pow_right (by omega) (by omega)), fun i hi => ?_⟩
      rw [Nat.testBit_or, Nat.testBit_two_pow]
      rcases (by omega : i < n ∨ i = n) with q | rfl
      · rw [h2 i q, decide_eq_false (by omega), Bool.or_false]
      · rw [c, decide_eq_true rfl, Bool.or_true]
theorem most_ge (ls : List RPlayer) (ps : List Int) : ∀ k s, s < k → (∃ x, firstCast ls (partOf ps s) = some x) → (partOf ps s).length ≤ mostTo ls ps k := by
  intro k
  induction k with
  | zero => intro s h; omega
  | succ k ih =>
    intro s h hc
    rw [mostTo]
    by_cases q : s = k
    · subst q
      obtain ⟨x, hx⟩ := hc
      split
      · assumption
      · rw [hx, if_pos (by rfl)]; exact Nat.le_refl _
    · have := ih s (by omega) hc
      split
      · exact this
      · split <;> omega
theorem most_is (ls : List RPlayer) (ps : List Int) : ∀ k, mostTo ls ps k = 0 ∨ ∃ s, s < k ∧ (∃ x, firstCast ls (partOf ps s) = some x) ∧ (partOf ps s).length = mostTo ls ps k := by
  intro k
  induction k with
  | zero => exact .inl rfl
  | succ k ih =>
    have old : (mostTo ls ps k = 0 ∨ ∃ s, s < k + 1 ∧ (∃ x, firstCast ls (partOf ps s) = some x) ∧ (partOf ps s).length = mostTo ls ps k) := by
      rcases ih with q | ⟨s, a, b⟩
      · exact .inl q
      · exact .inr ⟨s, by omega, b⟩
    rw [mostTo]
    split
    · exact old
    · cases c : firstCast ls (partOf ps k) with
      | none => rw [if_neg (by intro h; cases h)]; exact old
      | some x => rw [if_pos (by rfl)]; exact .inr ⟨k, by omega, ⟨x, c⟩, rfl⟩
theorem lack_ge (ls : List RPlayer) (ps : List Int) : ∀ k s, s < k → ((partOf ps s).length : Int) - handsFor ls (partOf ps s) ≤ lackTo ls ps k := by
  intro k
  induction k with
  | zero => intro s h; omega
  | succ k ih =>
    intro s h
    rw [lackTo]
    by_cases q : s = k
    · subst q; split <;> omega
    · have := ih s (by omega); split <;> omega
theorem lack_is (ls : List RPlayer) (ps : List Int) : ∀ k, lackTo ls ps k = 0 ∨ ∃ s, s < k ∧ ((partOf ps s).length : Int) - handsFor ls (partOf ps s) = lackTo ls ps k := by
  intro k
  induction k with
  | zero => exact .inl rfl
  | succ k ih =>
    rw [lackTo]
    split
    · exact .inr ⟨k, by omega, rfl⟩
    · rcases ih with q | ⟨s, a, b⟩
      · exact .inl q
      · exact .inr ⟨s, by omega, b⟩
/-- All that FnProofs asks. -/
structure ProofFacts (ls : List RPlayer) (ps : List Int) : Prop where
  short : (castR (shortSet ls ps)).2 = !(castR (firstCast ls ps)).2
  most : 0 ≤ mostCast ls ps ∧ mostCast ls ps ≤ (ps.length : Int) ∧ lackOf ls ps = (ps.length : Int) - mostCast ls ps ∧ mostCast ls ps ≤ handsFree ls
  lack : decide (lackOf ls ps = 0) = (castR (firstCast ls ps)).2
  set : ∀ x, shortSet ls ps = some x → isShort ls x = true ∧ ∀ z ∈ x, z ∈ ps
  hands : 0 ≤ handsFor ls ps ∧ handsFor ls ps ≤ handsFree ls ∧ isShort ls ps = decide (handsFor ls ps < (ps.length : Int))
  none : handsFor ls [] = 0
theorem proofFacts {ls : List RPlayer} {ps : List Int} (hok : playersOk ls = true) (ha : Asc 6 ps) : ProofFacts ls ps := by
  have hr : rising ps 6 = true := asc_rising ha (by omega)
  have hrp : ∀ s, rising (partOf ps s) 6 = true := fun s => asc_rising (part_asc ps s ha _ (Nat.le_refl _)) (by omega)
  have hpk : proofOk ls ps = true := by unfold proofOk; rw [hok, hr]; rfl
  have hpp : ∀ s, proofOk ls (partOf ps s) = true := fun s => by unfold proofOk; rw [hok, hrp]; rfl
  obtain ⟨M, hM⟩ : ∃ M, 1 <<< ps.length = M := ⟨_, rfl⟩
  have hMp : M = 2 ^ ps.length := by rw [← hM, Nat.shiftLeft_eq, Nat.one_mul]
  have hc : ∀ s, (partOf ps s).length = cardP s.testBit ps.length := fun s => part_card ps s _
  have hh : ∀ s, handsFor ls (partOf ps s) = ((capP (kn ls ps) (hd ls) s.testBit ps.length ls.length : Nat) : Int) := fun s => by
    unfold handsFor
    rw [if_pos (hpp s)]
    exact part_hands hok ps s _ (Nat.le_refl _)
  have hcast : ∀ s, (∃ x, firstCast ls (partOf ps s) = some x) ↔ Hall (kn ls ps) (hd ls) ps.length ls.length s.testBit := fun s => (cast_iff hok (hrp s)).trans (part_hall ls ps s)
  have hall := cast_iff hok hr
  -- a set as a number
  have num : ∀ Q : Nat → Bool, ∃ s, s < M ∧ cardP s.testBit ps.length = cardP Q ps.length ∧ capP (kn ls ps) (hd ls) s.testBit ps.length ls.length = capP (kn ls ps) (hd ls) Q ps.length ls.length ∧ ∀ i, i < ps.length → s.testBit i = Q i := fun Q => by
    obtain ⟨s, h1, h2⟩ := mask Q ps.length
    refine ⟨s, by rw [hMp]; exact h1, card_same h2, Nat.le_antisymm (cap_mono fun j hj h => .inl (nb_mono (fun i hi e => by rw [← h2 i hi]; exact e) h)) (cap_mono fun j hj h => .inl (nb_mono (fun i hi e => by rw [h2 i hi]; exact e) h)), h2⟩
  have hle : mostCast ls ps = ((mostTo ls ps M : Nat) : Int) := by unfold mostCast; rw [if_pos hpk, hM]
  have hla : lackOf ls ps = lackTo ls ps M := by unfold lackOf; rw [if_pos hpk, hM]
  have hml := most_le ls ps M
  have hls := lack_small ls ps M
  have up : (ps.length : Int) ≤ (mostTo ls ps M : Int) + lackTo ls ps M := by
    obtain ⟨d, hd'⟩ := Int.eq_ofNat_of_zero_le hls.1
    obtain ⟨T, _, t2, t3⟩ := lack_all (A := kn ls ps) (f := hd ls) (n := ps.length) (m := ls.length) d (fun _ => true) (fun Q _ => by
      obtain ⟨s, s1, s2, s3, _⟩ := num Q
      have a := lack_ge ls ps M s s1
      rw [hc, hh, s2, s3] at a
      omega)
    obtain ⟨s, s1, s2, _, s4⟩ := num T
    rw [card_all] at t2
    have a := most_ge ls ps M s s1 ((hcast s).2 fun Q hQ => by
      have b : cardP Q ps.length = cardP (fun i => Q i && T i) ps.length := card_same fun i hi => by
        cases c : Q i with
        | false => rfl
        | true => have := hQ i c; rw [s4 i hi] at this; rw [this]; rfl
      rw [b]
      refine Nat.le_trans (t3 _ fun i hi => by rw [Bool.and_eq_true] at hi; exact hi.2) (cap_mono fun j hj h => .inl (nb_mono (fun i _ hi => by rw [Bool.and_eq_true] at hi; exact hi.1) h)))
    rw [hc, s2] at a
    omega
  have down : (mostTo ls ps M : Int) + lackTo ls ps M ≤ (ps.length : Int) := by
    rcases lack_is ls ps M with l0 | ⟨s, _, l1⟩
    · omega
    · rw [hc, hh] at l1
      rcases most_is ls ps M with m0 | ⟨t, _, t1, t2⟩
      · have := card_le s.testBit ps.length
        omega
      · have := lack_most (S := s.testBit) ((hcast t).1 t1)
        rw [hc] at t2
        omega
  have okl : (∃ x, firstCast ls ps = some x) ↔ lackTo ls ps M = 0 := by
    rw [hall]
    constructor
    · intro H
      rcases lack_is ls ps M with l0 | ⟨s, _, l1⟩
      · exact l0
      · rw [hc, hh] at l1
        have := H s.testBit (fun _ _ => rfl)
        omega
    · intro e Q _
      obtain ⟨s, s1, s2, s3, _⟩ := num Q
      have a := lack_ge ls ps M s s1
      rw [hc, hh, s2, s3] at a
      omega
  have hsh : shortSet ls ps = firstOf (shortAt ls ps) M := by unfold shortSet; rw [if_pos hpk, hM]
  have iss : ∀ s, isShort ls (partOf ps s) = decide (capP (kn ls ps) (hd ls) s.testBit ps.length ls.length < cardP s.testBit ps.length) := fun s => by
    unfold isShort
    rw [hh, hc, decide_eq_true (by omega), Bool.true_and, decide_eq_decide]
    omega
  have okb : (castR (firstCast ls ps)).2 = true ↔ ∃ x, firstCast ls ps = some x := by
    cases firstCast ls ps with
    | none => exact ⟨fun h => (by cases h), fun ⟨x, h⟩ => (by cases h)⟩
    | some x => exact ⟨fun _ => ⟨x, rfl⟩, fun _ => rfl⟩
  have hf := hfor_small hok ps ls.length (Nat.le_refl _)
  have e1 : handsFor ls ps = hforTo ls ps ls.length := by unfold handsFor; rw [if_pos hpk]
  have e2 : handsFree ls = handsTo ls ls.length := by unfold handsFree; rw [if_pos hok]
  refine ⟨?_, ⟨by omega, by omega, by omega, ?_⟩, ?_, fun x hx => ?_, ⟨by omega, by omega, ?_⟩, ?_⟩
  · cases c : shortSet ls ps with
    | some x =>
      rw [hsh] at c
      obtain ⟨s, s1, s2⟩ := first_has _ c
      unfold shortAt at s2
      split at s2
      · next h =>
        rw [iss, decide_eq_true_eq] at h
        cases d : firstCast ls ps with
        | none => rfl
        | some y =>
          have := hall.1 ⟨y, d⟩ s.testBit (fun _ _ => rfl)
          omega
      · cases s2
    | none =>
      have hn : ∀ s, s < M → isShort ls (partOf ps s) = false := fun s hs => by
        cases d : isShort ls (partOf ps s) with
        | false => rfl
        | true =>
          obtain ⟨y, hy⟩ := first_is (f := shortAt ls ps) (p := s) (x := partOf ps s) (by unfold shortAt; rw [if_pos d]) M hs
          rw [hsh, hy] at c
          cases c
      obtain ⟨x, hx⟩ := hall.2 fun Q _ => by
        obtain ⟨s, s1, s2, s3, _⟩ := num Q
        have a := hn s s1
        rw [iss, decide_eq_false_iff_not, s2, s3] at a
        omega
      rw [hx]
      rfl
  · rw [hle]
    rcases most_is ls ps M with m0 | ⟨t, _, ⟨x, hx⟩, t2⟩
    · rw [m0, e2]; have := hands_small hok ls.length (Nat.le_refl _); omega
    · have := (handFacts hok (hrp t)).found x hx
      rw [← t2]
      exact this.2.2.1
  · rw [hla, Bool.eq_iff_iff, decide_eq_true_eq, okb, okl]
  · rw [hsh] at hx
    obtain ⟨s, s1, s2⟩ := first_has _ hx
    unfold shortAt at s2
    split at s2
    · next h =>
      rw [← Option.some.inj s2]
      refine ⟨h, fun z hz => ?_⟩
      obtain ⟨i, a, _, e⟩ := part_mem ps s ps.length hz
      rw [e, List.getD_eq_getElem?_getD, List.getElem?_eq_getElem a]
      exact List.getElem_mem a
    · cases s2
  · unfold isShort
    rw [decide_eq_true (by omega), Bool.true_and]
  · unfold handsFor
    have e0 : proofOk ls [] = true := by unfold proofOk; rw [hok]; rfl
    rw [if_pos e0]
    have : ∀ k, hforTo ls [] k = 0 := fun k => by
      induction k with
      | zero => rfl
      | succ k ih => rw [hforTo, ih, if_neg (by intro h; cases h)]
    exact this _
end Go.Proofs.Ytjpalndcfaeihaa
