/- All castings in their order: the first of them is the one that the search finds. No condition. -/
import Derived.Test.YtanlfkkmnnjpeaaPrfM
import Derived.Test.YtanlfkkmnnjpeaaHaxM
namespace Go.Proofs.Ytanlfkkmnnjpeaa
set_option linter.unusedVariables false
set_option linter.unusedSimpArgs false
open Go.RowKit

/-- The n digits of x, the highest first. -/
def dig (b : Nat) : Nat → Nat → List Int
  | 0, _ => []
  | n + 1, x => dig b n (x / b) ++ [((x % b : Nat) : Int)]
theorem dig_len (b : Nat) : ∀ n x, (dig b n x).length = n := by
  intro n
  induction n with
  | zero => intro _; rfl
  | succ n ih => intro x; rw [dig, List.length_append, ih, List.length_singleton]
theorem dig_cons {b : Nat} (hb : 0 < b) : ∀ r p y, p < b → y < b ^ r → dig b (r + 1) (p * b ^ r + y) = (p : Int) :: dig b r y := by
  intro r
  induction r with
  | zero =>
    intro p y hp hy
    obtain rfl : y = 0 := by simpa using hy
    rw [dig, dig, dig, Nat.pow_zero, Nat.mul_one, Nat.add_zero, Nat.mod_eq_of_lt hp]
    rfl
  | succ r ih =>
    intro p y hp hy
    have e1 : (p * b ^ (r + 1) + y) / b = p * b ^ r + y / b := by
      rw [Nat.pow_succ, ← Nat.mul_assoc, Nat.mul_comm (p * b ^ r) b, Nat.mul_add_div hb]
    have e2 : (p * b ^ (r + 1) + y) % b = y % b := by
      rw [Nat.pow_succ, ← Nat.mul_assoc, Nat.mul_comm (p * b ^ r) b, Nat.mul_add_mod]
    rw [dig, e1, e2, ih p (y / b) hp ((Nat.div_lt_iff_lt_mul hb).2 (by rw [← Nat.pow_succ]; exact hy))]
    rw [dig.eq_2 b y r]
    rfl
theorem first_congr {f g : Nat → Option (List Int)} : ∀ n, (∀ p, p < n → f p = g p) → firstOf f n = firstOf g n := by
  intro n
  induction n with
  | zero => intro _; rfl
  | succ n ih => intro h; rw [firstOf, firstOf, ih (fun p hp => h p (by omega)), h n (by omega)]
theorem first_add (f : Nat → Option (List Int)) (a : Nat) : ∀ c, firstOf f (a + c) = match firstOf f a with | some x => some x | none => firstOf (fun y => f (a + y)) c := by
  intro c
  induction c with
  | zero => rw [Nat.add_zero]; cases firstOf f a <;> rfl
  | succ c ih =>
    rw [show a + (c + 1) = (a + c) + 1 from rfl, firstOf, ih]
    cases firstOf f a with
    | some x => rfl
    | none => rfl
theorem first_mul (f : Nat → Option (List Int)) (c : Nat) : ∀ b, firstOf f (b * c) = firstOf (fun p => firstOf (fun y => f (p * c + y)) c) b := by
  intro b
  induction b with
  | zero => rw [Nat.zero_mul]; rfl
  | succ b ih => rw [Nat.succ_mul, first_add, ih, firstOf]; cases firstOf (fun p => firstOf (fun y => f (p * c + y)) c) b <;> rfl
theorem cnt_pre (zs ws : List Int) (k : Int) : ∀ i, i ≤ zs.length → cntI (zs ++ ws) k i = cntI zs k i := by
  intro i
  induction i with
  | zero => intro _; rfl
  | succ i ih =>
    intro h
    rw [cntI, cntI, ih (by omega), List.getD_eq_getElem?_getD, List.getElem?_append_left (by omega), ← List.getD_eq_getElem?_getD]
theorem cnt_up (zs : List Int) (k : Int) {i j : Nat} (h : i ≤ j) : cntI zs k i ≤ cntI zs k j := by
  induction j with
  | zero => rw [Nat.le_zero.1 h]; exact Int.le_refl _
  | succ j ih =>
    rcases Nat.lt_or_ge i (j + 1) with c | c
    · have := ih (by omega)
      rw [cntI]
      split <;> omega
    · rw [show i = j + 1 by omega]; exact Int.le_refl _
def castOr (ls : List RPlayer) (ps x : List Int) : Option (List Int) := if isCasting ls ps x = true then some x else none
section
variable {ls : List RPlayer} {ps : List Int} (hok : playersOk ls = true) (hr : rising ps 6 = true)
include hok hr
theorem far_full {cast load : List Int} (h : Far ls ps cast load) (hl : cast.length = ps.length) : isCasting ls ps cast = true := by
  unfold isCasting
  rw [hok, hr, decide_eq_true hl, range_yes h.cast, range_yes fun k hk => ?_]
  · rfl
  · have := h.at_ k hk
    unfold fr at this
    unfold loadFit
    rw [decide_eq_false (by omega)]
    rfl
theorem far_stuck {cast load : List Int} (h : Far ls ps cast load) (hc : cast.length < ps.length) {p : Nat} (hp : p < ls.length) (hf : freeFor ls load (ps.getD cast.length 0) p = false) (tail : List Int) : isCasting ls ps (cast ++ (p : Int) :: tail) = false := by
  unfold isCasting
  rw [hok, hr, Bool.true_and, Bool.true_and]
  by_cases hl : (cast ++ (p : Int) :: tail).length = ps.length
  · rw [decide_eq_true hl, Bool.true_and]
    unfold freeFor at hf
    by_cases q : load.getD p 0 < (ls.getD p RPlayer.zero).f1
    · rw [decide_eq_true q, Bool.true_and] at hf
      rw [range_no (k := cast.length) (by rw [List.length_append]; simp) ?_, Bool.false_and]
      unfold castAt
      rw [List.getD_eq_getElem?_getD, List.getElem?_append_right (Nat.le_refl _), Nat.sub_self]
      show (inB (p : Int) 0 _ && knowsB (ls.getD (p : Int).toNat RPlayer.zero) _) = false
      rw [Int.toNat_natCast, hf, Bool.and_false]
    · rw [range_no (n := ls.length) (k := p) hp ?_, Bool.and_false]
      have a := (h.at_ p hp).1
      have e : cast ++ (p : Int) :: tail = (cast ++ [(p : Int)]) ++ tail := by simp
      have b := cnt_pre (cast ++ [(p : Int)]) tail (p : Int) (cast ++ [(p : Int)]).length (Nat.le_refl _)
      rw [cnt_more, if_pos rfl] at b
      have c := cnt_up ((cast ++ [(p : Int)]) ++ tail) (p : Int) (i := (cast ++ [(p : Int)]).length) (j := ((cast ++ [(p : Int)]) ++ tail).length) (by simp only [List.length_append]; omega)
      unfold loadFit
      rw [e, decide_eq_true (by omega)]
      rfl
  · rw [decide_eq_false hl, Bool.false_and]
/-- The search goes through the castings in their order. -/
theorem srch_first : ∀ r cast load, Far ls ps cast load → cast.length + r = ps.length → srch ls ps r cast load = firstOf (fun y => castOr ls ps (cast ++ dig ls.length r y)) (ls.length ^ r) := by
  intro r
  induction r with
  | zero =>
    intro cast load h hl
    rw [srch, Nat.pow_zero, firstOf, firstOf]
    show some cast = castOr ls ps (cast ++ [])
    rw [List.append_nil]
    unfold castOr
    rw [if_pos (far_full hok hr h (by omega))]
  | succ r ih =>
    intro cast load h hl
    have hb : 0 < ls.length := by have := (playersOk_has hok).1; omega
    rw [srch, show ls.length ^ (r + 1) = ls.length * ls.length ^ r by rw [Nat.pow_succ, Nat.mul_comm], first_mul]
    refine first_congr _ fun p hp => ?_
    show (if freeFor ls load (ps.getD cast.length 0) p = true then _ else none) = firstOf (fun y => castOr ls ps (cast ++ dig ls.length (r + 1) (p * ls.length ^ r + y))) (ls.length ^ r)
    have e : firstOf (fun y => castOr ls ps (cast ++ dig ls.length (r + 1) (p * ls.length ^ r + y))) (ls.length ^ r) = firstOf (fun y => castOr ls ps (cast ++ (p : Int) :: dig ls.length r y)) (ls.length ^ r) := first_congr _ fun y hy => by
      rw [dig_cons hb r p y hp hy]
    rw [e]
    cases c : freeFor ls load (ps.getD cast.length 0) p with
    | true =>
      rw [if_pos rfl, ih _ _ (far_next h hp (by omega) c) (by rw [List.length_append, List.length_singleton]; omega)]
      exact first_congr _ fun y _ => by rw [List.append_assoc]; rfl
    | false =>
      rw [if_neg (by simp), first_none _ fun y _ => ?_]
      unfold castOr
      rw [far_stuck hok hr h (by omega) hp c, if_neg (by simp)]
end
/-- The castings among the first x. -/
def castsTo (f : Nat → Option (List Int)) : Nat → List (List Int)
  | 0 => []
  | x + 1 => match f x with
    | some c => castsTo f x ++ [c]
    | none => castsTo f x
theorem casts_head (f : Nat → Option (List Int)) : ∀ n, (castsTo f n).head? = firstOf f n := by
  intro n
  induction n with
  | zero => rfl
  | succ n ih =>
    rw [castsTo, firstOf, ← ih]
    cases f n with
    | none => cases castsTo f n <;> rfl
    | some c => cases castsTo f n <;> rfl
theorem casts_mem {f : Nat → Option (List Int)} {c : List Int} : ∀ n, c ∈ castsTo f n → ∃ x, x < n ∧ f x = some c := by
  intro n
  induction n with
  | zero => intro h; cases h
  | succ n ih =>
    intro h
    rw [castsTo] at h
    cases e : f n with
    | none => rw [e] at h; obtain ⟨x, a, b⟩ := ih h; exact ⟨x, by omega, b⟩
    | some d =>
      rw [e] at h
      rcases List.mem_append.1 h with q | q
      · obtain ⟨x, a, b⟩ := ih q; exact ⟨x, by omega, b⟩
      · exact ⟨n, by omega, by rw [e, List.mem_singleton.1 q]⟩
theorem casts_len (f : Nat → Option (List Int)) : ∀ n, (castsTo f n).length ≤ n := by
  intro n
  induction n with
  | zero => exact Nat.le_refl _
  | succ n ih =>
    rw [castsTo]
    cases f n with
    | none => exact Nat.le_succ_of_le ih
    | some c => rw [List.length_append, List.length_singleton]; omega
def castingsOf (ls : List RPlayer) (ps : List Int) : List (List Int) :=
  if (proofOk ls ps && decide (ps.length ≤ 4)) = true then castsTo (fun x => castOr ls ps (dig ls.length ps.length x)) (ls.length ^ ps.length) else []
theorem castings_mem {ls : List RPlayer} {ps c : List Int} (h : c ∈ castingsOf ls ps) : isCasting ls ps c = true := by
  unfold castingsOf at h
  split at h
  · obtain ⟨x, _, e⟩ := casts_mem _ h
    unfold castOr at e
    split at e
    · next q => rw [← Option.some.inj e]; exact q
    · cases e
  · cases h
/-- The first of all castings is the one that the search finds. -/
theorem castings_head {ls : List RPlayer} {ps : List Int} (h : proofOk ls ps = true) (h4 : ps.length ≤ 4) : (castingsOf ls ps).head? = firstCast ls ps := by
  have hk : playersOk ls = true ∧ rising ps 6 = true := by unfold proofOk at h; rwa [Bool.and_eq_true] at h
  unfold castingsOf
  rw [h, decide_eq_true h4, if_pos (by rfl), casts_head]
  unfold firstCast
  rw [hk.1, hk.2, if_pos (by rfl), srch_first hk.1 hk.2 _ _ _ (far_start hk.1 ps) (by simp)]
  rfl
end Go.Proofs.Ytanlfkkmnnjpeaa
