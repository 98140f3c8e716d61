/- Crossings: undoing leads back, reducing keeps the order and leaves no pair, everybody who passes in front is counted: plain mathematics. -/
import Derived.Test.YthijfipjfdmoeaaCrsM
namespace Go.Proofs.Ythijfipjfdmoeaa
set_option linter.unusedVariables false
set_option linter.unusedSimpArgs false

theorem start_at {n k : Nat} (h : k < n) : atI (startL n) k = (k : Int) := by
  rw [atI_of (by rw [startL_len]; exact h)]
  simp [startL]
theorem start_ord {n : Nat} (h : 1 ≤ n ∧ n ≤ 7) : IsOrd (startL n) := by
  refine ord_of (by rw [startL_len]; exact h) (fun k hk => ?_) (fun i j hi hj hij => ?_)
  · rw [startL_len] at hk ⊢
    rw [start_at hk]
    omega
  · rw [startL_len] at hi hj
    rw [start_at hi, start_at hj]
    omega
/-- A crossing of n puppets. -/
def Fits (n : Nat) (l : RCross) : Prop := 0 ≤ l.f0 ∧ l.f0 + 2 ≤ (n : Int)
theorem fits_turned {n : Nat} {l : RCross} (h : Fits n l) : Fits n (turned l) := h
section
variable {n : Nat} {zs : List Int} {l x : RCross} {ls : List RCross}
theorem stepA_swap (ho : IsOrd zs) (hn : zs.length = n) (h : Fits n l) : stepA zs l = swapL zs l.f0.toNat := by
  obtain ⟨q, hq⟩ := Int.eq_ofNat_of_zero_le h.1
  have h2 := h.2
  unfold stepA
  rw [hq, swapR_yes ho (by omega), Int.toNat_natCast]
theorem stepA_ord (ho : IsOrd zs) (hn : zs.length = n) (h : Fits n l) : IsOrd (stepA zs l) := by
  rw [stepA_swap ho hn h]
  exact swap_ord ho (by have := h.2; have := h.1; omega)
theorem stepA_twice (ho : IsOrd zs) (hn : zs.length = n) (h : Fits n l) (he : x.f0 = l.f0) : stepA (stepA zs l) x = zs := by
  have hx : Fits n x := by unfold Fits; rw [he]; exact h
  rw [stepA_swap (stepA_ord ho hn h) (by rw [stepA_len]; exact hn) hx, stepA_swap ho hn h, he]
  exact swap_back (by have := h.2; have := h.1; omega)
theorem run_ord (hf : ∀ l ∈ ls, Fits n l) : ∀ {zs : List Int}, IsOrd zs → zs.length = n → IsOrd (ls.foldl stepA zs) := by
  induction ls with
  | nil => exact fun ho _ => ho
  | cons l ls ih => exact fun ho hn => ih (fun x hx => hf x (List.mem_cons_of_mem _ hx)) (stepA_ord ho hn (hf l List.mem_cons_self)) (by rw [stepA_len]; exact hn)
theorem undo_cons (l : RCross) (ls : List RCross) : undo (l :: ls) = undo ls ++ [turned l] := by simp [undo]
/-- Undoing leads back. -/
theorem run_undo (hf : ∀ l ∈ ls, Fits n l) : ∀ {zs : List Int}, IsOrd zs → zs.length = n → (undo ls).foldl stepA (ls.foldl stepA zs) = zs := by
  induction ls with
  | nil => exact fun _ _ => rfl
  | cons l ls ih =>
    intro zs ho hn
    have h1 := hf l List.mem_cons_self
    rw [undo_cons, List.foldl_append]
    show stepA ((undo ls).foldl stepA (ls.foldl stepA (stepA zs l))) (turned l) = zs
    rw [ih (fun x hx => hf x (List.mem_cons_of_mem _ hx)) (stepA_ord ho hn h1) (by rw [stepA_len]; exact hn)]
    exact stepA_twice ho hn h1 rfl
theorem push_cases (out : List RCross) (l : RCross) : (∃ pre x, out = pre ++ [x] ∧ undoes x l = true ∧ push out l = pre) ∨ (push out l = out ++ [l] ∧ ∀ pre x, out = pre ++ [x] → undoes x l = false) := by
  rcases List.eq_nil_or_concat out with rfl | ⟨pre, x, rfl⟩
  · exact .inr ⟨rfl, fun pre x h => by simp at h⟩
  · have e : push (pre ++ [x]) l = if undoes x l = true then pre else pre ++ [x] ++ [l] := by unfold push; simp
    simp only [List.concat_eq_append]
    cases hu : undoes x l with
    | true => exact .inl ⟨pre, x, rfl, hu, by rw [e, if_pos hu]⟩
    | false =>
      refine .inr ⟨by rw [e, if_neg (by rw [hu]; decide)], fun p y h => ?_⟩
      have := List.append_inj' h rfl
      rw [← List.singleton_inj.1 this.2]
      exact hu
theorem undoes_at {x l : RCross} (h : undoes x l = true) : x.f0 = l.f0 ∧ turned l = x := by
  unfold undoes at h
  rw [Bool.and_eq_true, decide_eq_true_eq] at h
  refine ⟨h.1, ?_⟩
  obtain ⟨a, b⟩ := x
  obtain ⟨c, d⟩ := l
  obtain ⟨h1, h2⟩ := h
  simp only at h1 h2
  subst h1
  cases b <;> cases d <;> simp_all [turned]
/-- Reducing keeps the order. -/
theorem push_run (out : List RCross) (hf : ∀ x ∈ out, Fits n x) (hl : Fits n l) (ho : IsOrd zs) (hn : zs.length = n) : (push out l).foldl stepA zs = stepA (out.foldl stepA zs) l := by
  rcases push_cases out l with ⟨pre, x, rfl, hu, e⟩ | ⟨e, _⟩
  · have hp : ∀ y ∈ pre, Fits n y := fun y hy => hf y (List.mem_append_left _ hy)
    rw [e, List.foldl_append]
    exact (stepA_twice (run_ord hp ho hn) (by rw [foldA_len]; exact hn) (hf x (by simp)) (undoes_at hu).1.symm).symm
  · rw [e, List.foldl_append]
    rfl
theorem push_fits (out : List RCross) (hf : ∀ x ∈ out, Fits n x) (hl : Fits n l) : ∀ x ∈ push out l, Fits n x := by
  rcases push_cases out l with ⟨pre, x, rfl, hu, e⟩ | ⟨e, _⟩
  · rw [e]
    exact fun y hy => hf y (List.mem_append_left _ hy)
  · rw [e]
    intro y hy
    rcases List.mem_append.1 hy with h | h
    · exact hf y h
    · rw [List.mem_singleton.1 h]; exact hl
theorem red_run (hf : ∀ l ∈ ls, Fits n l) (ho : IsOrd zs) (hn : zs.length = n) : ∀ (out : List RCross), (∀ x ∈ out, Fits n x) → (ls.foldl push out).foldl stepA zs = ls.foldl stepA (out.foldl stepA zs) ∧ ∀ x ∈ ls.foldl push out, Fits n x := by
  induction ls with
  | nil => exact fun out h => ⟨rfl, h⟩
  | cons l ls ih =>
    intro out h
    have h1 := hf l List.mem_cons_self
    obtain ⟨i1, i2⟩ := ih (fun x hx => hf x (List.mem_cons_of_mem _ hx)) (push out l) (push_fits out h h1)
    refine ⟨?_, i2⟩
    rw [List.foldl_cons, i1, push_run out h h1 ho hn, List.foldl_cons]
theorem red_even (ls : List RCross) : ∀ (out : List RCross), ∃ m, out.length + ls.length = (ls.foldl push out).length + 2 * m := by
  induction ls with
  | nil => exact fun out => ⟨0, rfl⟩
  | cons l ls ih =>
    intro out
    obtain ⟨m, hm⟩ := ih (push out l)
    rcases push_cases out l with ⟨pre, x, rfl, hu, e⟩ | ⟨e, _⟩
    · rw [e] at hm
      exact ⟨m + 1, by rw [List.foldl_cons, e, List.length_cons, List.length_append, List.length_singleton]; omega⟩
    · rw [e, List.length_append, List.length_singleton] at hm
      exact ⟨m, by rw [List.foldl_cons, e, List.length_cons]; omega⟩
/-- No two that follow each other undo each other. -/
def NoPair (out : List RCross) : Prop := ∀ k (h : k + 1 < out.length), undoes out[k] out[k + 1] = false
theorem noPair_left {a b : List RCross} (h : NoPair (a ++ b)) : NoPair a := by
  intro k hk
  have := h k (by rw [List.length_append]; omega)
  rwa [List.getElem_append_left (by omega), List.getElem_append_left (by omega)] at this
theorem noPair_push {out : List RCross} (h : NoPair out) (l : RCross) : NoPair (push out l) := by
  rcases push_cases out l with ⟨pre, x, rfl, hu, e⟩ | ⟨e, hl⟩
  · rw [e]
    exact noPair_left h
  · rw [e]
    intro k hk
    rw [List.length_append, List.length_singleton] at hk
    rcases Nat.lt_or_ge (k + 1) out.length with c | c
    · rw [List.getElem_append_left (by omega), List.getElem_append_left c]
      exact h k c
    · have hk1 : k + 1 = out.length := by omega
      rw [List.getElem_append_left (by omega), List.getElem_append_right (by omega)]
      simp only [hk1, Nat.sub_self, List.getElem_cons_zero]
      refine hl (out.take k) _ ?_
      rw [← List.take_succ_eq_append_getElem (by omega), hk1, List.take_length]
theorem noPair_red (ls : List RCross) : ∀ (out : List RCross), NoPair out → NoPair (ls.foldl push out) := by
  induction ls with
  | nil => exact fun out h => h
  | cons l ls ih => exact fun out h => ih _ (noPair_push h l)
theorem push_back {out : List RCross} (h : NoPair out) (l : RCross) : push (push out l) (turned l) = out := by
  rcases push_cases out l with ⟨pre, x, rfl, hu, e⟩ | ⟨e, _⟩
  · rw [e, (undoes_at hu).2]
    rcases push_cases pre x with ⟨p2, y, rfl, hy, e2⟩ | ⟨e2, _⟩
    · have := h p2.length (by simp)
      simp [List.getElem_append] at this
      rw [hy] at this
      cases this
    · exact e2
  · rw [e]
    have hu : undoes l (turned l) = true := by
      unfold undoes turned
      cases l.f1 <;> simp
    rcases push_cases (out ++ [l]) (turned l) with ⟨pre, x, h1, _, e2⟩ | ⟨_, hh⟩
    · have := List.append_inj' h1 rfl
      rw [e2, this.1]
    · have := hh out l rfl
      rw [hu] at this
      cases this
/-- Whatever is undone is reduced to nothing. -/
theorem red_undo (ls : List RCross) : ∀ (out : List RCross), NoPair out → (undo ls).foldl push (ls.foldl push out) = out := by
  induction ls with
  | nil => exact fun _ _ => rfl
  | cons l ls ih =>
    intro out h
    rw [undo_cons, List.foldl_append]
    show push ((undo ls).foldl push (ls.foldl push (push out l))) (turned l) = out
    rw [ih _ (noPair_push h l)]
    exact push_back h l
end

theorem ok_fits {n : Int} {ls : List RCross} (h : crossOk n ls = true) : (1 ≤ n.toNat ∧ n.toNat ≤ 7) ∧ (n.toNat : Int) = n ∧ ls.length ≤ 40 ∧ ∀ l ∈ ls, Fits n.toNat l := by
  obtain ⟨h1, h2, h3⟩ := crossOk_has h
  have h1' : 1 ≤ n ∧ n ≤ 7 := by simpa [inB] using h1
  refine ⟨by omega, by omega, h2, fun l hl => ?_⟩
  obtain ⟨k, hk, rfl⟩ := List.mem_iff_getElem.1 hl
  have := h3 k hk
  have h4 : 0 ≤ ls[k].f0 ∧ ls[k].f0 ≤ n - 2 := by simpa [inB] using this
  unfold Fits
  omega
theorem ok_of {n : Nat} {ls : List RCross} (h1 : 1 ≤ n ∧ n ≤ 7) (h2 : ls.length ≤ 40) (h3 : ∀ l ∈ ls, Fits n l) : crossOk (n : Int) ls = true :=
  crossOk_yes (inB_yes (by omega)) h2 fun k hk => inB_yes (by have := h3 _ (List.getElem_mem hk); unfold Fits at this; omega)
/-- All that FnCrossings asks of valid crossings. -/
structure CrossFacts (n : Int) (ls : List RCross) : Prop where
  ordLen : ((ordAfter n ls).length : Int) = n
  pairLen : (pairsOf n ls).length = ls.length
  redOrd : ordAfter n (reduced n ls) = ordAfter n ls
  redLen : ∃ m, ls.length = (reduced n ls).length + 2 * m
  bothOrd : ls.length ≤ 20 → ordAfter n (ls ++ undo ls) = ordAfter n []
  bothRed : ls.length ≤ 20 → reduced n (ls ++ undo ls) = []
  pair : ∀ k (h : k < (pairsOf n ls).length), ∃ a b, (pairsOf n ls)[k] = [a, b] ∧ a ≠ b ∧ (0 ≤ a ∧ a < n) ∧ (0 ≤ b ∧ b < n)
  noPair : NoPair (reduced n ls)
theorem nowAt_ord {n : Int} {ls : List RCross} (h : crossOk n ls = true) (k : Nat) : IsOrd (nowAt n ls k) := by
  obtain ⟨h1, h2, h3, h4⟩ := ok_fits h
  exact run_ord (fun l hl => h4 l (List.mem_of_mem_take hl)) (start_ord h1) (startL_len _)
theorem crossFacts {n : Int} {ls : List RCross} (h : crossOk n ls = true) : CrossFacts n ls := by
  obtain ⟨h1, h2, h3, h4⟩ := ok_fits h
  have so := start_ord h1
  have sl := startL_len n.toNat
  have e1 : ordAfter n ls = ls.foldl stepA (startL n.toNat) := by unfold ordAfter nowAt; rw [if_pos h, List.take_length]
  have e2 : reduced n ls = ls.foldl push [] := by unfold reduced redTo; rw [if_pos h, List.take_length]
  have e3 : pairsOf n ls = pairsTo n ls ls.length := by unfold pairsOf; rw [if_pos h]
  obtain ⟨r1, r2⟩ := red_run h4 so sl [] (by simp)
  obtain ⟨m, hm⟩ := red_even ls []
  have hz : crossOk n [] = true := by rw [← h2]; exact ok_of h1 (by simp) (by simp)
  have hr : crossOk n (reduced n ls) = true := by
    rw [e2]
    rw [← h2] at *
    exact ok_of h1 (by simp at hm; omega) r2
  have hb : ls.length ≤ 20 → crossOk n (ls ++ undo ls) = true := fun hl => by
    rw [← h2]
    refine ok_of h1 (by rw [List.length_append, undo_len]; omega) fun l hx => ?_
    rcases List.mem_append.1 hx with c | c
    · exact h4 l c
    · unfold undo at c
      rw [List.mem_reverse, List.mem_map] at c
      obtain ⟨y, hy, rfl⟩ := c
      exact fits_turned (h4 y hy)
  refine ⟨?_, ?_, ?_, ?_, ?_, ?_, ?_, ?_⟩
  · rw [e1, foldA_len, sl]; exact h2
  · rw [e3, pairsTo_len]
  · rw [e1, ← List.foldl_nil (f := stepA) (b := startL n.toNat)]
    conv => lhs; unfold ordAfter nowAt; rw [if_pos hr, List.take_length, e2]
    exact r1
  · exact ⟨m, by rw [e2]; simpa using hm⟩
  · intro hl
    unfold ordAfter nowAt
    rw [if_pos (hb hl), if_pos hz, List.take_length, List.take_length, List.foldl_append, run_undo h4 so sl]
    rfl
  · intro hl
    unfold reduced redTo
    rw [if_pos (hb hl), List.take_length, List.foldl_append]
    exact red_undo ls [] (fun k hk => by simp at hk)
  · intro k hk
    have hk' : k < ls.length := by rw [e3, pairsTo_len] at hk; exact hk
    have ho := nowAt_ord h k
    have hn := nowAt_len n ls k
    obtain ⟨q1, q2⟩ := ord_at ho
    rw [hn] at q1 q2
    have hf := h4 _ (List.getElem_mem hk')
    unfold Fits at hf
    have ee : (pairsOf n ls)[k] = pairC (nowAt n ls k) ls[k] := by
      simp [e3, pairsTo, List.getD_eq_getElem?_getD, List.getElem?_eq_getElem hk']
    have a1 := q1 (ls[k].f0.toNat) (by omega)
    have a2 := q1 (ls[k].f0.toNat + 1) (by omega)
    have a3 := q2 (ls[k].f0.toNat) (ls[k].f0.toNat + 1) (by omega) (by omega) (by omega)
    rw [ee]
    unfold pairC
    split
    · exact ⟨_, _, rfl, a3, by omega, by omega⟩
    · exact ⟨_, _, rfl, fun e => a3 e.symm, by omega, by omega⟩
  · rw [e2]
    exact noPair_red ls [] (fun k hk => by simp at hk)
/-- Who passes in front among the first m puppets. -/
def frontBelow (m : Int) (zss : List (List Int)) : Nat := zss.countP fun z => decide (0 ≤ atI z 0 ∧ atI z 0 < m)
theorem frontBelow_more (m : Nat) (zss : List (List Int)) : frontBelow ((m + 1 : Nat) : Int) zss = frontBelow (m : Int) zss + frontTo (m : Int) zss zss.length := by
  unfold frontBelow frontTo
  rw [List.take_length]
  induction zss with
  | nil => rfl
  | cons z zs ih =>
    rw [List.countP_cons, List.countP_cons, List.countP_cons, ih]
    by_cases a : 0 ≤ atI z 0 ∧ atI z 0 < (m : Int)
    · rw [if_pos (decide_eq_true (p := 0 ≤ atI z 0 ∧ atI z 0 < ((m + 1 : Nat) : Int)) (by omega)), if_pos (decide_eq_true a), if_neg (by simp; omega)]
      omega
    · by_cases b : atI z 0 = (m : Int)
      · rw [if_pos (decide_eq_true (p := 0 ≤ atI z 0 ∧ atI z 0 < ((m + 1 : Nat) : Int)) (by omega)), if_neg (by simpa using a), if_pos (decide_eq_true b)]
        omega
      · rw [if_neg (by simp; omega), if_neg (by simpa using a), if_neg (by simpa using b)]
        omega
theorem frontBelow_zero (zss : List (List Int)) : frontBelow 0 zss = 0 := by
  unfold frontBelow
  rw [List.countP_eq_zero]
  intro z _
  simp
theorem frontBelow_all {n : Int} {zss : List (List Int)} (h : ∀ k (h : k < zss.length), 0 ≤ atI zss[k] 0 ∧ atI zss[k] 0 < n) : frontBelow n zss = zss.length := by
  unfold frontBelow
  rw [List.countP_eq_length]
  intro z hz
  obtain ⟨k, hk, rfl⟩ := List.mem_iff_getElem.1 hz
  exact decide_eq_true (h k hk)
end Go.Proofs.Ythijfipjfdmoeaa
