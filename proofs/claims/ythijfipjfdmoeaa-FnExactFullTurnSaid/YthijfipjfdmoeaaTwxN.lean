/- Twists: sums over pairs, the table's entries, the wound pairs, the least undoing: all that FnTwists asks. No condition. -/
import Derived.Test.YthijfipjfdmoeaaTwxM
namespace Go.Proofs.Ythijfipjfdmoeaa
set_option linter.unusedVariables false
set_option linter.unusedSimpArgs false

def rsum (f : Nat → Nat → Int) (i : Nat) : Nat → Int
  | 0 => 0
  | k + 1 => rsum f i k + f i k
/-- The sum over all pairs k < i < n. -/
def dsum (f : Nat → Nat → Int) : Nat → Int
  | 0 => 0
  | i + 1 => dsum f i + rsum f i i
section
variable {f g : Nat → Nat → Int} {n i : Nat}
theorem rsum_congr (m : Nat) (h : ∀ k, k < m → f i k = g i k) : rsum f i m = rsum g i m := by
  induction m with
  | zero => rfl
  | succ m ih => rw [rsum, rsum, ih (fun k hk => h k (by omega)), h m (by omega)]
theorem dsum_congr (h : ∀ i k, i < n → k < i → f i k = g i k) : dsum f n = dsum g n := by
  induction n with
  | zero => rfl
  | succ n ih => rw [dsum, dsum, ih (fun i k hi hk => h i k (by omega) hk), rsum_congr n (fun k hk => h n k (by omega) hk)]
theorem rsum_le (m : Nat) (h : ∀ k, k < m → f i k ≤ g i k) : rsum f i m ≤ rsum g i m := by
  induction m with
  | zero => exact Int.le_refl _
  | succ m ih =>
    have h1 := ih (fun k hk => h k (by omega))
    have h2 := h m (by omega)
    rw [rsum, rsum]
    omega
theorem dsum_le (h : ∀ i k, i < n → k < i → f i k ≤ g i k) : dsum f n ≤ dsum g n := by
  induction n with
  | zero => exact Int.le_refl _
  | succ n ih =>
    have h1 := ih (fun i k hi hk => h i k (by omega) hk)
    have h2 := rsum_le (f := f) (g := g) (i := n) n (fun k hk => h n k (by omega) hk)
    rw [dsum, dsum]
    omega
theorem rsum_one (u v m : Nat) (s : Int) : rsum (fun i k => f i k + if i = u ∧ k = v then s else 0) i m = rsum f i m + if i = u ∧ v < m then s else 0 := by
  induction m with
  | zero => rw [rsum, rsum, if_neg (by omega)]; rfl
  | succ m ih =>
    rw [rsum, rsum, ih]
    by_cases a : i = u
    · by_cases b : m = v
      · rw [if_neg (by omega), if_pos ⟨a, b⟩, if_pos ⟨a, by omega⟩]; omega
      · by_cases c : v < m
        · rw [if_pos ⟨a, c⟩, if_neg (by omega), if_pos ⟨a, by omega⟩]; omega
        · rw [if_neg (by omega), if_neg (by omega), if_neg (by omega)]; omega
    · rw [if_neg (by omega), if_neg (by omega), if_neg (by omega)]; omega
theorem dsum_one {u v : Nat} (h : v < u) (s : Int) : dsum (fun i k => f i k + if i = u ∧ k = v then s else 0) n = dsum f n + if u < n then s else 0 := by
  induction n with
  | zero => rw [dsum, dsum, if_neg (by omega)]; rfl
  | succ n ih =>
    rw [dsum, dsum, ih, rsum_one]
    by_cases a : n = u
    · rw [if_neg (by omega), if_pos (by omega), if_pos (by omega)]; omega
    · by_cases b : u < n
      · rw [if_pos b, if_neg (by omega), if_pos (by omega)]; omega
      · rw [if_neg b, if_neg (by omega), if_neg (by omega)]; omega
theorem rsum_zero (m : Nat) : rsum (fun _ _ => 0) i m = 0 := by
  induction m with
  | zero => rfl
  | succ m ih => rw [rsum, ih]; rfl
theorem dsum_zero (n : Nat) : dsum (fun _ _ => 0) n = 0 := by
  induction n with
  | zero => rfl
  | succ n ih => rw [dsum, ih, rsum_zero]; rfl
end
section
variable {n : Nat} {zs : List Int} {l : RCross} {ls : List RCross}
/-- The pair of a crossing, the greater one first. -/
theorem hit_pair (ho : IsOrd zs) (hn : zs.length = n) (h : Fits n l) : ∃ u v, v < u ∧ u < n ∧ ∀ i k, k < i → hit zs l i k = if i = u ∧ k = v then sgn l else 0 := by
  obtain ⟨q, _, e, hq⟩ := fits_nat h
  obtain ⟨r, o⟩ := ord_at ho
  have h1 := r q (by omega)
  have h2 := r (q + 1) (by omega)
  have h3 := o q (q + 1) (by omega) (by omega) (by omega)
  obtain ⟨a, ha⟩ := Int.eq_ofNat_of_zero_le h1.1
  obtain ⟨d, hd⟩ := Int.eq_ofNat_of_zero_le h2.1
  rcases Nat.lt_or_ge a d with c | c
  · refine ⟨d, a, c, by omega, fun i k hik => ?_⟩
    unfold hit
    rw [e, ha, hd]
    by_cases x : i = d ∧ k = a
    · rw [if_pos x, if_pos (by omega)]
    · rw [if_neg x, if_neg (by omega)]
  · refine ⟨a, d, by omega, by omega, fun i k hik => ?_⟩
    unfold hit
    rw [e, ha, hd]
    by_cases x : i = a ∧ k = d
    · rw [if_pos x, if_pos (by omega)]
    · rw [if_neg x, if_neg (by omega)]
def tot : List RCross → Int
  | [] => 0
  | l :: ls => sgn l + tot ls
theorem tot_append (xs ys : List RCross) : tot (xs ++ ys) = tot xs + tot ys := by
  induction xs with
  | nil => simp [tot]
  | cons l xs ih => rw [List.cons_append, tot, tot, ih, Int.add_assoc]
theorem totTo_tot (ls : List RCross) : ∀ k, k ≤ ls.length → totTo ls k = tot (ls.take k) := by
  intro k
  induction k with
  | zero => intro _; rfl
  | succ k ih =>
    intro hk
    rw [totTo, ih (by omega), List.take_succ_eq_append_getElem (by omega), tot_append, List.getD_eq_getElem?_getD, List.getElem?_eq_getElem (by omega)]
    simp [tot]
theorem tot_push (out : List RCross) (l : RCross) : tot (push out l) = tot out + sgn l := by
  rcases push_cases out l with ⟨pre, x, rfl, hu, e⟩ | ⟨e, _⟩
  · have es : sgn x = -sgn l := by
      rw [← (undoes_at hu).2]
      unfold sgn turned
      cases l.f1 <;> rfl
    rw [e, tot_append]
    simp only [tot]
    omega
  · rw [e, tot_append]
    simp [tot]
theorem tot_red (ls : List RCross) : ∀ out, tot (ls.foldl push out) = tot out + tot ls := by
  induction ls with
  | nil => intro out; simp [tot]
  | cons l ls ih => intro out; rw [List.foldl_cons, ih, tot_push, tot]; omega
/-- The twists of all pairs add up. -/
theorem tw_sum (hf : ∀ l ∈ ls, Fits n l) : ∀ {zs : List Int}, IsOrd zs → zs.length = n → dsum (tw zs ls) n = tot ls := by
  induction ls with
  | nil => intro zs _ _; exact dsum_zero n
  | cons l ls ih =>
    intro zs ho hn
    have h1 := hf l List.mem_cons_self
    obtain ⟨u, v, huv, hu, hh⟩ := hit_pair ho hn h1
    have := ih (fun x hx => hf x (List.mem_cons_of_mem _ hx)) (stepA_ord ho hn h1) (by rw [stepA_len]; exact hn)
    rw [dsum_congr (g := fun i k => tw (stepA zs l) ls i k + if i = u ∧ k = v then sgn l else 0) (fun i k _ hk => by rw [tw, hh i k hk]; omega), dsum_one huv, if_pos hu, this, tot]
    omega
theorem tw_abs (hf : ∀ l ∈ ls, Fits n l) : ∀ {zs : List Int}, IsOrd zs → zs.length = n → dsum (fun i k => absI (tw zs ls i k)) n ≤ ls.length := by
  induction ls with
  | nil =>
    intro zs _ _
    have e := dsum_congr (n := n) (f := fun i k => absI (tw zs [] i k)) (g := fun _ _ => 0) (fun i k _ _ => rfl)
    rw [e, dsum_zero]
    simp
  | cons l ls ih =>
    intro zs ho hn
    have h1 := hf l List.mem_cons_self
    obtain ⟨u, v, huv, hu, hh⟩ := hit_pair ho hn h1
    have h2 := ih (fun x hx => hf x (List.mem_cons_of_mem _ hx)) (stepA_ord ho hn h1) (by rw [stepA_len]; exact hn)
    have h3 := dsum_le (n := n) (f := fun i k => absI (tw zs (l :: ls) i k)) (g := fun i k => absI (tw (stepA zs l) ls i k) + if i = u ∧ k = v then 1 else 0) (fun i k _ hk => by
      have hs := sgn_small l
      simp only [tw, hh i k hk]
      unfold absI
      split <;> split <;> split <;> omega)
    rw [dsum_one huv, if_pos hu] at h3
    rw [List.length_cons]
    omega
end
theorem ent_tw {n : Int} {ls : List RCross} (h : crossOk n ls = true) {i k : Nat} (hi : i < n.toNat) (hk : k < n.toNat) : ∀ j, j ≤ ls.length → ent (tabTo n ls j) i k = tw (startL n.toNat) (ls.take j) i k := by
  obtain ⟨h1, h2, h3, h4⟩ := ok_fits h
  intro j
  induction j with
  | zero => intro _; rw [tabTo, ent_zero hi hk]; rfl
  | succ j ih =>
    intro hj
    have hjl : j < ls.length := by omega
    obtain ⟨a, d, e, had, ha, hd⟩ := duo_at h (k := j) (by omega)
    have hp : j < (pairsOf n ls).length := by rw [(crossFacts h).pairLen]; exact hjl
    have ee : (pairsOf n ls).getD j [] = pairC (nowAt n ls j) ls[j] := by
      rw [getD_row hp]
      have e3 : pairsOf n ls = pairsTo n ls ls.length := by unfold pairsOf; rw [if_pos h]
      simp [e3, pairsTo, List.getD_eq_getElem?_getD, List.getElem?_eq_getElem hjl]
    rw [tabTo, e, ent_step (tab_square h j (by omega)) had ha hd hi hk, ih (by omega), List.take_succ_eq_append_getElem hjl, tw_append]
    simp only [tw, Int.add_zero]
    rw [List.getD_eq_getElem?_getD, List.getElem?_eq_getElem hjl]
    have hn : (ls.take j).foldl stepA (startL n.toNat) = nowAt n ls j := rfl
    rw [hn]
    congr 1
    rw [ee] at e
    have hc : (((i : Int) = atI (nowAt n ls j) ls[j].f0.toNat ∧ (k : Int) = atI (nowAt n ls j) (ls[j].f0.toNat + 1)) ∨ ((i : Int) = atI (nowAt n ls j) (ls[j].f0.toNat + 1) ∧ (k : Int) = atI (nowAt n ls j) ls[j].f0.toNat)) ↔ ((i = a ∧ k = d) ∨ (i = d ∧ k = a)) := by
      unfold pairC at e
      split at e
      · have x1 := (List.cons.inj e).1
        have x2 := (List.cons.inj (List.cons.inj e).2).1
        rw [x1, x2]
        omega
      · have x1 := (List.cons.inj e).1
        have x2 := (List.cons.inj (List.cons.inj e).2).1
        rw [x1, x2]
        omega
    unfold hit
    by_cases c : (i = a ∧ k = d) ∨ (i = d ∧ k = a)
    · rw [if_pos c, if_pos (hc.2 c)]
      rfl
    · rw [if_neg c, if_neg (fun x => c (hc.1 x))]
theorem leastK_sum (t : List (List Int)) (i : Nat) : ∀ k, leastK t i k = rsum (fun i k => absI (ent t i k)) i k := by
  intro k
  induction k with
  | zero => rfl
  | succ k ih => rw [leastK, rsum, ih]
theorem leastI_sum (t : List (List Int)) : ∀ n, leastI t n = dsum (fun i k => absI (ent t i k)) n := by
  intro n
  induction n with
  | zero => rfl
  | succ n ih => rw [leastI, dsum, ih, leastK_sum]
/-- How many pairs are wound. -/
def wnd (t : List (List Int)) (i k : Nat) : Int := if ent t i k = 0 then 0 else 1
theorem woundK_count (t : List (List Int)) (i : Nat) : ∀ k, ((woundK t i k).length : Int) = rsum (fun i k => if i < k then wnd t i k else 0) i k := by
  intro k
  induction k with
  | zero => rfl
  | succ k ih =>
    rw [woundK, List.length_append, rsum, ← ih]
    unfold wnd
    by_cases a : i < k
    · by_cases b : ent t i k = 0
      · simp [a, b]
      · simp [a, b]
    · simp [a]
def usum (f : Nat → Nat → Int) (n : Nat) : Nat → Int
  | 0 => 0
  | i + 1 => usum f n i + rsum f i n
theorem usum_more (f : Nat → Nat → Int) (n : Nat) : ∀ m, usum (fun i k => if i < k then f i k else 0) (n + 1) m = usum (fun i k => if i < k then f i k else 0) n m + rsum (fun n i => if i < n then f i n else 0) n m := by
  intro m
  induction m with
  | zero => rfl
  | succ m ih => rw [usum, usum, ih, rsum, rsum]; omega
theorem usum_dsum (f : Nat → Nat → Int) : ∀ n, usum (fun i k => if i < k then f i k else 0) n n = dsum (fun i k => f k i) n := by
  intro n
  induction n with
  | zero => rfl
  | succ n ih =>
    have e1 : rsum (fun i k => if i < k then f i k else 0) n (n + 1) = 0 := by
      rw [rsum_congr (g := fun _ _ => 0) (n + 1) (fun k hk => by rw [if_neg (by omega)]), rsum_zero]
    have e2 : rsum (fun n i => if i < n then f i n else 0) n n = rsum (fun i k => f k i) n n := rsum_congr n (fun k hk => by rw [if_pos hk])
    rw [usum, usum_more, e1, e2, ih, dsum]
    omega
theorem woundI_count {n : Nat} {t : List (List Int)} (hs : Square n t) : ∀ m, ((woundI t m).length : Int) = usum (fun i k => if i < k then wnd t i k else 0) n m := by
  intro m
  induction m with
  | zero => rfl
  | succ m ih => rw [woundI, List.length_append, usum, ← ih, hs.len, ← woundK_count]; omega

theorem rsum_small {f : Nat → Nat → Int} {i : Nat} : ∀ m, (∀ k, k < m → -40 ≤ f i k ∧ f i k ≤ 40) → -(40 * (m : Int)) ≤ rsum f i m ∧ rsum f i m ≤ 40 * (m : Int) := by
  intro m
  induction m with
  | zero => intro _; rw [rsum]; omega
  | succ m ih =>
    intro h
    have h1 := ih (fun k hk => h k (by omega))
    have h2 := h m (by omega)
    rw [rsum]
    omega
theorem dsum_small {f : Nat → Nat → Int} {n : Nat} (hn : n ≤ 7) (h : ∀ i k, i < n → k < i → -40 ≤ f i k ∧ f i k ≤ 40) : ∀ i, i ≤ n → -(280 * (i : Int)) ≤ dsum f i ∧ dsum f i ≤ 280 * (i : Int) := by
  intro i
  induction i with
  | zero => intro _; rw [dsum]; omega
  | succ i ih =>
    intro hi
    have h1 := ih (by omega)
    have h2 := rsum_small (f := f) (i := i) i (fun k hk => h i k (by omega) hk)
    rw [dsum]
    omega
theorem abs_small {x : Int} (h : -40 ≤ x ∧ x ≤ 40) : -40 ≤ absI x ∧ absI x ≤ 40 := by unfold absI; split <;> omega
theorem wnd_small (t : List (List Int)) (i k : Nat) : -40 ≤ wnd t i k ∧ wnd t i k ≤ 40 := by unfold wnd; split <;> omega

/-- All that FnTwists asks of valid crossings. -/
structure TwistFacts (n : Nat) (ls : List RCross) (t : List (List Int)) : Prop where
  len : t.length = n
  sq : Square n t
  diag : ∀ i, i < n → ent t i i = 0
  sym : ∀ i k, i < n → k < n → ent t i k = ent t k i
  even : ∀ i k, i < n → k < i → (ent t i k % 2 = 0 ↔ placeOf (ordAfter n ls) (k : Int) < placeOf (ordAfter n ls) (i : Int))
  sum : dsum (ent t) n = totalTw n ls
  least : leastUn n ls = dsum (fun i k => absI (ent t i k)) n
  few : leastUn n ls ≤ (reduced n ls).length
  wound : ((woundPs n ls).length : Int) = dsum (wnd t) n
  undone : ls.length ≤ 20 → untw n (ls ++ undo ls) = true
  totRed : totalTw n (reduced n ls) = totalTw n ls
  small : ∀ i k, i < n → k < n → -40 ≤ ent t i k ∧ ent t i k ≤ 40
theorem woundI_nil {n : Nat} {t : List (List Int)} (hs : Square n t) (h : ∀ i k, i < n → k < n → ent t i k = 0) : ∀ m, m ≤ n → woundI t m = [] := by
  intro m
  induction m with
  | zero => intro _; rfl
  | succ m ih =>
    intro hm
    have e : ∀ k, k ≤ n → woundK t m k = [] := by
      intro k
      induction k with
      | zero => intro _; rfl
      | succ k ihk => intro hk; rw [woundK, ihk (by omega), if_neg (fun x => x.2 (h m k (by omega) (by omega)))]; rfl
    rw [woundI, ih (by omega), hs.len, e n (Nat.le_refl _)]
    rfl
theorem twistFacts {n : Nat} {ls : List RCross} (h : crossOk (n : Int) ls = true) : TwistFacts n ls (twistTab (n : Int) ls) := by
  obtain ⟨h1, h2, h3, h4⟩ := ok_fits h
  rw [Int.toNat_natCast] at h1 h4
  have F := crossFacts h
  have so := start_ord h1
  have sl := startL_len n
  have tt : ∀ ls : List RCross, crossOk (n : Int) ls = true → ∀ i k, i < n → k < n → ent (twistTab (n : Int) ls) i k = tw (startL n) ls i k := by
    intro ls h i k hi hk
    have := ent_tw h (i := i) (k := k) (by rw [Int.toNat_natCast]; exact hi) (by rw [Int.toNat_natCast]; exact hk) ls.length (Nat.le_refl _)
    rw [List.take_length, Int.toNat_natCast] at this
    unfold twistTab
    rw [if_pos h]
    exact this
  have sqx : ∀ ls : List RCross, crossOk (n : Int) ls = true → Square n (twistTab (n : Int) ls) := by
    intro ls h
    have := tab_square h ls.length (Nat.le_refl _)
    rw [Int.toNat_natCast] at this
    unfold twistTab
    rw [if_pos h]
    exact this
  have ent0 := tt ls h
  have sq := sqx ls h
  have e1 : ordAfter (n : Int) ls = ls.foldl stepA (startL n) := by unfold ordAfter nowAt; rw [if_pos h, List.take_length, Int.toNat_natCast]
  have e2 : reduced (n : Int) ls = ls.foldl push [] := by unfold reduced redTo; rw [if_pos h, List.take_length]
  have rf : ∀ l ∈ reduced (n : Int) ls, Fits n l := by rw [e2]; exact (red_run h4 so sl [] (by simp)).2
  have rl := F.redLen
  have hr : crossOk (n : Int) (reduced (n : Int) ls) = true := ok_of h1 (by omega) rf
  have oo : IsOrd (ordAfter (n : Int) ls) := by rw [e1]; exact run_ord h4 so sl
  have ol : (ordAfter (n : Int) ls).length = n := by rw [e1, foldA_len]; exact sl
  have lst : leastUn (n : Int) ls = dsum (fun i k => absI (tw (startL n) ls i k)) n := by
    unfold leastUn
    rw [if_pos h, Int.toNat_natCast, leastI_sum]
    exact dsum_congr fun i k hi hk => by rw [ent0 i k hi (by omega)]
  refine ⟨sq.len, sq, fun i hi => ?_, fun i k hi hk => ?_, fun i k hi hk => ?_, ?_, ?_, ?_, ?_, fun hl => ?_, ?_, fun i k hi hk => ?_⟩
  · rw [ent0 i i hi hi, tw_diag h4 i so sl]
  · rw [ent0 i k hi hk, ent0 k i hk hi, tw_sym]
  · have a := tw_turn (i := i) (k := k) h4 hi (by omega) (by omega) so sl
    have p1 : ∀ x, x < n → pos (startL n) x = (x : Int) := fun x hx => pos_at so (by rw [sl]; exact hx) (start_at hx)
    have p2 : ∀ x : Nat, placeOf (ordAfter (n : Int) ls) (x : Int) = pos (ordAfter (n : Int) ls) x := fun x => by unfold placeOf pos; rw [if_pos (order_iff.2 oo)]
    rw [ent0 i k hi (by omega), a, p1 i hi, p1 k (by omega), p2, p2, e1]
    constructor
    · exact fun x => x.1 (by omega)
    · exact fun x => ⟨fun _ => x, fun _ => by omega⟩
  · rw [dsum_congr (g := tw (startL n) ls) (fun i k hi hk => ent0 i k hi (by omega)), tw_sum h4 so sl]
    unfold totalTw
    rw [if_pos h, totTo_tot ls ls.length (Nat.le_refl _), List.take_length]
  · rw [lst]
    exact dsum_congr fun i k hi hk => by rw [ent0 i k hi (by omega)]
  · rw [lst]
    have := tw_abs (n := n) rf so sl
    rw [dsum_congr (g := fun i k => absI (tw (startL n) (reduced (n : Int) ls) i k)) (fun i k hi hk => by
      have := tw_red (i := i) (k := k) h4 so sl [] (by simp)
      rw [List.nil_append] at this
      rw [e2, this])]
    exact this
  · unfold woundPs
    rw [sq.len, woundI_count sq, usum_dsum]
    exact dsum_congr fun i k hi hk => by unfold wnd; rw [ent0 k i (by omega) hi, tw_sym, ← ent0 i k hi (by omega)]
  · have hb : crossOk (n : Int) (ls ++ undo ls) = true := by
      refine ok_of h1 (by rw [List.length_append, undo_len]; omega) fun l hx => ?_
      rcases List.mem_append.1 hx with c | c
      · exact h4 l c
      · unfold undo at c
        rw [List.mem_reverse, List.mem_map] at c
        obtain ⟨y, hy, rfl⟩ := c
        exact fits_turned (h4 y hy)
    have hbf : ∀ l ∈ ls ++ undo ls, Fits n l := by have := (ok_fits hb).2.2.2; rwa [Int.toNat_natCast] at this
    have ob : ordAfter (n : Int) (ls ++ undo ls) = startL n := by
      rw [F.bothOrd hl]
      unfold ordAfter nowAt
      rw [if_pos (ok_of h1 (by simp) (by simp)), Int.toNat_natCast]
      rfl
    have iz : invs (startL n) = 0 := inv_none fun i hi => by
      rw [sl] at hi
      rw [start_at (by omega), start_at hi]
      omega
    have wz : woundPs (n : Int) (ls ++ undo ls) = [] := by
      have sb := sqx _ hb
      unfold woundPs
      rw [sb.len]
      refine woundI_nil sb (fun i k hi hk => ?_) n (Nat.le_refl _)
      have a := tw_red (i := i) (k := k) hbf so sl [] (by simp)
      rw [List.nil_append, List.foldl_append, red_undo ls [] (fun k hk => by simp at hk)] at a
      rw [tt _ hb i k hi hk, ← a]
      rfl
    unfold untw
    rw [hb, ob, wz, if_pos (order_iff.2 so), iz]
    rfl
  · unfold totalTw
    rw [if_pos hr, if_pos h, totTo_tot _ _ (Nat.le_refl _), totTo_tot _ _ (Nat.le_refl _), List.take_length, List.take_length, e2, tot_red]
    simp [tot]
  · have := (tab_len (n : Int) ls).2.2 i k (by rw [sq.len]; exact hi) (by rw [sq.len]; exact hk)
    exact this
end Go.Proofs.Ythijfipjfdmoeaa
