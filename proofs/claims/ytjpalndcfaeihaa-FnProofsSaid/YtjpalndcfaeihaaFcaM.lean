/- FirstCasting by a search that never tries the same hands left twice, as mathematics: what is left along a cast, what is known of hands that were tried, and when the search ends. No condition. -/
import Derived.Test.YtjpalndcfaeihaaHanM
namespace Go.Proofs.Ytjpalndcfaeihaa
set_option linter.unusedVariables false
set_option linter.unusedSimpArgs false
open Go.RowKit

/-- One hand of player p less. -/
def take1 (L : List Int) (p : Nat) : List Int := L.set p (L.getD p 0 - 1)
def can (ls : List RPlayer) (x : Int) (L : List Int) (p : Nat) : Bool := decide (0 < L.getD p 0) && knowsB (ls.getD p RPlayer.zero) x
/-- The rest of the first casting, where r puppets are still to be cast. -/
def sol (ls : List RPlayer) (ps : List Int) : Nat → List Int → Option (List Int)
  | 0, _ => some []
  | r + 1, L => firstOf (fun p => if can ls (ps.getD (ps.length - (r + 1)) 0) L p = true then (sol ls ps r (take1 L p)).map ((p : Int) :: ·) else none) ls.length
theorem take1_len (L : List Int) (p : Nat) : (take1 L p).length = L.length := List.length_set
theorem getD_set_same {L : List Int} {p : Nat} {x : Int} (h : p < L.length) : (L.set p x).getD p 0 = x := by
  rw [List.getD_eq_getElem?_getD, List.getElem?_set_self h]; rfl
theorem getD_set_other {L : List Int} {p q : Nat} {x : Int} (h : p ≠ q) : (L.set p x).getD q 0 = L.getD q 0 := by
  rw [List.getD_eq_getElem?_getD, List.getElem?_set_ne h, ← List.getD_eq_getElem?_getD]
theorem take1_same {L : List Int} {p : Nat} (h : p < L.length) : (take1 L p).getD p 0 = L.getD p 0 - 1 := getD_set_same h
theorem take1_other {L : List Int} {p q : Nat} (h : p ≠ q) : (take1 L p).getD q 0 = L.getD q 0 := getD_set_other h
theorem take1_inj {L : List Int} {p q : Nat} (hp : p < L.length) (e : take1 L p = take1 L q) : p = q := by
  refine Classical.byContradiction fun c => ?_
  have e1 := take1_same hp
  rw [e, take1_other (fun h => c h.symm)] at e1
  omega
theorem firstOf_map (f : Nat → Option (List Int)) (g : List Int → List Int) : ∀ n, firstOf (fun p => (f p).map g) n = (firstOf f n).map g := by
  intro n
  induction n with
  | zero => rfl
  | succ n ih =>
    rw [firstOf, firstOf, ih]
    cases firstOf f n <;> rfl
theorem firstOf_congr {f g : Nat → Option (List Int)} : ∀ n, (∀ p, p < n → f p = g p) → firstOf f n = firstOf g n := by
  intro n
  induction n with
  | zero => intro _; rfl
  | succ n ih => intro h; rw [firstOf, firstOf, ih (fun p hp => h p (by omega)), h n (by omega)]
theorem srch_sol (ls : List RPlayer) (ps : List Int) : ∀ r cast load L, cast.length + r = ps.length → load.length = ls.length → ls.length ≤ L.length →
    (∀ p, p < ls.length → L.getD p 0 = (ls.getD p RPlayer.zero).f1 - load.getD p 0) → srch ls ps r cast load = (sol ls ps r L).map (cast ++ ·) := by
  intro r
  induction r with
  | zero => intro cast load L _ _ _ _; rw [srch, sol]; simp
  | succ r ih =>
    intro cast load L h1 h2 h3 h4
    rw [srch, sol, ← firstOf_map]
    refine firstOf_congr _ fun p hp => ?_
    have e1 : cast.length = ps.length - (r + 1) := by omega
    have e2 : freeFor ls load (ps.getD cast.length 0) p = can ls (ps.getD (ps.length - (r + 1)) 0) L p := by
      unfold freeFor can
      rw [e1, show decide (load.getD p 0 < (ls.getD p RPlayer.zero).f1) = decide (0 < L.getD p 0) by rw [h4 p hp]; exact decide_eq_decide.2 ⟨fun h => by omega, fun h => by omega⟩]
    rw [e2]
    split
    · rw [ih (cast ++ [(p : Int)]) (load.set p (load.getD p 0 + 1)) (take1 L p) (by rw [List.length_append]; simp; omega) (by rw [List.length_set]; exact h2) (by rw [take1_len]; exact h3) (fun q hq => by
        by_cases c : p = q
        · subst c
          rw [take1_same (by omega), getD_set_same (by omega), h4 p hp]
          omega
        · rw [take1_other c, getD_set_other c, h4 q hq])]
      cases sol ls ps r (take1 L p) <;> simp
    · rfl
/-- What is left behind a cast. -/
def node (L : List Int) (cs : List Nat) : List Int := cs.foldl take1 L
theorem node_snoc (L : List Int) (cs : List Nat) (k : Nat) : node L (cs ++ [k]) = take1 (node L cs) k := by unfold node; rw [List.foldl_append]; rfl
theorem node_len (cs : List Nat) : ∀ L, (node L cs).length = L.length := by
  induction cs with
  | nil => intro L; rfl
  | cons c cs ih => intro L; show (node (take1 L c) cs).length = _; rw [ih, take1_len]
def tot : List Int → Int
  | [] => 0
  | x :: xs => x + tot xs
theorem tot_set : ∀ (L : List Int) (p : Nat) (x : Int), p < L.length → tot (L.set p x) = tot L - L.getD p 0 + x := by
  intro L
  induction L with
  | nil => intro p x h; simp at h
  | cons y L ih =>
    intro p x h
    cases p with
    | zero => simp only [List.set_cons_zero, tot, List.getD_cons_zero]; omega
    | succ p => simp only [List.set_cons_succ, tot, List.getD_cons_succ]; rw [ih p x (by simpa using h)]; omega
theorem take1_tot {L : List Int} {p : Nat} (h : p < L.length) : tot (take1 L p) = tot L - 1 := by unfold take1; rw [tot_set L p _ h]; omega
theorem node_tot (cs : List Nat) : ∀ L, (∀ c ∈ cs, c < L.length) → tot (node L cs) = tot L - cs.length := by
  induction cs with
  | nil => intro L _; simp [node]
  | cons c cs ih =>
    intro L h
    show tot (node (take1 L c) cs) = _
    rw [ih _ (fun d hd => by rw [take1_len]; exact h d (by simp [hd])), take1_tot (h c (by simp))]
    simp
    omega
theorem take_snoc {cs : List Nat} {i : Nat} (h : i < cs.length) : cs.take (i + 1) = cs.take i ++ [cs.getD i 0] := by
  rw [List.take_add_one, List.getD_eq_getElem?_getD, List.getElem?_eq_getElem h]; rfl
theorem take_app {cs : List Nat} {k i : Nat} (h : i ≤ cs.length) : (cs ++ [k]).take i = cs.take i := List.take_append_of_le_length h
theorem getD_app {cs : List Nat} {k i : Nat} (h : i < cs.length) : (cs ++ [k]).getD i 0 = cs.getD i 0 := by
  rw [List.getD_eq_getElem?_getD, List.getElem?_append_left h, ← List.getD_eq_getElem?_getD]
theorem getD_last {cs : List Nat} {k : Nat} : (cs ++ [k]).getD cs.length 0 = k := by
  rw [List.getD_eq_getElem?_getD, List.getElem?_append_right (Nat.le_refl _), Nat.sub_self]; rfl
/-- HSix numbers of hands. -/
def HSix (L : List Int) : Prop := L.length = 6 ∧ ∀ i, 0 ≤ L.getD i 0 ∧ L.getD i 0 ≤ 2
theorem HSix.take1 {L : List Int} {p : Nat} (h : HSix L) (hp : 0 < L.getD p 0) : HSix (take1 L p) := by
  refine ⟨by rw [take1_len]; exact h.1, fun i => ?_⟩
  have hi := h.2 i
  by_cases c : p = i
  · subst c
    by_cases q : p < L.length
    · rw [take1_same q]; omega
    · rw [List.getD_eq_getElem?_getD, List.getElem?_eq_none (by omega)] at hp
      simp at hp
  · rw [take1_other c]; exact hi
/-- Where the search stands: the cast, and what was tried. -/
structure Going (ls : List RPlayer) (ps : List Int) (L0 : List Int) (cs : List Nat) (T : List Int → Bool) : Prop where
  len : cs.length ≤ ps.length
  low : ∀ c ∈ cs, c < ls.length
  did : ∀ i, i < cs.length → can ls (ps.getD i 0) (node L0 (cs.take i)) (cs.getD i 0) = true
  old : ∀ i, i < cs.length → ∀ p, p < cs.getD i 0 → can ls (ps.getD i 0) (node L0 (cs.take i)) p = true → T (take1 (node L0 (cs.take i)) p) = true
  dead : ∀ L, T L = true → (∃ i, i < cs.length ∧ L = node L0 (cs.take (i + 1))) ∨ ∃ j, j ≤ ps.length ∧ tot L = tot L0 - (j : Int) ∧ sol ls ps (ps.length - j) L = none
theorem going_start (ls : List RPlayer) (ps L0 : List Int) : Going ls ps L0 [] (fun _ => false) :=
  ⟨Nat.zero_le _, fun c h => by simp at h, fun i h => absurd h (Nat.not_lt_zero _), fun i h => absurd h (Nat.not_lt_zero _), fun L h => by cases h⟩
section
variable {ls : List RPlayer} {ps L0 : List Int} {cs : List Nat} {T : List Int → Bool}
theorem Going.totAt (g : Going ls ps L0 cs T) (h6 : ls.length ≤ L0.length) {i : Nat} (hi : i ≤ cs.length) : tot (node L0 (cs.take i)) = tot L0 - (i : Int) := by
  rw [node_tot _ _ (fun c hc => Nat.lt_of_lt_of_le (g.low c (List.mem_of_mem_take hc)) h6), List.length_take, Nat.min_eq_left hi]
theorem Going.lowAt (g : Going ls ps L0 cs T) {i : Nat} (hi : i < cs.length) : cs.getD i 0 < ls.length := by
  rw [List.getD_eq_getElem?_getD, List.getElem?_eq_getElem hi]
  exact g.low _ (List.getElem_mem hi)
/-- One hand less than a node of the path, by another player than the path's: no casting. -/
theorem Going.deadAt (g : Going ls ps L0 cs T) (h6 : ls.length ≤ L0.length) {i p : Nat} (hi : i ≤ cs.length) (hp : p < ls.length) (hT : T (take1 (node L0 (cs.take i)) p) = true) (hne : i < cs.length → p ≠ cs.getD i 0) (hin : i < ps.length) :
    sol ls ps (ps.length - (i + 1)) (take1 (node L0 (cs.take i)) p) = none := by
  have hpl : p < (node L0 (cs.take i)).length := by rw [node_len]; omega
  have e1 := take1_tot hpl
  rw [g.totAt h6 hi] at e1
  rcases g.dead _ hT with ⟨j, hj, e⟩ | ⟨j, hj, e, h⟩
  · have e2 := g.totAt h6 (i := j + 1) (by omega)
    rw [← e, e1] at e2
    obtain rfl : j = i := by omega
    rw [take_snoc hj, node_snoc] at e
    exact absurd (take1_inj hpl e) (hne hj)
  · rw [e1] at e
    obtain rfl : j = i + 1 := by omega
    exact h
theorem Going.none_ (g : Going ls ps L0 cs T) (h6 : ls.length ≤ L0.length) (hd : cs.length < ps.length) (ha : ∀ p, p < ls.length → can ls (ps.getD cs.length 0) (node L0 cs) p = true → T (take1 (node L0 cs) p) = true) :
    sol ls ps (ps.length - cs.length) (node L0 cs) = none := by
  obtain ⟨r, hr⟩ : ∃ r, ps.length - cs.length = r + 1 := ⟨ps.length - cs.length - 1, by omega⟩
  rw [hr, sol]
  refine first_none _ fun p hp => ?_
  rw [show ps.length - (r + 1) = cs.length by omega]
  split
  · next h =>
    have ht : cs.take cs.length = cs := List.take_length
    have e := g.deadAt h6 (Nat.le_refl _) hp (by rw [ht]; exact ha p hp h) (fun q => absurd q (by omega)) hd
    rw [ht, show ps.length - (cs.length + 1) = r by omega] at e
    rw [e]
    rfl
  · rfl
theorem Going.full (g : Going ls ps L0 cs T) (h6 : ls.length ≤ L0.length) (hd : cs.length = ps.length) : sol ls ps ps.length L0 = some (cs.map fun c : Nat => (c : Int)) := by
  have go : ∀ d i, i + d = ps.length → sol ls ps d (node L0 (cs.take i)) = some ((cs.drop i).map fun c : Nat => (c : Int)) := by
    intro d
    induction d with
    | zero =>
      intro i hi
      rw [sol, List.drop_eq_nil_of_le (by omega)]
      rfl
    | succ d ih =>
      intro i hi
      have hic : i < cs.length := by omega
      rw [sol, show ps.length - (d + 1) = i by omega]
      refine first_some (p := cs.getD i 0) (fun q hq => ?_) ?_ _ (g.lowAt hic)
      · split
        · next h =>
          have e := g.deadAt h6 (Nat.le_of_lt hic) (Nat.lt_trans hq (g.lowAt hic)) (g.old i hic q hq h) (fun _ => by omega) (by omega)
          rw [show ps.length - (i + 1) = d by omega] at e
          rw [e]
          rfl
        · rfl
      · rw [if_pos (g.did i hic), ← node_snoc, ← take_snoc hic, ih (i + 1) (by omega), List.drop_eq_getElem_cons hic]
        rw [List.getD_eq_getElem?_getD, List.getElem?_eq_getElem hic]
        rfl
  have := go ps.length 0 (by omega)
  simpa [node] using this
/-- Another player. -/
theorem Going.add (g : Going ls ps L0 cs T) {k : Nat} {U : List Int → Bool} (hd : cs.length < ps.length) (hk : k < ls.length) (hc : can ls (ps.getD cs.length 0) (node L0 cs) k = true)
    (ha : ∀ p, p < k → can ls (ps.getD cs.length 0) (node L0 cs) p = true → T (take1 (node L0 cs) p) = true) (hU : ∀ L, U L = true ↔ L = take1 (node L0 cs) k ∨ T L = true) : Going ls ps L0 (cs ++ [k]) U := by
  have ht : (cs ++ [k]).take cs.length = cs := by rw [take_app (Nat.le_refl _)]; exact List.take_length
  refine ⟨by simp; omega, fun c h => ?_, fun i hi => ?_, fun i hi p hp h => ?_, fun L h => ?_⟩
  · rcases List.mem_append.1 h with q | q
    · exact g.low c q
    · rw [List.mem_singleton.1 q]; exact hk
  · rcases (by simp at hi; omega : i < cs.length ∨ i = cs.length) with q | rfl
    · rw [take_app (Nat.le_of_lt q), getD_app q]; exact g.did i q
    · rw [ht, getD_last]; exact hc
  · refine (hU _).2 (.inr ?_)
    rcases (by simp at hi; omega : i < cs.length ∨ i = cs.length) with q | rfl
    · rw [take_app (Nat.le_of_lt q)] at h ⊢
      rw [getD_app q] at hp
      exact g.old i q p hp h
    · rw [ht] at h ⊢
      rw [getD_last] at hp
      exact ha p hp h
  · rcases (hU L).1 h with rfl | q
    · exact .inl ⟨cs.length, by simp, by rw [show (cs ++ [k]).take (cs.length + 1) = cs ++ [k] from List.take_of_length_le (by simp), node_snoc]⟩
    · rcases g.dead L q with ⟨i, hi, e⟩ | h
      · exact .inl ⟨i, by simp; omega, by rw [take_app (by omega)]; exact e⟩
      · exact .inr h
/-- The last player leaves the puppet to a later one. -/
theorem Going.pop {c : Nat} (g : Going ls ps L0 (cs ++ [c]) T) (h6 : ls.length ≤ L0.length) (hd : cs.length + 1 < ps.length)
    (ha : ∀ p, p < ls.length → can ls (ps.getD (cs.length + 1) 0) (node L0 (cs ++ [c])) p = true → T (take1 (node L0 (cs ++ [c])) p) = true) : Going ls ps L0 cs T := by
  have hl : (cs ++ [c]).length = cs.length + 1 := by simp
  have hn := g.none_ h6 (by rw [hl]; exact hd) (by rw [hl]; exact ha)
  rw [hl] at hn
  refine ⟨by omega, fun d h => g.low d (by simp [h]), fun i hi => ?_, fun i hi p hp h => ?_, fun L h => ?_⟩
  · have e := g.did i (by omega)
    rw [take_app (Nat.le_of_lt hi), getD_app hi] at e
    exact e
  · have e := g.old i (by omega) p (by rw [getD_app hi]; exact hp)
    rw [take_app (Nat.le_of_lt hi)] at e
    exact e h
  · rcases g.dead L h with ⟨i, hi, rfl⟩ | q
    · rcases (by omega : i < cs.length ∨ i = cs.length) with q | rfl
      · exact .inl ⟨i, q, by rw [take_app (by omega)]⟩
      · refine .inr ⟨cs.length + 1, by omega, g.totAt h6 (by omega), ?_⟩
        rw [show (cs ++ [c]).take (cs.length + 1) = cs ++ [c] from List.take_of_length_le (by simp)]
        exact hn
    · exact .inr q
end
theorem take1_back {L : List Int} {c : Nat} (h : c < L.length) : (take1 L c).set c ((take1 L c).getD c 0 + 1) = L := by
  rw [take1_same h]
  unfold take1
  rw [List.set_set, show L.getD c 0 - 1 + 1 = L.getD c 0 by omega, List.getD_eq_getElem?_getD, List.getElem?_eq_getElem h]
  exact List.set_getElem_self h
/-- How many of the first n codes are in the set. -/
def cntS (S : Nat → Bool) : Nat → Nat
  | 0 => 0
  | j + 1 => cntS S j + (if S j = true then 1 else 0)
theorem cntS_le (S : Nat → Bool) (n : Nat) : cntS S n ≤ n := by
  induction n with
  | zero => exact Nat.le_refl _
  | succ n ih => unfold cntS; split <;> omega
theorem cntS_more {S U : Nat → Bool} (h : ∀ k, S k = true → U k = true) (n : Nat) : cntS S n ≤ cntS U n := by
  induction n with
  | zero => exact Nat.le_refl _
  | succ n ih =>
    unfold cntS
    cases c : S n with
    | false => rw [if_neg (by simp)]; omega
    | true => rw [h n c]; simp; omega
theorem cntS_lt {S U : Nat → Bool} (h : ∀ k, S k = true → U k = true) {k : Nat} (h1 : S k = false) (h2 : U k = true) : ∀ n, k < n → cntS S n < cntS U n := by
  intro n
  induction n with
  | zero => intro h; omega
  | succ n ih =>
    intro hk
    unfold cntS
    by_cases c : k = n
    · subst c
      rw [h1, h2]
      have := cntS_more h k
      simp
      omega
    · have := ih (by omega)
      cases q : S n with
      | false => rw [if_neg (by simp)]; omega
      | true => rw [h n q]; simp; omega
def dec6 (c : Nat) : List Int := [((c % 3 : Nat) : Int), ((c / 3 % 3 : Nat) : Int), ((c / 9 % 3 : Nat) : Int), ((c / 27 % 3 : Nat) : Int), ((c / 81 % 3 : Nat) : Int), ((c / 243 % 3 : Nat) : Int)]
theorem HSix.code {L : List Int} (h : HSix L) : ∃ c, c < 729 ∧ dec6 c = L := by
  obtain ⟨hl, hv⟩ := h
  match L, hl with
  | [a, b, c, d, e, f], _ =>
    have h0 := hv 0
    have h1 := hv 1
    have h2 := hv 2
    have h3 := hv 3
    have h4 := hv 4
    have h5 := hv 5
    simp only [List.getD_cons_zero, List.getD_cons_succ] at h0 h1 h2 h3 h4 h5
    refine ⟨a.toNat + 3 * b.toNat + 9 * c.toNat + 27 * d.toNat + 81 * e.toNat + 243 * f.toNat, by omega, ?_⟩
    unfold dec6
    simp only [List.cons.injEq, and_true]
    refine ⟨by omega, by omega, by omega, by omega, by omega, by omega⟩
/-- How many six numbers of hands are in the set. -/
def sixes (T : List Int → Bool) : Nat := cntS (fun c => T (dec6 c)) 729
theorem sixes_le (T : List Int → Bool) : sixes T ≤ 729 := cntS_le _ _
theorem sixes_more {T U : List Int → Bool} {L : List Int} (h6 : HSix L) (h1 : T L = false) (hU : ∀ L', U L' = true ↔ L' = L ∨ T L' = true) : sixes T < sixes U := by
  obtain ⟨c, hc, rfl⟩ := h6.code
  exact cntS_lt (fun k h => (hU _).2 (.inr h)) h1 ((hU _).2 (.inl rfl)) _ hc
/-- Free hands of six players; of those that are not there, none. -/
def freeSix (ls : List RPlayer) : Nat → List Int
  | 0 => []
  | k + 1 => freeSix ls k ++ [(ls.getD k RPlayer.zero).f1]
theorem freeSix_len (ls : List RPlayer) : ∀ k, (freeSix ls k).length = k := by
  intro k
  induction k with
  | zero => rfl
  | succ k ih => rw [freeSix, List.length_append, ih]; rfl
theorem freeSix_at (ls : List RPlayer) : ∀ k i, i < k → (freeSix ls k).getD i 0 = (ls.getD i RPlayer.zero).f1 := by
  intro k
  induction k with
  | zero => intro i h; omega
  | succ k ih =>
    intro i h
    have hl := freeSix_len ls k
    rw [freeSix]
    by_cases c : i = k
    · subst c
      rw [List.getD_eq_getElem?_getD, List.getElem?_append_right (by omega), hl, Nat.sub_self]
      rfl
    · rw [List.getD_eq_getElem?_getD, List.getElem?_append_left (by omega), ← List.getD_eq_getElem?_getD]
      exact ih i (by omega)
theorem freeSix_six {ls : List RPlayer} (h : playersOk ls = true) : HSix (freeSix ls 6) := by
  refine ⟨freeSix_len ls 6, fun i => ?_⟩
  by_cases c : i < 6
  · rw [freeSix_at ls 6 i c]
    by_cases d : i < ls.length
    · rw [getP d]
      exact (player_fine ((playersOk_has h).2 i d)).2
    · rw [List.getD_eq_getElem?_getD, List.getElem?_eq_none (by omega)]
      exact ⟨Int.le_refl _, by decide⟩
  · rw [List.getD_eq_getElem?_getD, List.getElem?_eq_none (by rw [freeSix_len]; omega)]
    exact ⟨Int.le_refl _, by decide⟩
theorem firstCast_sol {ls : List RPlayer} {ps : List Int} (h : playersOk ls = true) (h2 : rising ps 6 = true) : firstCast ls ps = sol ls ps ps.length (freeSix ls 6) := by
  have hn := (playersOk_has h).1
  unfold firstCast
  rw [h, h2, if_pos (show (true && true) = true from rfl), srch_sol ls ps ps.length [] (List.replicate ls.length 0) (freeSix ls 6) (by simp) (by simp) (by rw [freeSix_len]; omega) (fun p hp => by
    rw [freeSix_at ls 6 p (by omega), show (List.replicate ls.length (0 : Int)).getD p 0 = 0 by rw [List.getD_eq_getElem?_getD, List.getElem?_replicate_of_lt hp]; rfl, Int.sub_zero])]
  cases sol ls ps ps.length (freeSix ls 6) <;> simp
/-- Who knows the puppet, in rising order. -/
theorem who_has (ls : List RPlayer) (x : Int) : ∀ k i, i < (whoTo ls x k).length → ∃ p : Nat, p < k ∧ (whoTo ls x k).getD i 0 = (p : Int) ∧ knowsB (ls.getD p RPlayer.zero) x = true := by
  intro k
  induction k with
  | zero => intro i h; simp [whoTo] at h
  | succ k ih =>
    intro i h
    rw [whoTo] at h ⊢
    split at h
    · next c =>
      rw [if_pos c]
      by_cases d : i < (whoTo ls x k).length
      · obtain ⟨p, hp, e, q⟩ := ih i d
        exact ⟨p, by omega, by rw [List.getD_eq_getElem?_getD, List.getElem?_append_left d, ← List.getD_eq_getElem?_getD]; exact e, q⟩
      · obtain rfl : i = (whoTo ls x k).length := by simp at h; omega
        exact ⟨k, by omega, by rw [List.getD_eq_getElem?_getD, List.getElem?_append_right (Nat.le_refl _), Nat.sub_self]; rfl, c⟩
    · next c =>
      rw [if_neg c]
      obtain ⟨p, hp, e, q⟩ := ih i h
      exact ⟨p, by omega, e, q⟩
/-- Whoever knows it and stands below the i-th of them is one of the first i. -/
theorem who_all (ls : List RPlayer) (x : Int) : ∀ k p, p < k → knowsB (ls.getD p RPlayer.zero) x = true → ∃ i, i < (whoTo ls x k).length ∧ (whoTo ls x k).getD i 0 = (p : Int) := by
  intro k
  induction k with
  | zero => intro p h; omega
  | succ k ih =>
    intro p hp c
    rw [whoTo]
    by_cases d : p = k
    · subst d
      rw [if_pos c]
      exact ⟨(whoTo ls x p).length, by simp, by rw [List.getD_eq_getElem?_getD, List.getElem?_append_right (Nat.le_refl _), Nat.sub_self]; rfl⟩
    · obtain ⟨i, hi, e⟩ := ih p (by omega) c
      split
      · exact ⟨i, by simp; omega, by rw [List.getD_eq_getElem?_getD, List.getElem?_append_left hi, ← List.getD_eq_getElem?_getD]; exact e⟩
      · exact ⟨i, hi, e⟩
theorem who_rises (ls : List RPlayer) (x : Int) : ∀ k i j, i < j → j < (whoTo ls x k).length → (whoTo ls x k).getD i 0 < (whoTo ls x k).getD j 0 := by
  intro k
  induction k with
  | zero => intro i j _ h; simp [whoTo] at h
  | succ k ih =>
    intro i j hij h
    rw [whoTo] at h ⊢
    split at h
    · next c =>
      rw [if_pos c]
      by_cases d : j < (whoTo ls x k).length
      · have e : ∀ q, q < (whoTo ls x k).length → (whoTo ls x k ++ [(k : Int)]).getD q 0 = (whoTo ls x k).getD q 0 := fun q hq => by
          rw [List.getD_eq_getElem?_getD, List.getElem?_append_left hq, ← List.getD_eq_getElem?_getD]
        rw [e i (by omega), e j d]
        exact ih i j hij d
      · obtain rfl : j = (whoTo ls x k).length := by simp at h; omega
        obtain ⟨p, hp, e, _⟩ := who_has ls x k i hij
        rw [List.getD_eq_getElem?_getD, List.getElem?_append_left hij, ← List.getD_eq_getElem?_getD, e, List.getD_eq_getElem?_getD, List.getElem?_append_right (Nat.le_refl _), Nat.sub_self]
        simp
        omega
    · next c => rw [if_neg c]; exact ih i j hij h
end Go.Proofs.Ytjpalndcfaeihaa
