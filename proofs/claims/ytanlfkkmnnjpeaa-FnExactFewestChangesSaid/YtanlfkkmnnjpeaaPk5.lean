/- Texts of this seat laid together, each with its own first sentence below: FcaM ArrK SixI MadZ LdM HadI. -/
import Derived.Test.YtanlfkkmnnjpeaaPk2
import Derived.Test.YtanlfkkmnnjpeaaPk1
import Derived.Test.YtanlfkkmnnjpeaaPk3
import Derived.Deep.MidRow
import Derived.Deep.WholeRow
import Derived.OwnWalk
/- FirstCasting by a search that never tries the same hands left twice, as mathematics: what is left along a cast, what is known of hands that were tried, and when the search ends. No condition. -/
namespace Go.Proofs.Ytanlfkkmnnjpeaa
set_option linter.unusedVariables false
set_option linter.unusedSimpArgs false
open Go.RowKit

/-- One hand of player p less. -/
def take1 (L : List Int) (p : Nat) : List Int := L.set p (L.getD p 0 - 1)
def can (ls : List RPlayer) (x : Int) (L : List Int) (p : Nat) : Bool := decide (0 < L.getD p 0) && knowsB (ls.getD p RPlayer.zero) x
/-- The rest of the first casting, where r puppets are still to be cast. -/
def sol (ls : List RPlayer) (ps : List Int) : Nat → List Int → Option (List Int)
  | 0, _ => some []
  | r + 1, L => firstOf (fun p => if can ls (ps.getD (ps.length - (r + 1)) 0) L p = true then (sol ls ps r (take1 L p)).map ((p : Int) :: ·) else none) ls.length
theorem take1_len (L : List Int) (p : Nat) : (take1 L p).length = L.length := List.length_set
theorem getD_set_same {L : List Int} {p : Nat} {x : Int} (h : p < L.length) : (L.set p x).getD p 0 = x := by
  rw [List.getD_eq_getElem?_getD, List.getElem?_set_self h]; rfl
theorem getD_set_other {L : List Int} {p q : Nat} {x : Int} (h : p ≠ q) : (L.set p x).getD q 0 = L.getD q 0 := by
  rw [List.getD_eq_getElem?_getD, List.getElem?_set_ne h, ← List.getD_eq_getElem?_getD]
theorem take1_same {L : List Int} {p : Nat} (h : p < L.length) : (take1 L p).getD p 0 = L.getD p 0 - 1 := getD_set_same h
theorem take1_other {L : List Int} {p q : Nat} (h : p ≠ q) : (take1 L p).getD q 0 = L.getD q 0 := getD_set_other h
theorem take1_inj {L : List Int} {p q : Nat} (hp : p < L.length) (e : take1 L p = take1 L q) : p = q := by
  refine Classical.byContradiction fun c => ?_
  have e1 := take1_same hp
  rw [e, take1_other (fun h => c h.symm)] at e1
  omega
theorem firstOf_map (f : Nat → Option (List Int)) (g : List Int → List Int) : ∀ n, firstOf (fun p => (f p).map g) n = (firstOf f n).map g := by
  intro n
  induction n with
  | zero => rfl
  | succ n ih =>
    rw [firstOf, firstOf, ih]
    cases firstOf f n <;> rfl
theorem firstOf_congr {f g : Nat → Option (List Int)} : ∀ n, (∀ p, p < n → f p = g p) → firstOf f n = firstOf g n := by
  intro n
  induction n with
  | zero => intro _; rfl
  | succ n ih => intro h; rw [firstOf, firstOf, ih (fun p hp => h p (by omega)), h n (by omega)]
theorem srch_sol (ls : List RPlayer) (ps : List Int) : ∀ r cast load L, cast.length + r = ps.length → load.length = ls.length → ls.length ≤ L.length →
    (∀ p, p < ls.length → L.getD p 0 = (ls.getD p RPlayer.zero).f1 - load.getD p 0) → srch ls ps r cast load = (sol ls ps r L).map (cast ++ ·) := by
  intro r
  induction r with
  | zero => intro cast load L _ _ _ _; rw [srch, sol]; simp
  | succ r ih =>
    intro cast load L h1 h2 h3 h4
    rw [srch, sol, ← firstOf_map]
    refine firstOf_congr _ fun p hp => ?_
    have e1 : cast.length = ps.length - (r + 1) := by omega
    have e2 : freeFor ls load (ps.getD cast.length 0) p = can ls (ps.getD (ps.length - (r + 1)) 0) L p := by
      unfold freeFor can
      rw [e1, show decide (load.getD p 0 < (ls.getD p RPlayer.zero).f1) = decide (0 < L.getD p 0) by rw [h4 p hp]; exact decide_eq_decide.2 ⟨fun h => by omega, fun h => by omega⟩]
    rw [e2]
    split
    · rw [ih (cast ++ [(p : Int)]) (load.set p (load.getD p 0 + 1)) (take1 L p) (by rw [List.length_append]; simp; omega) (by rw [List.length_set]; exact h2) (by rw [take1_len]; exact h3) (fun q hq => by
        by_cases c : p = q
        · subst c
          rw [take1_same (by omega), getD_set_same (by omega), h4 p hp]
          omega
        · rw [take1_other c, getD_set_other c, h4 q hq])]
      cases sol ls ps r (take1 L p) <;> simp
    · rfl
/-- What is left behind a cast. -/
def node (L : List Int) (cs : List Nat) : List Int := cs.foldl take1 L
theorem node_snoc (L : List Int) (cs : List Nat) (k : Nat) : node L (cs ++ [k]) = take1 (node L cs) k := by unfold node; rw [List.foldl_append]; rfl
theorem node_len (cs : List Nat) : ∀ L, (node L cs).length = L.length := by
  induction cs with
  | nil => intro L; rfl
  | cons c cs ih => intro L; show (node (take1 L c) cs).length = _; rw [ih, take1_len]
def tot : List Int → Int
  | [] => 0
  | x :: xs => x + tot xs
theorem tot_set : ∀ (L : List Int) (p : Nat) (x : Int), p < L.length → tot (L.set p x) = tot L - L.getD p 0 + x := by
  intro L
  induction L with
  | nil => intro p x h; simp at h
  | cons y L ih =>
    intro p x h
    cases p with
    | zero => simp only [List.set_cons_zero, tot, List.getD_cons_zero]; omega
    | succ p => simp only [List.set_cons_succ, tot, List.getD_cons_succ]; rw [ih p x (by simpa using h)]; omega
theorem take1_tot {L : List Int} {p : Nat} (h : p < L.length) : tot (take1 L p) = tot L - 1 := by unfold take1; rw [tot_set L p _ h]; omega
theorem node_tot (cs : List Nat) : ∀ L, (∀ c ∈ cs, c < L.length) → tot (node L cs) = tot L - cs.length := by
  induction cs with
  | nil => intro L _; simp [node]
  | cons c cs ih =>
    intro L h
    show tot (node (take1 L c) cs) = _
    rw [ih _ (fun d hd => by rw [take1_len]; exact h d (by simp [hd])), take1_tot (h c (by simp))]
    simp
    omega
theorem take_snoc {cs : List Nat} {i : Nat} (h : i < cs.length) : cs.take (i + 1) = cs.take i ++ [cs.getD i 0] := by
  rw [List.take_add_one, List.getD_eq_getElem?_getD, List.getElem?_eq_getElem h]; rfl
theorem take_app {cs : List Nat} {k i : Nat} (h : i ≤ cs.length) : (cs ++ [k]).take i = cs.take i := List.take_append_of_le_length h
theorem getD_app {cs : List Nat} {k i : Nat} (h : i < cs.length) : (cs ++ [k]).getD i 0 = cs.getD i 0 := by
  rw [List.getD_eq_getElem?_getD, List.getElem?_append_left h, ← List.getD_eq_getElem?_getD]
theorem getD_last {cs : List Nat} {k : Nat} : (cs ++ [k]).getD cs.length 0 = k := by
  rw [List.getD_eq_getElem?_getD, List.getElem?_append_right (Nat.le_refl _), Nat.sub_self]; rfl
/-- HSix numbers of hands. -/
def HSix (L : List Int) : Prop := L.length = 6 ∧ ∀ i, 0 ≤ L.getD i 0 ∧ L.getD i 0 ≤ 2
theorem HSix.take1 {L : List Int} {p : Nat} (h : HSix L) (hp : 0 < L.getD p 0) : HSix (take1 L p) := by
  refine ⟨by rw [take1_len]; exact h.1, fun i => ?_⟩
  have hi := h.2 i
  by_cases c : p = i
  · subst c
    by_cases q : p < L.length
    · rw [take1_same q]; omega
    · rw [List.getD_eq_getElem?_getD, List.getElem?_eq_none (by omega)] at hp
      simp at hp
  · rw [take1_other c]; exact hi
/-- Where the search stands: the cast, and what was tried. -/
structure Going (ls : List RPlayer) (ps : List Int) (L0 : List Int) (cs : List Nat) (T : List Int → Bool) : Prop where
  len : cs.length ≤ ps.length
  low : ∀ c ∈ cs, c < ls.length
  did : ∀ i, i < cs.length → can ls (ps.getD i 0) (node L0 (cs.take i)) (cs.getD i 0) = true
  old : ∀ i, i < cs.length → ∀ p, p < cs.getD i 0 → can ls (ps.getD i 0) (node L0 (cs.take i)) p = true → T (take1 (node L0 (cs.take i)) p) = true
  dead : ∀ L, T L = true → (∃ i, i < cs.length ∧ L = node L0 (cs.take (i + 1))) ∨ ∃ j, j ≤ ps.length ∧ tot L = tot L0 - (j : Int) ∧ sol ls ps (ps.length - j) L = none
theorem going_start (ls : List RPlayer) (ps L0 : List Int) : Going ls ps L0 [] (fun _ => false) :=
  ⟨Nat.zero_le _, fun c h => by simp at h, fun i h => absurd h (Nat.not_lt_zero _), fun i h => absurd h (Nat.not_lt_zero _), fun L h => by cases h⟩
section
variable {ls : List RPlayer} {ps L0 : List Int} {cs : List Nat} {T : List Int → Bool}
theorem Going.totAt (g : Going ls ps L0 cs T) (h6 : ls.length ≤ L0.length) {i : Nat} (hi : i ≤ cs.length) : tot (node L0 (cs.take i)) = tot L0 - (i : Int) := by
  rw [node_tot _ _ (fun c hc => Nat.lt_of_lt_of_le (g.low c (List.mem_of_mem_take hc)) h6), List.length_take, Nat.min_eq_left hi]
theorem Going.lowAt (g : Going ls ps L0 cs T) {i : Nat} (hi : i < cs.length) : cs.getD i 0 < ls.length := by
  rw [List.getD_eq_getElem?_getD, List.getElem?_eq_getElem hi]
  exact g.low _ (List.getElem_mem hi)
/-- One hand less than a node of the path, by another player than the path's: no casting. -/
theorem Going.deadAt (g : Going ls ps L0 cs T) (h6 : ls.length ≤ L0.length) {i p : Nat} (hi : i ≤ cs.length) (hp : p < ls.length) (hT : T (take1 (node L0 (cs.take i)) p) = true) (hne : i < cs.length → p ≠ cs.getD i 0) (hin : i < ps.length) :
    sol ls ps (ps.length - (i + 1)) (take1 (node L0 (cs.take i)) p) = none := by
  have hpl : p < (node L0 (cs.take i)).length := by rw [node_len]; omega
  have e1 := take1_tot hpl
  rw [g.totAt h6 hi] at e1
  rcases g.dead _ hT with ⟨j, hj, e⟩ | ⟨j, hj, e, h⟩
  · have e2 := g.totAt h6 (i := j + 1) (by omega)
    rw [← e, e1] at e2
    obtain rfl : j = i := by omega
    rw [take_snoc hj, node_snoc] at e
    exact absurd (take1_inj hpl e) (hne hj)
  · rw [e1] at e
    obtain rfl : j = i + 1 := by omega
    exact h
theorem Going.none_ (g : Going ls ps L0 cs T) (h6 : ls.length ≤ L0.length) (hd : cs.length < ps.length) (ha : ∀ p, p < ls.length → can ls (ps.getD cs.length 0) (node L0 cs) p = true → T (take1 (node L0 cs) p) = true) :
    sol ls ps (ps.length - cs.length) (node L0 cs) = none := by
  obtain ⟨r, hr⟩ : ∃ r, ps.length - cs.length = r + 1 := ⟨ps.length - cs.length - 1, by omega⟩
  rw [hr, sol]
  refine first_none _ fun p hp => ?_
  rw [show ps.length - (r + 1) = cs.length by omega]
  split
  · next h =>
    have ht : cs.take cs.length = cs := List.take_length
    have e := g.deadAt h6 (Nat.le_refl _) hp (by rw [ht]; exact ha p hp h) (fun q => absurd q (by omega)) hd
    rw [ht, show ps.length - (cs.length + 1) = r by omega] at e
    rw [e]
    rfl
  · rfl
theorem Going.full (g : Going ls ps L0 cs T) (h6 : ls.length ≤ L0.length) (hd : cs.length = ps.length) : sol ls ps ps.length L0 = some (cs.map fun c : Nat => (c : Int)) := by
  have go : ∀ d i, i + d = ps.length → sol ls ps d (node L0 (cs.take i)) = some ((cs.drop i).map fun c : Nat => (c : Int)) := by
    intro d
    induction d with
    | zero =>
      intro i hi
      rw [sol, List.drop_eq_nil_of_le (by omega)]
      rfl
    | succ d ih =>
      intro i hi
      have hic : i < cs.length := by omega
      rw [sol, show ps.length - (d + 1) = i by omega]
      refine first_some (p := cs.getD i 0) (fun q hq => ?_) ?_ _ (g.lowAt hic)
      · split
        · next h =>
          have e := g.deadAt h6 (Nat.le_of_lt hic) (Nat.lt_trans hq (g.lowAt hic)) (g.old i hic q hq h) (fun _ => by omega) (by omega)
          rw [show ps.length - (i + 1) = d by omega] at e
          rw [e]
          rfl
        · rfl
      · rw [if_pos (g.did i hic), ← node_snoc, ← take_snoc hic, ih (i + 1) (by omega), List.drop_eq_getElem_cons hic]
        rw [List.getD_eq_getElem?_getD, List.getElem?_eq_getElem hic]
        rfl
  have := go ps.length 0 (by omega)
  simpa [node] using this
/-- Another player. -/
theorem Going.add (g : Going ls ps L0 cs T) {k : Nat} {U : List Int → Bool} (hd : cs.length < ps.length) (hk : k < ls.length) (hc : can ls (ps.getD cs.length 0) (node L0 cs) k = true)
    (ha : ∀ p, p < k → can ls (ps.getD cs.length 0) (node L0 cs) p = true → T (take1 (node L0 cs) p) = true) (hU : ∀ L, U L = true ↔ L = take1 (node L0 cs) k ∨ T L = true) : Going ls ps L0 (cs ++ [k]) U := by
  have ht : (cs ++ [k]).take cs.length = cs := by rw [take_app (Nat.le_refl _)]; exact List.take_length
  refine ⟨by simp; omega, fun c h => ?_, fun i hi => ?_, fun i hi p hp h => ?_, fun L h => ?_⟩
  · rcases List.mem_append.1 h with q | q
    · exact g.low c q
    · rw [List.mem_singleton.1 q]; exact hk
  · rcases (by simp at hi; omega : i < cs.length ∨ i = cs.length) with q | rfl
    · rw [take_app (Nat.le_of_lt q), getD_app q]; exact g.did i q
    · rw [ht, getD_last]; exact hc
  · refine (hU _).2 (.inr ?_)
    rcases (by simp at hi; omega : i < cs.length ∨ i = cs.length) with q | rfl
    · rw [take_app (Nat.le_of_lt q)] at h ⊢
      rw [getD_app q] at hp
      exact g.old i q p hp h
    · rw [ht] at h ⊢
      rw [getD_last] at hp
      exact ha p hp h
  · rcases (hU L).1 h with rfl | q
    · exact .inl ⟨cs.length, by simp, by rw [show (cs ++ [k]).take (cs.length + 1) = cs ++ [k] from List.take_of_length_le (by simp), node_snoc]⟩
    · rcases g.dead L q with ⟨i, hi, e⟩ | h
      · exact .inl ⟨i, by simp; omega, by rw [take_app (by omega)]; exact e⟩
      · exact .inr h
/-- The last player leaves the puppet to a later one. -/
theorem Going.pop {c : Nat} (g : Going ls ps L0 (cs ++ [c]) T) (h6 : ls.length ≤ L0.length) (hd : cs.length + 1 < ps.length)
    (ha : ∀ p, p < ls.length → can ls (ps.getD (cs.length + 1) 0) (node L0 (cs ++ [c])) p = true → T (take1 (node L0 (cs ++ [c])) p) = true) : Going ls ps L0 cs T := by
  have hl : (cs ++ [c]).length = cs.length + 1 := by simp
  have hn := g.none_ h6 (by rw [hl]; exact hd) (by rw [hl]; exact ha)
  rw [hl] at hn
  refine ⟨by omega, fun d h => g.low d (by simp [h]), fun i hi => ?_, fun i hi p hp h => ?_, fun L h => ?_⟩
  · have e := g.did i (by omega)
    rw [take_app (Nat.le_of_lt hi), getD_app hi] at e
    exact e
  · have e := g.old i (by omega) p (by rw [getD_app hi]; exact hp)
    rw [take_app (Nat.le_of_lt hi)] at e
    exact e h
  · rcases g.dead L h with ⟨i, hi, rfl⟩ | q
    · rcases (by omega : i < cs.length ∨ i = cs.length) with q | rfl
      · exact .inl ⟨i, q, by rw [take_app (by omega)]⟩
      · refine .inr ⟨cs.length + 1, by omega, g.totAt h6 (by omega), ?_⟩
        rw [show (cs ++ [c]).take (cs.length + 1) = cs ++ [c] from List.take_of_length_le (by simp)]
        exact hn
    · exact .inr q
end
theorem take1_back {L : List Int} {c : Nat} (h : c < L.length) : (take1 L c).set c ((take1 L c).getD c 0 + 1) = L := by
  rw [take1_same h]
  unfold take1
  rw [List.set_set, show L.getD c 0 - 1 + 1 = L.getD c 0 by omega, List.getD_eq_getElem?_getD, List.getElem?_eq_getElem h]
  exact List.set_getElem_self h
/-- How many of the first n codes are in the set. -/
def cntS (S : Nat → Bool) : Nat → Nat
  | 0 => 0
  | j + 1 => cntS S j + (if S j = true then 1 else 0)
theorem cntS_le (S : Nat → Bool) (n : Nat) : cntS S n ≤ n := by
  induction n with
  | zero => exact Nat.le_refl _
  | succ n ih => unfold cntS; split <;> omega
theorem cntS_more {S U : Nat → Bool} (h : ∀ k, S k = true → U k = true) (n : Nat) : cntS S n ≤ cntS U n := by
  induction n with
  | zero => exact Nat.le_refl _
  | succ n ih =>
    unfold cntS
    cases c : S n with
    | false => rw [if_neg (by simp)]; omega
    | true => rw [h n c]; simp; omega
theorem cntS_lt {S U : Nat → Bool} (h : ∀ k, S k = true → U k = true) {k : Nat} (h1 : S k = false) (h2 : U k = true) : ∀ n, k < n → cntS S n < cntS U n := by
  intro n
  induction n with
  | zero => intro h; omega
  | succ n ih =>
    intro hk
    unfold cntS
    by_cases c : k = n
    · subst c
      rw [h1, h2]
      have := cntS_more h k
      simp
      omega
    · have := ih (by omega)
      cases q : S n with
      | false => rw [if_neg (by simp)]; omega
      | true => rw [h n q]; simp; omega
def dec6 (c : Nat) : List Int := [((c % 3 : Nat) : Int), ((c / 3 % 3 : Nat) : Int), ((c / 9 % 3 : Nat) : Int), ((c / 27 % 3 : Nat) : Int), ((c / 81 % 3 : Nat) : Int), ((c / 243 % 3 : Nat) : Int)]
theorem HSix.code {L : List Int} (h : HSix L) : ∃ c, c < 729 ∧ dec6 c = L := by
  obtain ⟨hl, hv⟩ := h
  match L, hl with
  | [a, b, c, d, e, f], _ =>
    have h0 := hv 0
    have h1 := hv 1
    have h2 := hv 2
    have h3 := hv 3
    have h4 := hv 4
    have h5 := hv 5
    simp only [List.getD_cons_zero, List.getD_cons_succ] at h0 h1 h2 h3 h4 h5
    refine ⟨a.toNat + 3 * b.toNat + 9 * c.toNat + 27 * d.toNat + 81 * e.toNat + 243 * f.toNat, by omega, ?_⟩
    unfold dec6
    simp only [List.cons.injEq, and_true]
    refine ⟨by omega, by omega, by omega, by omega, by omega, by omega⟩
/-- How many six numbers of hands are in the set. -/
def sixes (T : List Int → Bool) : Nat := cntS (fun c => T (dec6 c)) 729
theorem sixes_le (T : List Int → Bool) : sixes T ≤ 729 := cntS_le _ _
theorem sixes_more {T U : List Int → Bool} {L : List Int} (h6 : HSix L) (h1 : T L = false) (hU : ∀ L', U L' = true ↔ L' = L ∨ T L' = true) : sixes T < sixes U := by
  obtain ⟨c, hc, rfl⟩ := h6.code
  exact cntS_lt (fun k h => (hU _).2 (.inr h)) h1 ((hU _).2 (.inl rfl)) _ hc
/-- Free hands of six players; of those that are not there, none. -/
def freeSix (ls : List RPlayer) : Nat → List Int
  | 0 => []
  | k + 1 => freeSix ls k ++ [(ls.getD k RPlayer.zero).f1]
theorem freeSix_len (ls : List RPlayer) : ∀ k, (freeSix ls k).length = k := by
  intro k
  induction k with
  | zero => rfl
  | succ k ih => rw [freeSix, List.length_append, ih]; rfl
theorem freeSix_at (ls : List RPlayer) : ∀ k i, i < k → (freeSix ls k).getD i 0 = (ls.getD i RPlayer.zero).f1 := by
  intro k
  induction k with
  | zero => intro i h; omega
  | succ k ih =>
    intro i h
    have hl := freeSix_len ls k
    rw [freeSix]
    by_cases c : i = k
    · subst c
      rw [List.getD_eq_getElem?_getD, List.getElem?_append_right (by omega), hl, Nat.sub_self]
      rfl
    · rw [List.getD_eq_getElem?_getD, List.getElem?_append_left (by omega), ← List.getD_eq_getElem?_getD]
      exact ih i (by omega)
theorem freeSix_six {ls : List RPlayer} (h : playersOk ls = true) : HSix (freeSix ls 6) := by
  refine ⟨freeSix_len ls 6, fun i => ?_⟩
  by_cases c : i < 6
  · rw [freeSix_at ls 6 i c]
    by_cases d : i < ls.length
    · rw [getP d]
      exact (player_fine ((playersOk_has h).2 i d)).2
    · rw [List.getD_eq_getElem?_getD, List.getElem?_eq_none (by omega)]
      exact ⟨Int.le_refl _, by decide⟩
  · rw [List.getD_eq_getElem?_getD, List.getElem?_eq_none (by rw [freeSix_len]; omega)]
    exact ⟨Int.le_refl _, by decide⟩
theorem firstCast_sol {ls : List RPlayer} {ps : List Int} (h : playersOk ls = true) (h2 : rising ps 6 = true) : firstCast ls ps = sol ls ps ps.length (freeSix ls 6) := by
  have hn := (playersOk_has h).1
  unfold firstCast
  rw [h, h2, if_pos (show (true && true) = true from rfl), srch_sol ls ps ps.length [] (List.replicate ls.length 0) (freeSix ls 6) (by simp) (by simp) (by rw [freeSix_len]; omega) (fun p hp => by
    rw [freeSix_at ls 6 p (by omega), show (List.replicate ls.length (0 : Int)).getD p 0 = 0 by rw [List.getD_eq_getElem?_getD, List.getElem?_replicate_of_lt hp]; rfl, Int.sub_zero])]
  cases sol ls ps ps.length (freeSix ls 6) <;> simp
/-- Who knows the puppet, in rising order. -/
theorem who_has (ls : List RPlayer) (x : Int) : ∀ k i, i < (whoTo ls x k).length → ∃ p : Nat, p < k ∧ (whoTo ls x k).getD i 0 = (p : Int) ∧ knowsB (ls.getD p RPlayer.zero) x = true := by
  intro k
  induction k with
  | zero => intro i h; simp [whoTo] at h
  | succ k ih =>
    intro i h
    rw [whoTo] at h ⊢
    split at h
    · next c =>
      rw [if_pos c]
      by_cases d : i < (whoTo ls x k).length
      · obtain ⟨p, hp, e, q⟩ := ih i d
        exact ⟨p, by omega, by rw [List.getD_eq_getElem?_getD, List.getElem?_append_left d, ← List.getD_eq_getElem?_getD]; exact e, q⟩
      · obtain rfl : i = (whoTo ls x k).length := by simp at h; omega
        exact ⟨k, by omega, by rw [List.getD_eq_getElem?_getD, List.getElem?_append_right (Nat.le_refl _), Nat.sub_self]; rfl, c⟩
    · next c =>
      rw [if_neg c]
      obtain ⟨p, hp, e, q⟩ := ih i h
      exact ⟨p, by omega, e, q⟩
/-- Whoever knows it and stands below the i-th of them is one of the first i. -/
theorem who_all (ls : List RPlayer) (x : Int) : ∀ k p, p < k → knowsB (ls.getD p RPlayer.zero) x = true → ∃ i, i < (whoTo ls x k).length ∧ (whoTo ls x k).getD i 0 = (p : Int) := by
  intro k
  induction k with
  | zero => intro p h; omega
  | succ k ih =>
    intro p hp c
    rw [whoTo]
    by_cases d : p = k
    · subst d
      rw [if_pos c]
      exact ⟨(whoTo ls x p).length, by simp, by rw [List.getD_eq_getElem?_getD, List.getElem?_append_right (Nat.le_refl _), Nat.sub_self]; rfl⟩
    · obtain ⟨i, hi, e⟩ := ih p (by omega) c
      split
      · exact ⟨i, by simp; omega, by rw [List.getD_eq_getElem?_getD, List.getElem?_append_left hi, ← List.getD_eq_getElem?_getD]; exact e⟩
      · exact ⟨i, hi, e⟩
theorem who_rises (ls : List RPlayer) (x : Int) : ∀ k i j, i < j → j < (whoTo ls x k).length → (whoTo ls x k).getD i 0 < (whoTo ls x k).getD j 0 := by
  intro k
  induction k with
  | zero => intro i j _ h; simp [whoTo] at h
  | succ k ih =>
    intro i j hij h
    rw [whoTo] at h ⊢
    split at h
    · next c =>
      rw [if_pos c]
      by_cases d : j < (whoTo ls x k).length
      · have e : ∀ q, q < (whoTo ls x k).length → (whoTo ls x k ++ [(k : Int)]).getD q 0 = (whoTo ls x k).getD q 0 := fun q hq => by
          rw [List.getD_eq_getElem?_getD, List.getElem?_append_left hq, ← List.getD_eq_getElem?_getD]
        rw [e i (by omega), e j d]
        exact ih i j hij d
      · obtain rfl : j = (whoTo ls x k).length := by simp at h; omega
        obtain ⟨p, hp, e, _⟩ := who_has ls x k i hij
        rw [List.getD_eq_getElem?_getD, List.getElem?_append_left hij, ← List.getD_eq_getElem?_getD, e, List.getD_eq_getElem?_getD, List.getElem?_append_right (Nat.le_refl _), Nat.sub_self]
        simp
        omega
    · next c => rw [if_neg c]; exact ih i j hij h
end Go.Proofs.Ytanlfkkmnnjpeaa

/- Arrays as values: a result that is one cell's array, a whole array into the variable made last. No condition. -/
namespace Go.Proofs.Ytanlfkkmnnjpeaa
set_option linter.unusedVariables false
set_option linter.unusedSimpArgs false
open Go.RowKit

theorem results_one {fn : Func} {p : Tmp} {ty : TypeId} (h : fn.results = #[.cell p ty]) (tmps : Array Value) (P : Program) (w : World) :
    (results fn tmps).run P w = ((asAddr (tmps.getD p undef)).run P w).andThen fun a w1 => (loadVar ty a).run P w1 := by
  simp only [results, h]
  simp [Sem.run_bind, Result.andThen]
  try rfl
theorem setCells_grown (b : Nat) : ∀ (vs : List Value) (o : Nat) (w : World), w.grownBy (w.setCells b o vs) (some b)
  | [], _, w => ⟨rfl, rfl, rfl, Nat.le_refl _, fun _ _ _ => rfl⟩
  | v :: r, o, w => by
    have h := setCells_grown b r (o + 1) (w.setCell ⟨b, o, none⟩ v)
    exact grown_then (grown_cell w ⟨b, o, none⟩ v) h
/-- A whole array into the variable that was made last. -/
theorem wpList_store_new {P : Program} {ops : Array Oper} {rest : List Oper} {op : Oper} {a : Act} {w : World} {Q : Exit → Act → World → Prop} (hgd : op.guard = none) (ty t : TypeId) (x y : Operand) (ho : op.op = .store ty x y)
    (c cells : Array Value) (hx : a.eval x = .pointer (some ⟨w.heap.size, 0, none⟩)) (hy : a.eval y = .agg cells)
    (hi : (P.info? ty).map (·.size) = some cells.size) (hc : c.size = cells.size) (h1 : cells.all (·.oneCell') = true)
    (h : wpList P ops Q rest (a.put op.dst undef) (w.alloc (.cells cells t))) : wpList P ops Q (op :: rest) a (w.alloc (.cells c t)) := by
  refine wpList_plain hgd fun K hK => ?_
  have hr : (storeVar ty ⟨w.heap.size, 0, none⟩ (.agg cells)).run P (w.alloc (.cells c t)) = .ok () (w.alloc (.cells cells t)) := by
    rw [run_storeVar_row _ _ t ty c cells (heap_alloc_last w _) hi hc h1, World.setRow_alloc_new]
  unfold Oper.wp execOp
  simp only [ho, hx, hy, Instr.storeAt, Instr.sureAddr, Sem.run_bind, Sem.run_pure, Result.andThen_ok, hr]
  exact hK _ _ h
end Go.Proofs.Ytanlfkkmnnjpeaa

/- An array of six numbers in a block of its own; the contract of the program's allHands. Condition: the players lie in a row of their own and are valid. -/
namespace Go.Proofs.Ytanlfkkmnnjpeaa
set_option linter.unusedVariables false
set_option linter.unusedSimpArgs false
open Go.RowKit

/-- Six numbers lie in block g. -/
def Arr6 (w : World) (base g : Nat) (zs : List Int) : Prop := w.ownsRow base 93 1 (.slice (some ⟨g, 0, none⟩) 6 6) 6 (zs.map intV)
theorem info6 : (Try.prog.info? 93).map (·.size) = some 6 := by kernel_rfl
section
variable {w w' : World} {base g : Nat} {zs : List Int}
theorem Arr6.alloc (h : Arr6 w base g zs) (o : Obj) : Arr6 (w.alloc o) base g zs := World.ownsRow.alloc h o
theorem Arr6.lt (h : Arr6 w base g zs) : base ≤ g ∧ g < w.heap.size := World.ownsRow.lt h g rfl
theorem Arr6.kept {row : Option Nat} (h : Arr6 w base g zs) (hg : w.grownBy w' row) (hne : some g ≠ row) : Arr6 w' base g zs := World.ownsRow.kept h hg (.inr hne)
theorem Arr6.below (h : Arr6 w base g zs) (hb : Below w.heap.size w w') : Arr6 w' base g zs := h.kept (grown_of_below hb none) (by simp)
theorem Arr6.len (h : Arr6 w base g zs) : zs.length = 6 := by have := h.1; simpa using this
theorem Arr6.spot (h : Arr6 w base g zs) {k : Nat} (hk : k < 6) : w.cell? ⟨g, k, none⟩ = some (.int .i64 (zs.getD k 0)) ∧ w.frozen? ⟨g, k, none⟩ = false := by
  have hl := h.len
  refine ⟨?_, World.ownsRow.frozenAt h k⟩
  rw [World.ownsRow.cellAt h k (by omega), List.getD_eq_getElem?_getD, List.getElem?_eq_getElem (by omega : k < zs.length)]
  simp [intV, hl, hk]
theorem Arr6.range (h : Arr6 w base g zs) : w.rangeAt g 0 (zs.map intV) := by
  intro j v hv
  have hj : j < zs.length := by have := (List.getElem?_eq_some_iff.1 hv).1; simpa using this
  have hl := h.len
  rw [Nat.zero_add, World.ownsRow.cellAt h j (by omega)]
  exact hv
theorem Arr6.there (h : Arr6 w base g zs) : w.there g 0 6 := by
  intro j hj
  rw [Nat.zero_add]
  exact ⟨by rw [(h.spot hj).1]; rfl, (h.spot hj).2⟩
theorem Arr6.set (h : Arr6 w base g zs) (k : Nat) (z : Int) : Arr6 (w.setCell ⟨g, k, none⟩ (.int .i64 z)) base g (zs.set k z) ∧ w.grownBy (w.setCell ⟨g, k, none⟩ (.int .i64 z)) (some g) := by
  unfold Arr6 at *
  obtain ⟨h1, g1⟩ := World.ownsRow.stored h k (.int .i64 z)
  rw [List.map_set]
  exact ⟨h1, g1⟩
theorem Arr6.sets (h : Arr6 w base g zs) {M : List Int} (hM : M.length = 6) : Arr6 (w.setCells g 0 (M.map intV)) base g M ∧ w.grownBy (w.setCells g 0 (M.map intV)) (some g) := by
  refine ⟨?_, setCells_grown g _ 0 w⟩
  have hl := h.len
  match zs, hl, M, hM with
  | [a0, a1, a2, a3, a4, a5], _, [b0, b1, b2, b3, b4, b5], _ =>
    exact ((((((h.set 0 b0).1.set 1 b1).1.set 2 b2).1.set 3 b3).1.set 4 b4).1.set 5 b5).1
theorem info6_len {M : List Int} (hM : M.length = 6) : (Try.prog.info? 93).map (·.size) = some (M.map intV).length := by rw [info6, List.length_map, hM]
theorem info6_arr {M : List Int} (hM : M.length = 6) : (Try.prog.info? 93).map (·.size) = some (M.map intV).toArray.size := by rw [info6]; simp [hM]
theorem one6 (M : List Int) : ((M.map intV).toArray).all (·.oneCell') = true := all_oneCell_toArray (fun v hv => by obtain ⟨z, -, rfl⟩ := List.mem_map.1 hv; rfl)
end
theorem arr6_new (w : World) (base : Nat) (cs : Array Value) (zs : List Int) (hcs : cs.toList = zs.map intV) (hz : zs.length = 6) (hb : base ≤ w.heap.size) : Arr6 (w.alloc (.cells cs 93)) base w.heap.size zs := by
  have hs : cs.size = 6 := by rw [← Array.length_toList, hcs, List.length_map, hz]
  exact ⟨by simp [hz], .inr ⟨w.heap.size, 6, cs, rfl, hb, heap_alloc_new w _, Nat.le_refl _, by simp only [maxLen]; omega, by omega, by rw [hcs, List.take_of_length_le (by simp [hz])]⟩⟩
/-- The free hands of the first k players; none of the others. -/
def handsAt (ls : List RPlayer) (k : Nat) : List Int := freeSix ls k ++ List.replicate (6 - k) 0
theorem handsAt_len (ls : List RPlayer) {k : Nat} (h : k ≤ 6) : (handsAt ls k).length = 6 := by unfold handsAt; rw [List.length_append, freeSix_len, List.length_replicate]; omega
theorem handsAt_next (ls : List RPlayer) {k : Nat} (h : k < 6) : handsAt ls (k + 1) = (handsAt ls k).set k (ls.getD k RPlayer.zero).f1 := by
  unfold handsAt
  rw [List.set_append_right _ _ (by rw [freeSix_len]; omega), freeSix_len, Nat.sub_self, show 6 - k = (6 - (k + 1)) + 1 by omega, List.replicate_succ, List.set_cons_zero, freeSix, List.append_assoc]
  rfl
theorem handsAt_all (ls : List RPlayer) (h : ls.length ≤ 6) : handsAt ls ls.length = freeSix ls 6 := by
  have go : ∀ j, freeSix ls (ls.length + j) = freeSix ls ls.length ++ List.replicate j 0 := by
    intro j
    induction j with
    | zero => simp
    | succ j ih =>
      rw [show ls.length + (j + 1) = ls.length + j + 1 by omega, freeSix, ih, List.append_assoc, List.replicate_succ', List.getD_eq_getElem?_getD, List.getElem?_eq_none (by omega)]
      rfl
  unfold handsAt
  rw [← go, show ls.length + (6 - ls.length) = 6 by omega]

set_option maxRecDepth 100000 in
set_option maxHeartbeats 3200000 in
theorem implAll (v : Value) (ls : List RPlayer) (b : Nat) (w : World) (h : OwnPlayer w b v ls) (hl : ls.length ≤ 6) :
    Calls Try.prog 71 #[v] w fun e w' => e = .returned (.agg ((freeSix ls 6).map intV).toArray) ∧ Below w.heap.size w w' := by
  obtain ⟨A, c, rfl⟩ := h.slice
  have O := Lib.hid h
  have HA := Lib.hid (handsAt_all ls hl)
  have HN := Lib.hid (fun k (hk : k < 6) => handsAt_next ls hk)
  have HZ := Lib.hid (fun k (hk : k ≤ 6) => handsAt_len ls hk)
  have z0 : (Array.replicate 6 (Value.int .i64 0)).toList = (handsAt ls 0).map intV := rfl
  have A0 := Lib.hid ((arr6_new w w.heap.size (Array.replicate 6 (.int .i64 0)) (handsAt ls 0) z0 rfl (Nat.le_refl _)).alloc (.cells (Array.replicate 6 (.int .i64 0)) 93))
  have A1 := Lib.hid (show Arr6 ((w.alloc (.cells (Array.replicate 6 (.int .i64 0)) 93)).alloc (.cells (Array.replicate 6 (.int .i64 0)) 93)) w.heap.size (w.heap.size + 1) (handsAt ls 0) from by
    have q := arr6_new (w.alloc (.cells (Array.replicate 6 (.int .i64 0)) 93)) w.heap.size (Array.replicate 6 (.int .i64 0)) (handsAt ls 0) z0 rfl (by simp)
    simpa using q)
  have B1 := Lib.hid (((Below.refl w.heap.size w).alloc (Nat.le_refl _) (.cells (Array.replicate 6 (.int .i64 0)) 93)).alloc (by simp) (.cells (Array.replicate 6 (.int .i64 0)) 93))
  clear h z0
  go_enter Try.func71, Try.ntmps71
  go_wp2_with fail
  go_loopw [8] (fun iv wr => ∃ k : Nat, k ≤ ls.length ∧ iv = .int .i64 (k : Int) ∧ Hid (Arr6 wr w.heap.size w.heap.size (handsAt ls 0)) ∧ Hid (Arr6 wr w.heap.size (w.heap.size + 1) (handsAt ls k)) ∧ Hid (Below w.heap.size w wr)) (fun iv _ => ls.length - (intOf iv).toNat)
  case atStart => exact ⟨0, by omega, rfl, A0, A1, B1⟩
  case round =>
    clear A0 A1 B1
    obtain ⟨k, hk, rfl, A0, A1, BW⟩ := hrel
    by_cases hlt : k < ls.length
    rotate_left
    · obtain rfl : k = ls.length := by omega
      have LN := HZ.out ls.length hl
      have hi := info6_len LN
      have hi2 := info6_arr LN
      have hr := A1.out.range
      go_wp2_with (first
        | (refine wpList_load_mid rfl 93 _ rfl (w.heap.size + 1) 0 rfl ((handsAt ls ls.length).map intV) _ hr Try.underlying93 rfl hi ?_)
        | (refine wpList_store_mid rfl 93 _ _ rfl w.heap.size 0 ((handsAt ls ls.length).map intV).toArray rfl rfl (by have := A0.out.there; simpa [LN] using this) hi2 (one6 _) ?_))
      have hrl : (loadVar 93 ⟨w.heap.size, 0, none⟩).run Try.prog (wr.setCells w.heap.size 0 ((handsAt ls ls.length).map intV)) = .ok (.agg ((handsAt ls ls.length).map intV).toArray) (wr.setCells w.heap.size 0 ((handsAt ls ls.length).map intV)) :=
        run_loadVar_mid _ _ 0 _ _ _ (World.rangeAt_setCells_same wr _ 0 _ (by rw [List.length_map, LN]; exact A0.out.there)) Try.underlying93 rfl hi
      refine bodyPost_ret (v := .agg ((handsAt ls ls.length).map intV).toArray) ?_ rfl ⟨by rw [HA.out], ?_⟩
      · rw [results_one rfl]
        exact hrl
      · exact BW.out.grown (setCells_grown _ _ _ _) BW.out.size (fun q hq => by have := Option.some.inj hq; omega)
    have hk0 : (0 : Int) ≤ (k : Int) := by omega
    have hk1 : (k : Int) < (ls.length : Int) := by omega
    have hk6 : (k : Int) < 6 := by omega
    obtain ⟨g, _, A2, c2, f1, -, ⟨x0, x1⟩, -, -⟩ := (O.out.below BW.out).spot hlt
    simp only [Value.slice.injEq] at f1
    obtain ⟨rfl, -, rfl⟩ := f1
    have NX := Lib.hid (show handsAt ls (k + 1) = (handsAt ls k).set k ls[k].f1 by rw [HN.out k (by omega), getP hlt])
    generalize ls[k].f1 = t at x1 NX
    generalize ls[k].f0.length = n1 at x0
    have hbs := BW.out.size
    have hgl := A1.out.lt.2
    obtain ⟨y0, y1⟩ := A1.out.spot (k := k) (by omega)
    obtain ⟨hS, hG⟩ := A1.out.set k t
    rw [← NX.out] at hS
    have A2' := Lib.hid (hS.alloc (.cells #[.slice A2 n1 c2, .int .i64 t] 71))
    have A3' := Lib.hid ((A0.out.kept hG (by simp)).alloc (.cells #[.slice A2 n1 c2, .int .i64 t] 71))
    have B2 := BW.out.grown hG hbs (fun q hq => by have := Option.some.inj hq; omega)
    have B3 := Lib.hid (B2.alloc B2.size (.cells #[.slice A2 n1 c2, .int .i64 t] 71))
    generalize (handsAt ls k).getD k 0 = old at y0
    clear hS hG A0 A1 B2
    go_wp2
    exact ⟨⟨k + 1, by omega, by go_num, A3', A2', B3⟩, by simp [intOf]; omega⟩
end Go.Proofs.Ytanlfkkmnnjpeaa

/- A row of numbers made by make is a row of zeros of the call's own. No condition. -/
namespace Go.Proofs.Ytanlfkkmnnjpeaa
set_option linter.unusedVariables false
set_option linter.unusedSimpArgs false
open Go.RowKit

theorem madeZero {w : World} {base g n : Nat} (h : w.ownsRow base 3 1 (.slice (some ⟨g, 0, none⟩) n n) n (madeCells (Value.int .i64 0).cells (n * 1)).toList) : OwnI w base (.slice (some ⟨g, 0, none⟩) n n) (List.replicate n 0) := by
  have e : (madeCells (Value.int .i64 0).cells (n * 1)).toList = (List.replicate n (0 : Int)).map intV := by
    refine List.ext_getElem (by simp [size_madeCells]) fun i h1 h2 => ?_
    simp only [madeCells, Array.getElem_toList, Array.getElem_map, Array.getElem_range, List.getElem_map, List.getElem_replicate]
    rw [show i % (Value.int .i64 0).cells.size = 0 from Nat.mod_one i]
    rfl
  unfold OwnI
  rw [List.length_replicate, ← e]
  exact h
end Go.Proofs.Ytanlfkkmnnjpeaa

/- Two lists of numbers that agree at each place; a list by its places. No condition. -/
namespace Go.Proofs.Ytanlfkkmnnjpeaa
set_option linter.unusedVariables false
set_option linter.unusedSimpArgs false
open Go.RowKit

theorem ext_getD {a b : List Int} (hl : a.length = b.length) (h : ∀ p, p < a.length → a.getD p 0 = b.getD p 0) : a = b := by
  refine List.ext_getElem hl fun p h1 h2 => ?_
  have e := h p h1
  rw [List.getD_eq_getElem?_getD, List.getD_eq_getElem?_getD, List.getElem?_eq_getElem h1, List.getElem?_eq_getElem h2] at e
  exact e
theorem rng_at (f : Nat → Int) {n p : Nat} (h : p < n) : ((List.range n).map f).getD p 0 = f p := by
  rw [List.getD_eq_getElem?_getD, List.getElem?_eq_getElem (by simpa using h)]
  simp
end Go.Proofs.Ytanlfkkmnnjpeaa

/- The contract of the program's IsCasting. Condition: the players and the numbers lie in rows of their own. -/
namespace Go.Proofs.Ytanlfkkmnnjpeaa
set_option linter.unusedVariables false
set_option linter.unusedSimpArgs false
open Go.RowKit

/-- The hands left behind the first i of a cast. -/
def lft (ls : List RPlayer) (cs : List Int) (i : Nat) : List Int := (List.range 6).map fun p : Nat => (ls.getD p RPlayer.zero).f1 - cntI cs (p : Int) i
theorem lft_len (ls : List RPlayer) (cs : List Int) (i : Nat) : (lft ls cs i).length = 6 := by simp [lft]
theorem lft_at (ls : List RPlayer) (cs : List Int) (i : Nat) {p : Nat} (hp : p < 6) : (lft ls cs i).getD p 0 = (ls.getD p RPlayer.zero).f1 - cntI cs (p : Int) i := by rw [lft, rng_at _ hp]
theorem lft_zero (ls : List RPlayer) (cs : List Int) : lft ls cs 0 = freeSix ls 6 := by
  refine ext_getD (by rw [lft_len, freeSix_len]) fun p hp => ?_
  rw [lft_len] at hp
  rw [lft_at ls cs 0 hp, freeSix_at ls 6 p hp, cntI]
  omega
theorem lft_next {ls : List RPlayer} {cs : List Int} {i k : Nat} (hk : k < 6) (e : cs.getD i 0 = (k : Int)) : lft ls cs (i + 1) = (lft ls cs i).set k ((lft ls cs i).getD k 0 - 1) := by
  refine ext_getD (by rw [List.length_set, lft_len, lft_len]) fun p hp => ?_
  rw [lft_len] at hp
  rw [lft_at ls cs (i + 1) hp, cntI, e]
  by_cases c : k = p
  · subst c
    rw [getD_set_same (by rw [lft_len]; exact hk), if_pos rfl, lft_at ls cs i hk]
    omega
  · rw [getD_set_other c, lft_at ls cs i hp, if_neg (by omega)]
    omega
theorem cntI_mono (zs : List Int) (k : Int) {i : Nat} : ∀ {j : Nat}, i ≤ j → cntI zs k i ≤ cntI zs k j := by
  intro j
  induction j with
  | zero => intro h; obtain rfl : i = 0 := by omega
            exact Int.le_refl _
  | succ j ih =>
    intro h
    rcases (by omega : i ≤ j ∨ i = j + 1) with q | rfl
    · have := ih q
      rw [cntI]
      split <;> omega
    · exact Int.le_refl _
theorem has_who (ls : List RPlayer) (x y : Int) : hasZ (whoTo ls x ls.length) y = (inB y 0 ((ls.length : Int) - 1) && knowsB (ls.getD y.toNat RPlayer.zero) x) := by
  cases c : hasZ (whoTo ls x ls.length) y with
  | true =>
    obtain ⟨z, hz, e⟩ := List.any_eq_true.1 c
    obtain ⟨i, hi, rfl⟩ := List.mem_iff_getElem.1 hz
    obtain ⟨p, hp, e2, e3⟩ := who_has ls x ls.length i hi
    rw [List.getD_eq_getElem?_getD, List.getElem?_eq_getElem hi] at e2
    have e4 : y = (p : Int) := by rw [← of_decide_eq_true e]; exact e2
    subst e4
    rw [Int.toNat_natCast, e3, inB_yes (by omega)]
    rfl
  | false =>
    cases d : inB y 0 ((ls.length : Int) - 1) with
    | false => rfl
    | true =>
      have hy : 0 ≤ y ∧ y ≤ (ls.length : Int) - 1 := by simpa [inB] using d
      obtain ⟨p, rfl⟩ := Int.eq_ofNat_of_zero_le hy.1
      rw [Int.toNat_natCast]
      cases q : knowsB (ls.getD p RPlayer.zero) x with
      | false => rfl
      | true =>
        obtain ⟨i, hi, e⟩ := who_all ls x ls.length p (by omega) q
        rw [List.getD_eq_getElem?_getD, List.getElem?_eq_getElem hi] at e
        rw [hasZ_yes hi e] at c
        cases c

set_option maxRecDepth 100000 in
set_option maxHeartbeats 3200000 in
theorem implCas (v : Value) (ls : List RPlayer) (b : Nat) (w : World) (h : OwnPlayer w b v ls) (hl : ls.length ≤ 2000000) (hr : ∀ k (hk : k < ls.length), ls[k].f0.length ≤ 2000000) (u : Value) (ps : List Int) (b2 : Nat) (h2 : OwnI w b2 u ps) (hp : ps.length ≤ 2000000)
    (x : Value) (cs : List Int) (b3 : Nat) (h3 : OwnI w b3 x cs) (hc : cs.length ≤ 2000000) :
    Calls Try.prog 67 #[v, u, x] w fun e w' => e = .returned (.bool (isCasting ls ps cs)) ∧ Below w.heap.size w w' := by
  have CK := Lib.hid (implPOk v ls b w h hl hr)
  have CR := Lib.hid (fun W h => implPup u ps b2 W h hp)
  have CW := Lib.hid (fun x W h => implWho v ls b W h hl hr x)
  have CA := Lib.hid (fun W h => implAll v ls b W h)
  obtain ⟨A, c, rfl⟩ := h.slice
  obtain ⟨D, d, rfl⟩ := h2.slice
  obtain ⟨X, cx, rfl⟩ := h3.slice
  have O := Lib.hid h
  have P := Lib.hid h2
  have Z := Lib.hid h3
  clear h h2 h3 hr
  cases hok : playersOk ls with
  | false =>
    have R := Lib.hid (show isCasting ls ps cs = false by unfold isCasting; rw [hok]; rfl)
    rw [hok] at CK
    go_enter Try.func67, Try.ntmps67
    go_wp2_with (go_at_call 51; refine CK.out.mono ?_; rintro e w1 ⟨rfl, b1⟩; have B1 := Lib.hid b1; clear b1)
    go_ret
    exact ⟨by rw [R.out]; rfl, B1.out⟩
  | true =>
  have hn := (playersOk_has hok).1
  rw [hok] at CK
  cases hris : rising ps 6 with
  | false =>
    have R := Lib.hid (show isCasting ls ps cs = false by unfold isCasting; rw [hok, hris]; rfl)
    rw [hris] at CR
    go_enter Try.func67, Try.ntmps67
    go_wp2_with (first | (go_at_call 51; refine CK.out.mono ?_; rintro e w1 ⟨rfl, b1⟩; have B1 := Lib.hid b1; clear b1) | (go_at_call 53; refine (CR.out _ (P.out.below B1.out)).mono ?_; rintro e w' ⟨rfl, rfl⟩))
    go_ret
    exact ⟨by rw [R.out]; rfl, B1.out⟩
  | true =>
  rw [hris] at CR
  by_cases hlen : cs.length = ps.length
  rotate_left
  · have R := Lib.hid (show isCasting ls ps cs = false by unfold isCasting; rw [hok, hris, decide_eq_false hlen]; rfl)
    have hne : ((cs.length : Int) == (ps.length : Int)) = false := by rw [beq_eq_false_iff_ne]; omega
    clear hris hok
    generalize cs.length = n1 at *
    generalize ps.length = n2 at *
    go_enter Try.func67, Try.ntmps67
    go_wp2_with (first | (go_at_call 51; refine CK.out.mono ?_; rintro e w1 ⟨rfl, b1⟩; have B1 := Lib.hid b1; clear b1) | (go_at_call 53; refine (CR.out _ (P.out.below B1.out)).mono ?_; rintro e w' ⟨rfl, rfl⟩))
    go_ret
    exact ⟨by rw [R.out]; rfl, B1.out⟩
  have h7 := rising_seven hris
  have RN1 := Lib.hid (show ∀ k, k < cs.length → castAt ls ps cs k = false → isCasting ls ps cs = false from fun k hk e => by unfold isCasting; rw [range_no hk e]; simp)
  have RN2 := Lib.hid (show ∀ k, k < ls.length → loadFit ls cs k = false → isCasting ls ps cs = false from fun k hk e => by unfold isCasting; rw [range_no hk e]; simp)
  have RY := Lib.hid (show (∀ k, k < cs.length → castAt ls ps cs k = true) → (∀ k, k < ls.length → loadFit ls cs k = true) → isCasting ls ps cs = true from fun e1 e2 => by
    unfold isCasting
    rw [hok, hris, decide_eq_true hlen, range_yes e1, range_yes e2]
    rfl)
  have LD := Lib.hid (show ∀ p, p < ls.length → cntI cs (p : Int) cs.length ≤ (ls.getD p RPlayer.zero).f1 → loadFit ls cs p = true from fun p hp e => by unfold loadFit; rw [decide_eq_false (by omega)]; rfl)
  have FN := Lib.hid (fun k (hk : k < ls.length) => (player_fine ((playersOk_has hok).2 k hk)).2)
  have WK := Lib.hid (fun x => (show whoKnows ls x = whoTo ls x ls.length by unfold whoKnows; rw [if_pos hok]))
  have hll : ls.length ≤ 6 := by omega
  have CA2 := Lib.hid (fun W h => CA.out W h hll)
  rw [← lft_zero ls cs] at CA2
  have HL := Lib.hid hlen
  rw [hlen] at Z ⊢
  have hne : ((ps.length : Int) == (ps.length : Int)) = true := by simp
  clear hok hris hlen CA
  rw [HL.out] at RN1 RY LD
  go_enter Try.func67, Try.ntmps67
  have L0 := lft_len ls cs 0
  go_wp2_with (first
    | (go_at_call 51; refine CK.out.mono ?_; rintro e w1 ⟨rfl, b1⟩; have B1 := Lib.hid b1; clear b1) | (go_at_call 53; refine (CR.out _ (P.out.below B1.out)).mono ?_; rintro e w' ⟨rfl, rfl⟩)
    | (go_at_call 71; refine (CA2.out _ (O.out.below B1.out)).mono ?_; rintro e w2 ⟨rfl, b2⟩; have B2 := Lib.hid (B1.out.trans (b2.mono B1.out.size)); clear b2)
    | (refine wpList_store_new rfl 93 93 _ _ rfl _ (((lft ls cs 0).map intV).toArray) rfl rfl (info6_arr L0) (by simp [L0]) (one6 _) ?_
       have A3 := Lib.hid (arr6_new w2 w2.heap.size ((lft ls cs 0).map intV).toArray (lft ls cs 0) (by simp) L0 (Nat.le_refl _))
       have B3 := Lib.hid (B2.out.alloc B2.out.size (.cells ((lft ls cs 0).map intV).toArray 93))
       have hb2 := B2.out.size))
  generalize w2.heap.size = g at A3 hb2 ⊢
  clear CK CR CA2 B1 B2 L0
  go_loopw [29] (fun iv wr => ∃ i : Nat, i ≤ ps.length ∧ iv = .int .i64 (i : Int) ∧ Hid (∀ j, j < i → castAt ls ps cs j = true) ∧ Hid (∀ p, p < ls.length → cntI cs (p : Int) i ≤ (ls.getD p RPlayer.zero).f1) ∧ Hid (Arr6 wr g g (lft ls cs i)) ∧ Hid (Below w.heap.size w wr)) (fun iv _ => ps.length - (intOf iv).toNat)
  case atStart => exact ⟨0, by omega, rfl, Lib.hid (fun i hi => absurd hi (by omega)), Lib.hid (fun p hp => by rw [getP hp, cntI]; exact (FN.out p hp).1), A3, B3⟩
  case round =>
    clear A3 B3
    obtain ⟨i, hi, rfl, HN, HC, A6, BW⟩ := hrel
    by_cases hlt : i < ps.length
    rotate_left
    · obtain rfl : i = ps.length := by omega
      have R := Lib.hid (RY.out HN.out (fun p hp => LD.out p hp (HC.out p hp)))
      go_wp2
      go_ret
      exact ⟨by rw [R.out]; rfl, BW.out⟩
    have hi0 : (0 : Int) ≤ (i : Int) := by omega
    have hi1 : (i : Int) < (ps.length : Int) := by omega
    obtain ⟨gc, _, f1, _, _, z0, _⟩ := (Z.out.below BW.out).spot (k := i) (by rw [HL.out]; exact hlt)
    simp only [Value.slice.injEq] at f1
    obtain ⟨rfl, -, rfl⟩ := f1
    obtain ⟨gp, _, f1, _, _, p0, _⟩ := (P.out.below BW.out).spot hlt
    simp only [Value.slice.injEq] at f1
    obtain ⟨rfl, -, rfl⟩ := f1
    have gA : ∀ (zs : List Int) t (ht : t < zs.length), zs[t] = zs.getD t 0 := fun zs t ht => by rw [List.getD_eq_getElem?_getD, List.getElem?_eq_getElem ht]; rfl
    rw [gA] at z0 p0
    have AT := Lib.hid (show castAt ls ps cs i = hasZ (whoTo ls (ps.getD i 0) ls.length) (cs.getD i 0) by rw [has_who]; rfl)
    have AT2 := Lib.hid (show castAt ls ps cs i = (inB (cs.getD i 0) 0 ((ls.length : Int) - 1) && knowsB (ls.getD (cs.getD i 0).toNat RPlayer.zero) (ps.getD i 0)) from rfl)
    have RX := Lib.hid (RN1.out i hlt)
    have NX := Lib.hid (show castAt ls ps cs i = true → ∀ j, j < i + 1 → castAt ls ps cs j = true from fun e j hj => by
      rcases (by omega : j < i ∨ j = i) with q | rfl
      · exact HN.out j q
      · exact e)
    have hbs := BW.out.size
    have hgl := A6.out.lt.2
    have KW := Lib.hid (CW.out (ps.getD i 0) wr (O.out.below BW.out))
    rw [WK.out] at KW
    have wl := who_len ls (ps.getD i 0) ls.length
    have LN := Lib.hid (fun (k : Nat) (hk : k < 6) (e : cs.getD i 0 = (k : Int)) => lft_next (ls := ls) hk e)
    have CN := Lib.hid (fun (p : Nat) => (show cntI cs (p : Int) (i + 1) = cntI cs (p : Int) i + if cs.getD i 0 = (p : Int) then 1 else 0 from rfl))
    generalize cs.getD i 0 = y at z0 AT AT2 LN CN
    generalize ps.getD i 0 = z at p0 AT AT2 KW wl
    generalize whoTo ls z ls.length = who at AT KW wl
    have WLn := Lib.hid wl
    cases hca : castAt ls ps cs i with
    | false =>
      have R := Lib.hid (RX.out hca)
      have HZ := Lib.hid (AT.out.symm.trans hca)
      clear hca NX AT AT2 RX gA wl LN CN
      go_wp2_with (first
        | (go_at_call 73; refine KW.out.mono ?_; rintro e w4 ⟨vw, rfl, ow, b4⟩; obtain ⟨W4, cw, rfl⟩ := ow.slice; have B4 := Lib.hid (BW.out.trans (b4.mono hbs)); have C4 := Lib.hid (contains_any _ who wr.heap.size w4 ow (by have := WLn.out; omega) y); rw [HZ.out] at C4; clear ow b4)
        | (go_at_call 72; refine C4.out.mono ?_; rintro e w' ⟨rfl, rfl⟩))
      go_ret
      exact ⟨by rw [R.out]; rfl, B4.out⟩
    | true =>
      have N1 := Lib.hid (NX.out hca)
      have HZ := Lib.hid (AT.out.symm.trans hca)
      have hin : inB y 0 ((ls.length : Int) - 1) = true := by
        have q := AT2.out.symm.trans hca
        rw [Bool.and_eq_true] at q
        exact q.1
      have hyr : 0 ≤ y ∧ y ≤ (ls.length : Int) - 1 := by simpa [inB] using hin
      obtain ⟨k, rfl⟩ := Int.eq_ofNat_of_zero_le hyr.1
      have hk : k < ls.length := by omega
      have hk0 : (0 : Int) ≤ (k : Int) := by omega
      have hk6 : (k : Int) < 6 := by omega
      have LA := lft_at ls cs i (p := k) (by omega)
      have SM := cntI_small cs (k : Int) i
      have FK := FN.out k hk
      rw [← getP hk] at FK
      have MO := cntI_mono cs (k : Int) (show i + 1 ≤ ps.length by omega)
      have CK1 := CN.out k
      rw [if_pos rfl] at CK1
      have CK2 := HC.out k hk
      obtain ⟨t, ht⟩ : ∃ t, t = (lft ls cs i).getD k 0 := ⟨_, rfl⟩
      rw [← ht] at LA
      have HT := Lib.hid ht
      clear ht
      by_cases hz : t = 0
      · have R := Lib.hid (RN2.out k hk (by unfold loadFit; rw [HL.out, decide_eq_true (by omega)]; rfl))
        subst hz
        clear hca NX AT AT2 RX gA wl LN CN hin hyr LA SM FK MO CK1 CK2
        go_wp2_with (first
          | (go_at_call 73; refine KW.out.mono ?_; rintro e w4 ⟨vw, rfl, ow, b4⟩; obtain ⟨W4, cw, rfl⟩ := ow.slice; have B4 := Lib.hid (BW.out.trans (b4.mono hbs)); have C4 := Lib.hid (contains_any _ who wr.heap.size w4 ow (by have := WLn.out; omega) (k : Int)); rw [HZ.out] at C4; have y0 := ((A6.out.below b4).spot (k := k) (by omega)).1; rw [← HT.out] at y0; clear ow b4)
          | (go_at_call 72; refine C4.out.mono ?_; rintro e w' ⟨rfl, rfl⟩))
        go_ret
        exact ⟨by rw [R.out]; rfl, B4.out⟩
      · have hzb : (t == 0) = false := by rw [beq_eq_false_iff_ne]; exact hz
        have HC2 := Lib.hid (show ∀ p, p < ls.length → cntI cs (p : Int) (i + 1) ≤ (ls.getD p RPlayer.zero).f1 from fun p hp => by
          rw [CN.out p]
          have := HC.out p hp
          split
          · next e =>
            obtain rfl : k = p := by omega
            omega
          · omega)
        have LN2 := Lib.hid (LN.out k (by omega) rfl)
        rw [← HT.out] at LN2
        have ew : IntKind.i64.wrap (t - 1) = t - 1 := IntWalk.i64_in _ (by omega)
        clear hca NX AT AT2 RX gA wl LN CN hin hyr LA SM FK MO CK1 CK2
        go_wp2_with (first
          | (go_at_call 73; refine KW.out.mono ?_; rintro e w4 ⟨vw, rfl, ow, b4⟩; obtain ⟨W4, cw, rfl⟩ := ow.slice; have B4 := Lib.hid (BW.out.trans (b4.mono hbs)); have C4 := Lib.hid (contains_any _ who wr.heap.size w4 ow (by have := WLn.out; omega) (k : Int)); rw [HZ.out] at C4; obtain ⟨y0, y1⟩ := (A6.out.below b4).spot (k := k) (by omega); rw [← HT.out] at y0; have S4 := Lib.hid ((A6.out.below b4).set k (t - 1)); rw [← LN2.out] at S4; have A7 := Lib.hid S4.out.1; have B5 := Lib.hid (B4.out.grown S4.out.2 B4.out.size (fun q hq => by have := Option.some.inj hq; omega)); clear ow b4 S4)
          | (go_at_call 72; refine C4.out.mono ?_; rintro e w' ⟨rfl, rfl⟩))
        exact ⟨⟨i + 1, by omega, by go_num, N1, HC2, A7, B5⟩, by simp [intOf]; omega⟩
end Go.Proofs.Ytanlfkkmnnjpeaa
