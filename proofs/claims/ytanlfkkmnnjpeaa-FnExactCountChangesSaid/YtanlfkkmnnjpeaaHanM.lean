/- Players as mathematics: PlayersOk, HandsFree, WhoKnows, LoadOf, IsCasting, FirstCasting. No condition. -/
import Derived.Test.YtanlfkkmnnjpeaaPlayerM
import Derived.Test.YtanlfkkmnnjpeaaRisM
namespace Go.Proofs.Ytanlfkkmnnjpeaa
set_option linter.unusedVariables false
set_option linter.unusedSimpArgs false
open Go.RowKit

def playerFine (l : RPlayer) : Bool := rising l.f0 6 && inB l.f1 0 2
def playersOk (ls : List RPlayer) : Bool := ls.all playerFine && inB (ls.length : Int) 1 6
theorem playersOk_bad {ls : List RPlayer} {k : Nat} (hk : k < ls.length) (h : playerFine ls[k] = false) : playersOk ls = false := by
  unfold playersOk
  rw [List.all_eq_false.2 ⟨ls[k], List.getElem_mem hk, by rw [h]; simp⟩]
  rfl
theorem playersOk_all {ls : List RPlayer} (ha : ∀ k (hk : k < ls.length), playerFine ls[k] = true) : playersOk ls = inB (ls.length : Int) 1 6 := by
  unfold playersOk
  rw [List.all_eq_true.2 fun l hl => by obtain ⟨k, hk, rfl⟩ := List.mem_iff_getElem.1 hl; exact ha k hk]
  rfl
theorem playersOk_has {ls : List RPlayer} (h : playersOk ls = true) : (1 ≤ ls.length ∧ ls.length ≤ 6) ∧ ∀ k (hk : k < ls.length), playerFine ls[k] = true := by
  unfold playersOk at h
  simp only [Bool.and_eq_true, List.all_eq_true] at h
  obtain ⟨h1, h2⟩ := h
  have h2' : 1 ≤ (ls.length : Int) ∧ (ls.length : Int) ≤ 6 := by simpa [inB] using h2
  exact ⟨by omega, fun k hk => h1 _ (List.getElem_mem hk)⟩
theorem rising_len {zs : List Int} {most : Int} (h : rising zs most = true) : ∀ j, j < zs.length → (j : Int) ≤ zs.getD j 0 ∧ zs.getD j 0 ≤ most := by
  have hr := (rise_iff _ _ _).1 h
  intro j
  induction j with
  | zero =>
    intro hj
    have h2 := hr 0 hj
    unfold riseAt at h2
    simp only [Bool.and_eq_true] at h2
    have h3 := h2.1
    generalize zs.getD 0 0 = x at h3 ⊢
    have h3 : 0 ≤ x ∧ x ≤ most := by simpa [inB] using h3
    omega
  | succ j ih =>
    intro hj
    have h0 := ih (by omega)
    have h2 := hr (j + 1) hj
    unfold riseAt at h2
    simp only [Bool.and_eq_true, Bool.or_eq_true, decide_eq_true_eq] at h2
    have h3 := h2.1
    have h4 := h2.2
    rw [show j + 1 - 1 = j by omega] at h4
    generalize zs.getD (j + 1) 0 = x at h3 h4 ⊢
    generalize zs.getD j 0 = y at h0 h4
    have h3 : 0 ≤ x ∧ x ≤ most := by simpa [inB] using h3
    omega
theorem rising_seven {zs : List Int} (h : rising zs 6 = true) : zs.length ≤ 7 := by
  refine Classical.byContradiction fun c => ?_
  have := rising_len h 7 (by omega)
  omega
theorem player_fine {l : RPlayer} (h : playerFine l = true) : l.f0.length ≤ 7 ∧ (0 ≤ l.f1 ∧ l.f1 ≤ 2) := by
  unfold playerFine at h
  rw [Bool.and_eq_true] at h
  exact ⟨rising_seven h.1, by simpa [inB] using h.2⟩
/-- The sum of the free hands of the first k. -/
def handsTo (ls : List RPlayer) : Nat → Int
  | 0 => 0
  | k + 1 => handsTo ls k + (ls.getD k RPlayer.zero).f1
def handsFree (ls : List RPlayer) : Int := if playersOk ls = true then handsTo ls ls.length else -1
theorem getP {ls : List RPlayer} {k : Nat} (h : k < ls.length) : ls.getD k RPlayer.zero = ls[k] := by rw [List.getD_eq_getElem?_getD, List.getElem?_eq_getElem h]; rfl
theorem hands_small {ls : List RPlayer} (h : playersOk ls = true) : ∀ k, k ≤ ls.length → 0 ≤ handsTo ls k ∧ handsTo ls k ≤ 2 * (k : Int) := by
  intro k
  induction k with
  | zero => intro _; rw [handsTo]; omega
  | succ k ih =>
    intro hk
    have a := ih (by omega)
    have b := (player_fine ((playersOk_has h).2 k (by omega))).2
    rw [handsTo, getP (by omega)]
    omega
def knowsB (l : RPlayer) (x : Int) : Bool := l.f0.any fun y => decide (y = x)
theorem knows_yes {l : RPlayer} {x : Int} {k : Nat} (h : k < l.f0.length) (e : l.f0[k] = x) : knowsB l x = true := List.any_eq_true.2 ⟨_, List.getElem_mem h, decide_eq_true e⟩
theorem knows_no {l : RPlayer} {x : Int} (h : ∀ k (hk : k < l.f0.length), l.f0[k] ≠ x) : knowsB l x = false := by
  cases c : knowsB l x with
  | false => rfl
  | true =>
    obtain ⟨y, hy, e⟩ := List.any_eq_true.1 c
    obtain ⟨k, hk, rfl⟩ := List.mem_iff_getElem.1 hy
    exact absurd (of_decide_eq_true e) (h k hk)
def whoTo (ls : List RPlayer) (x : Int) : Nat → List Int
  | 0 => []
  | k + 1 => if knowsB (ls.getD k RPlayer.zero) x = true then whoTo ls x k ++ [(k : Int)] else whoTo ls x k
def whoKnows (ls : List RPlayer) (x : Int) : List Int := if playersOk ls = true then whoTo ls x ls.length else []
theorem who_len (ls : List RPlayer) (x : Int) : ∀ k, (whoTo ls x k).length ≤ k := by
  intro k
  induction k with
  | zero => exact Nat.le_refl _
  | succ k ih => rw [whoTo]; split <;> (try simp) <;> omega
theorem whoKnows_len (ls : List RPlayer) (x : Int) : (whoKnows ls x).length ≤ 2000000 := by
  unfold whoKnows
  split
  · next h => have := (playersOk_has h).1; have := who_len ls x ls.length; omega
  · simp
/-- How many of the first i are k. -/
def cntI (zs : List Int) (k : Int) : Nat → Int
  | 0 => 0
  | i + 1 => cntI zs k i + if zs.getD i 0 = k then 1 else 0
theorem cntI_small (zs : List Int) (k : Int) : ∀ i, 0 ≤ cntI zs k i ∧ cntI zs k i ≤ (i : Int) := by
  intro i
  induction i with
  | zero => rw [cntI]; omega
  | succ i ih => rw [cntI]; split <;> omega
def loadTo (cast : List Int) : Nat → List Int
  | 0 => []
  | k + 1 => loadTo cast k ++ [cntI cast (k : Int) cast.length]
def loadOf (ls : List RPlayer) (cast : List Int) : List Int := if playersOk ls = true then loadTo cast ls.length else []
theorem load_len (cast : List Int) : ∀ k, (loadTo cast k).length = k := by
  intro k
  induction k with
  | zero => rfl
  | succ k ih => rw [loadTo, List.length_append, ih]; rfl
theorem load_at (cast : List Int) : ∀ k i, i < k → (loadTo cast k).getD i 0 = cntI cast (i : Int) cast.length := by
  intro k
  induction k with
  | zero => intro i h; omega
  | succ k ih =>
    intro i h
    have hl := load_len cast k
    rw [loadTo]
    by_cases c : i = k
    · subst c
      rw [List.getD_eq_getElem?_getD, List.getElem?_append_right (by omega), hl, Nat.sub_self]
      rfl
    · rw [List.getD_eq_getElem?_getD, List.getElem?_append_left (by omega), ← List.getD_eq_getElem?_getD]
      exact ih i (by omega)
theorem loadOf_len (ls : List RPlayer) (cast : List Int) : (loadOf ls cast).length ≤ 2000000 := by
  unfold loadOf
  split
  · next h => have := (playersOk_has h).1; rw [load_len]; omega
  · simp
/-- The k-th puppet's player knows it. -/
def castAt (ls : List RPlayer) (ps cast : List Int) (k : Nat) : Bool := inB (cast.getD k 0) 0 ((ls.length : Int) - 1) && knowsB (ls.getD (cast.getD k 0).toNat RPlayer.zero) (ps.getD k 0)
def loadFit (ls : List RPlayer) (cast : List Int) (k : Nat) : Bool := !decide ((ls.getD k RPlayer.zero).f1 < cntI cast (k : Int) cast.length)
def isCasting (ls : List RPlayer) (ps cast : List Int) : Bool :=
  playersOk ls && (rising ps 6 && (decide (cast.length = ps.length) && ((List.range cast.length).all (castAt ls ps cast) && (List.range ls.length).all (loadFit ls cast))))
theorem range_no {p : Nat → Bool} {n k : Nat} (hk : k < n) (h : p k = false) : (List.range n).all p = false := List.all_eq_false.2 ⟨k, List.mem_range.2 hk, by rw [h]; simp⟩
theorem range_yes {p : Nat → Bool} {n : Nat} (h : ∀ k, k < n → p k = true) : (List.range n).all p = true := List.all_eq_true.2 fun k hk => h k (List.mem_range.1 hk)
/-- The first that is found. -/
def firstOf (f : Nat → Option (List Int)) : Nat → Option (List Int)
  | 0 => none
  | p + 1 => match firstOf f p with
    | some x => some x
    | none => f p
def freeFor (ls : List RPlayer) (load : List Int) (x : Int) (p : Nat) : Bool := decide (load.getD p 0 < (ls.getD p RPlayer.zero).f1) && knowsB (ls.getD p RPlayer.zero) x
/-- A casting extended by the r puppets that are left. -/
def srch (ls : List RPlayer) (ps : List Int) : Nat → List Int → List Int → Option (List Int)
  | 0, cast, _ => some cast
  | r + 1, cast, load => firstOf (fun p => if freeFor ls load (ps.getD cast.length 0) p = true then srch ls ps r (cast ++ [(p : Int)]) (load.set p (load.getD p 0 + 1)) else none) ls.length
def firstCast (ls : List RPlayer) (ps : List Int) : Option (List Int) := if (playersOk ls && rising ps 6) = true then srch ls ps ps.length [] (List.replicate ls.length 0) else none
theorem first_none {f : Nat → Option (List Int)} : ∀ n, (∀ p, p < n → f p = none) → firstOf f n = none := by
  intro n
  induction n with
  | zero => intro _; rfl
  | succ n ih => intro h; rw [firstOf, ih (fun p hp => h p (by omega))]; exact h n (by omega)
theorem first_some {f : Nat → Option (List Int)} {p : Nat} {x : List Int} (h : ∀ q, q < p → f q = none) (e : f p = some x) : ∀ n, p < n → firstOf f n = some x := by
  intro n
  induction n with
  | zero => intro h; omega
  | succ n ih =>
    intro hp
    rw [firstOf]
    by_cases c : p = n
    · subst c
      rw [first_none p h]
      exact e
    · rw [ih (by omega)]
theorem first_has {f : Nat → Option (List Int)} {x : List Int} : ∀ n, firstOf f n = some x → ∃ p, p < n ∧ f p = some x := by
  intro n
  induction n with
  | zero => intro h; cases h
  | succ n ih =>
    intro h
    rw [firstOf] at h
    cases c : firstOf f n with
    | some y =>
      rw [c] at h
      obtain ⟨p, hp, e⟩ := ih (by rw [c, ← Option.some.inj h])
      exact ⟨p, by omega, e⟩
    | none =>
      rw [c] at h
      exact ⟨n, by omega, h⟩
theorem srch_len {ls : List RPlayer} {ps : List Int} : ∀ r cast load x, srch ls ps r cast load = some x → x.length = cast.length + r := by
  intro r
  induction r with
  | zero => intro cast load x h; rw [srch] at h; rw [← Option.some.inj h]; rfl
  | succ r ih =>
    intro cast load x h
    rw [srch] at h
    obtain ⟨p, _, e⟩ := first_has _ h
    split at e
    · have := ih _ _ _ e
      rw [List.length_append] at this
      simp at this
      omega
    · cases e
/-- What FirstCasting answers. -/
def castR (o : Option (List Int)) : List Int × Bool := match o with
  | some x => (x, true)
  | none => ([], false)
theorem firstCast_len (ls : List RPlayer) (ps : List Int) : (castR (firstCast ls ps)).1.length ≤ 7 := by
  unfold firstCast
  split
  · next h =>
    rw [Bool.and_eq_true] at h
    have h7 := rising_seven h.2
    cases c : srch ls ps ps.length [] (List.replicate ls.length 0) with
    | none => simp [castR]
    | some x => have := srch_len _ _ _ _ c; simp [castR] at *; omega
  · simp [castR]
end Go.Proofs.Ytanlfkkmnnjpeaa
