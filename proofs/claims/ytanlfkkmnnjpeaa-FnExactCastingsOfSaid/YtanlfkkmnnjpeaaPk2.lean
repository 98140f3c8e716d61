/- Texts of this seat laid together, each with its own first sentence below: In RisM HanM PrfM HaxM CgsM ChgM RisS. -/
import Derived.Test.YtanlfkkmnnjpeaaPk1
import Derived.BigQuiet
/- The contract of spec.l01In. No condition. -/
namespace Go.Proofs.Ytanlfkkmnnjpeaa
set_option linter.unusedVariables false
open Go.RowKit

theorem wf_i64 {n : Int} (h : (Lit.int .i64 n).wf = true) : -9223372036854775808 ≤ n ∧ n ≤ 9223372036854775807 := by
  have e1 : IntKind.i64.min = -9223372036854775808 := by decide
  have e2 : IntKind.i64.max = 9223372036854775807 := by decide
  simp only [Lit.wf, Bool.and_eq_true, decide_eq_true_eq, e1, e2] at h
  exact h
theorem l01In_yes {v lo hi : Int} (h : lo ≤ v ∧ v ≤ hi) (w : World) :
    Calls Try.prog 48 #[.int .i64 v, .int .i64 lo, .int .i64 hi] w fun e w' => e = .returned (.bool true) ∧ w' = w := by
  obtain ⟨h1, h2⟩ := h
  go_enter Try.func48, Try.ntmps48
  go_wp2
  go_ret
  exact ⟨rfl, rfl⟩
theorem l01In_no {v lo hi : Int} (h : ¬ (lo ≤ v ∧ v ≤ hi)) (w : World) :
    Calls Try.prog 48 #[.int .i64 v, .int .i64 lo, .int .i64 hi] w fun e w' => e = .returned (.bool false) ∧ w' = w := by
  by_cases h1 : lo ≤ v
  · have h2 : ¬ v ≤ hi := fun x => h ⟨h1, x⟩
    go_enter Try.func48, Try.ntmps48
    go_wp2
    go_ret
    exact ⟨rfl, rfl⟩
  · go_enter Try.func48, Try.ntmps48
    go_wp2
    go_ret
    exact ⟨rfl, rfl⟩

/-- Is v from lo to hi? -/
def inB (v lo hi : Int) : Bool := decide (lo ≤ v ∧ v ≤ hi)
theorem inB_yes {v lo hi : Int} (h : lo ≤ v ∧ v ≤ hi) : inB v lo hi = true := by simp [inB, h]
theorem inB_no {v lo hi : Int} (h : ¬ (lo ≤ v ∧ v ≤ hi)) : inB v lo hi = false := by unfold inB; exact decide_eq_false h
theorem l01In_any (v lo hi : Int) (w : World) :
    Calls Try.prog 48 #[.int .i64 v, .int .i64 lo, .int .i64 hi] w fun e w' => e = .returned (.bool (inB v lo hi)) ∧ w' = w := by
  by_cases h : lo ≤ v ∧ v ≤ hi
  · rw [inB_yes h]
    exact l01In_yes h w
  · rw [inB_no h]
    exact l01In_no h w
end Go.Proofs.Ytanlfkkmnnjpeaa

/- Rising rows of numbers as mathematics. No condition. -/
namespace Go.Proofs.Ytanlfkkmnnjpeaa
set_option linter.unusedVariables false
set_option linter.unusedSimpArgs false
open Go.RowKit

/-- One number more of a rising row. -/
def riseAt (zs : List Int) (most : Int) (k : Nat) : Bool := inB (zs.getD k 0) 0 most && (decide (k = 0) || decide (zs.getD (k - 1) 0 < zs.getD k 0))
def risingTo (zs : List Int) (most : Int) : Nat → Bool
  | 0 => true
  | k + 1 => risingTo zs most k && riseAt zs most k
def rising (zs : List Int) (most : Int) : Bool := risingTo zs most zs.length
theorem rise_iff (zs : List Int) (most : Int) : ∀ n, risingTo zs most n = true ↔ ∀ k, k < n → riseAt zs most k = true := by
  intro n
  induction n with
  | zero => simp [risingTo]
  | succ n ih =>
    rw [risingTo, Bool.and_eq_true, ih]
    exact ⟨fun ⟨h1, h2⟩ k hk => by rcases (by omega : k < n ∨ k = n) with h | rfl; exact h1 k h; exact h2, fun h => ⟨fun k hk => h k (by omega), h n (by omega)⟩⟩
theorem rise_bad {zs : List Int} {most : Int} {k : Nat} (hk : k < zs.length) (h : riseAt zs most k = false) : rising zs most = false := by
  cases c : rising zs most with
  | false => rfl
  | true => rw [(rise_iff zs most _).1 c k hk] at h; cases h
end Go.Proofs.Ytanlfkkmnnjpeaa

/- Players as mathematics: PlayersOk, HandsFree, WhoKnows, LoadOf, IsCasting, FirstCasting. No condition. -/
namespace Go.Proofs.Ytanlfkkmnnjpeaa
set_option linter.unusedVariables false
set_option linter.unusedSimpArgs false
open Go.RowKit

def playerFine (l : RPlayer) : Bool := rising l.f0 6 && inB l.f1 0 2
def playersOk (ls : List RPlayer) : Bool := ls.all playerFine && inB (ls.length : Int) 1 6
theorem playersOk_bad {ls : List RPlayer} {k : Nat} (hk : k < ls.length) (h : playerFine ls[k] = false) : playersOk ls = false := by
  unfold playersOk
  rw [List.all_eq_false.2 ⟨ls[k], List.getElem_mem hk, by rw [h]; simp⟩]
  rfl
theorem playersOk_all {ls : List RPlayer} (ha : ∀ k (hk : k < ls.length), playerFine ls[k] = true) : playersOk ls = inB (ls.length : Int) 1 6 := by
  unfold playersOk
  rw [List.all_eq_true.2 fun l hl => by obtain ⟨k, hk, rfl⟩ := List.mem_iff_getElem.1 hl; exact ha k hk]
  rfl
theorem playersOk_has {ls : List RPlayer} (h : playersOk ls = true) : (1 ≤ ls.length ∧ ls.length ≤ 6) ∧ ∀ k (hk : k < ls.length), playerFine ls[k] = true := by
  unfold playersOk at h
  simp only [Bool.and_eq_true, List.all_eq_true] at h
  obtain ⟨h1, h2⟩ := h
  have h2' : 1 ≤ (ls.length : Int) ∧ (ls.length : Int) ≤ 6 := by simpa [inB] using h2
  exact ⟨by omega, fun k hk => h1 _ (List.getElem_mem hk)⟩
theorem rising_len {zs : List Int} {most : Int} (h : rising zs most = true) : ∀ j, j < zs.length → (j : Int) ≤ zs.getD j 0 ∧ zs.getD j 0 ≤ most := by
  have hr := (rise_iff _ _ _).1 h
  intro j
  induction j with
  | zero =>
    intro hj
    have h2 := hr 0 hj
    unfold riseAt at h2
    simp only [Bool.and_eq_true] at h2
    have h3 := h2.1
    generalize zs.getD 0 0 = x at h3 ⊢
    have h3 : 0 ≤ x ∧ x ≤ most := by simpa [inB] using h3
    omega
  | succ j ih =>
    intro hj
    have h0 := ih (by omega)
    have h2 := hr (j + 1) hj
    unfold riseAt at h2
    simp only [Bool.and_eq_true, Bool.or_eq_true, decide_eq_true_eq] at h2
    have h3 := h2.1
    have h4 := h2.2
    rw [show j + 1 - 1 = j by omega] at h4
    generalize zs.getD (j + 1) 0 = x at h3 h4 ⊢
    generalize zs.getD j 0 = y at h0 h4
    have h3 : 0 ≤ x ∧ x ≤ most := by simpa [inB] using h3
    omega
theorem rising_seven {zs : List Int} (h : rising zs 6 = true) : zs.length ≤ 7 := by
  refine Classical.byContradiction fun c => ?_
  have := rising_len h 7 (by omega)
  omega
theorem player_fine {l : RPlayer} (h : playerFine l = true) : l.f0.length ≤ 7 ∧ (0 ≤ l.f1 ∧ l.f1 ≤ 2) := by
  unfold playerFine at h
  rw [Bool.and_eq_true] at h
  exact ⟨rising_seven h.1, by simpa [inB] using h.2⟩
/-- The sum of the free hands of the first k. -/
def handsTo (ls : List RPlayer) : Nat → Int
  | 0 => 0
  | k + 1 => handsTo ls k + (ls.getD k RPlayer.zero).f1
def handsFree (ls : List RPlayer) : Int := if playersOk ls = true then handsTo ls ls.length else -1
theorem getP {ls : List RPlayer} {k : Nat} (h : k < ls.length) : ls.getD k RPlayer.zero = ls[k] := by rw [List.getD_eq_getElem?_getD, List.getElem?_eq_getElem h]; rfl
theorem hands_small {ls : List RPlayer} (h : playersOk ls = true) : ∀ k, k ≤ ls.length → 0 ≤ handsTo ls k ∧ handsTo ls k ≤ 2 * (k : Int) := by
  intro k
  induction k with
  | zero => intro _; rw [handsTo]; omega
  | succ k ih =>
    intro hk
    have a := ih (by omega)
    have b := (player_fine ((playersOk_has h).2 k (by omega))).2
    rw [handsTo, getP (by omega)]
    omega
def knowsB (l : RPlayer) (x : Int) : Bool := l.f0.any fun y => decide (y = x)
theorem knows_yes {l : RPlayer} {x : Int} {k : Nat} (h : k < l.f0.length) (e : l.f0[k] = x) : knowsB l x = true := List.any_eq_true.2 ⟨_, List.getElem_mem h, decide_eq_true e⟩
theorem knows_no {l : RPlayer} {x : Int} (h : ∀ k (hk : k < l.f0.length), l.f0[k] ≠ x) : knowsB l x = false := by
  cases c : knowsB l x with
  | false => rfl
  | true =>
    obtain ⟨y, hy, e⟩ := List.any_eq_true.1 c
    obtain ⟨k, hk, rfl⟩ := List.mem_iff_getElem.1 hy
    exact absurd (of_decide_eq_true e) (h k hk)
def whoTo (ls : List RPlayer) (x : Int) : Nat → List Int
  | 0 => []
  | k + 1 => if knowsB (ls.getD k RPlayer.zero) x = true then whoTo ls x k ++ [(k : Int)] else whoTo ls x k
def whoKnows (ls : List RPlayer) (x : Int) : List Int := if playersOk ls = true then whoTo ls x ls.length else []
theorem who_len (ls : List RPlayer) (x : Int) : ∀ k, (whoTo ls x k).length ≤ k := by
  intro k
  induction k with
  | zero => exact Nat.le_refl _
  | succ k ih => rw [whoTo]; split <;> (try simp) <;> omega
theorem whoKnows_len (ls : List RPlayer) (x : Int) : (whoKnows ls x).length ≤ 2000000 := by
  unfold whoKnows
  split
  · next h => have := (playersOk_has h).1; have := who_len ls x ls.length; omega
  · simp
/-- How many of the first i are k. -/
def cntI (zs : List Int) (k : Int) : Nat → Int
  | 0 => 0
  | i + 1 => cntI zs k i + if zs.getD i 0 = k then 1 else 0
theorem cntI_small (zs : List Int) (k : Int) : ∀ i, 0 ≤ cntI zs k i ∧ cntI zs k i ≤ (i : Int) := by
  intro i
  induction i with
  | zero => rw [cntI]; omega
  | succ i ih => rw [cntI]; split <;> omega
def loadTo (cast : List Int) : Nat → List Int
  | 0 => []
  | k + 1 => loadTo cast k ++ [cntI cast (k : Int) cast.length]
def loadOf (ls : List RPlayer) (cast : List Int) : List Int := if playersOk ls = true then loadTo cast ls.length else []
theorem load_len (cast : List Int) : ∀ k, (loadTo cast k).length = k := by
  intro k
  induction k with
  | zero => rfl
  | succ k ih => rw [loadTo, List.length_append, ih]; rfl
theorem load_at (cast : List Int) : ∀ k i, i < k → (loadTo cast k).getD i 0 = cntI cast (i : Int) cast.length := by
  intro k
  induction k with
  | zero => intro i h; omega
  | succ k ih =>
    intro i h
    have hl := load_len cast k
    rw [loadTo]
    by_cases c : i = k
    · subst c
      rw [List.getD_eq_getElem?_getD, List.getElem?_append_right (by omega), hl, Nat.sub_self]
      rfl
    · rw [List.getD_eq_getElem?_getD, List.getElem?_append_left (by omega), ← List.getD_eq_getElem?_getD]
      exact ih i (by omega)
theorem loadOf_len (ls : List RPlayer) (cast : List Int) : (loadOf ls cast).length ≤ 2000000 := by
  unfold loadOf
  split
  · next h => have := (playersOk_has h).1; rw [load_len]; omega
  · simp
/-- The k-th puppet's player knows it. -/
def castAt (ls : List RPlayer) (ps cast : List Int) (k : Nat) : Bool := inB (cast.getD k 0) 0 ((ls.length : Int) - 1) && knowsB (ls.getD (cast.getD k 0).toNat RPlayer.zero) (ps.getD k 0)
def loadFit (ls : List RPlayer) (cast : List Int) (k : Nat) : Bool := !decide ((ls.getD k RPlayer.zero).f1 < cntI cast (k : Int) cast.length)
def isCasting (ls : List RPlayer) (ps cast : List Int) : Bool :=
  playersOk ls && (rising ps 6 && (decide (cast.length = ps.length) && ((List.range cast.length).all (castAt ls ps cast) && (List.range ls.length).all (loadFit ls cast))))
theorem range_no {p : Nat → Bool} {n k : Nat} (hk : k < n) (h : p k = false) : (List.range n).all p = false := List.all_eq_false.2 ⟨k, List.mem_range.2 hk, by rw [h]; simp⟩
theorem range_yes {p : Nat → Bool} {n : Nat} (h : ∀ k, k < n → p k = true) : (List.range n).all p = true := List.all_eq_true.2 fun k hk => h k (List.mem_range.1 hk)
/-- The first that is found. -/
def firstOf (f : Nat → Option (List Int)) : Nat → Option (List Int)
  | 0 => none
  | p + 1 => match firstOf f p with
    | some x => some x
    | none => f p
def freeFor (ls : List RPlayer) (load : List Int) (x : Int) (p : Nat) : Bool := decide (load.getD p 0 < (ls.getD p RPlayer.zero).f1) && knowsB (ls.getD p RPlayer.zero) x
/-- A casting extended by the r puppets that are left. -/
def srch (ls : List RPlayer) (ps : List Int) : Nat → List Int → List Int → Option (List Int)
  | 0, cast, _ => some cast
  | r + 1, cast, load => firstOf (fun p => if freeFor ls load (ps.getD cast.length 0) p = true then srch ls ps r (cast ++ [(p : Int)]) (load.set p (load.getD p 0 + 1)) else none) ls.length
def firstCast (ls : List RPlayer) (ps : List Int) : Option (List Int) := if (playersOk ls && rising ps 6) = true then srch ls ps ps.length [] (List.replicate ls.length 0) else none
theorem first_none {f : Nat → Option (List Int)} : ∀ n, (∀ p, p < n → f p = none) → firstOf f n = none := by
  intro n
  induction n with
  | zero => intro _; rfl
  | succ n ih => intro h; rw [firstOf, ih (fun p hp => h p (by omega))]; exact h n (by omega)
theorem first_some {f : Nat → Option (List Int)} {p : Nat} {x : List Int} (h : ∀ q, q < p → f q = none) (e : f p = some x) : ∀ n, p < n → firstOf f n = some x := by
  intro n
  induction n with
  | zero => intro h; omega
  | succ n ih =>
    intro hp
    rw [firstOf]
    by_cases c : p = n
    · subst c
      rw [first_none p h]
      exact e
    · rw [ih (by omega)]
theorem first_has {f : Nat → Option (List Int)} {x : List Int} : ∀ n, firstOf f n = some x → ∃ p, p < n ∧ f p = some x := by
  intro n
  induction n with
  | zero => intro h; cases h
  | succ n ih =>
    intro h
    rw [firstOf] at h
    cases c : firstOf f n with
    | some y =>
      rw [c] at h
      obtain ⟨p, hp, e⟩ := ih (by rw [c, ← Option.some.inj h])
      exact ⟨p, by omega, e⟩
    | none =>
      rw [c] at h
      exact ⟨n, by omega, h⟩
theorem srch_len {ls : List RPlayer} {ps : List Int} : ∀ r cast load x, srch ls ps r cast load = some x → x.length = cast.length + r := by
  intro r
  induction r with
  | zero => intro cast load x h; rw [srch] at h; rw [← Option.some.inj h]; rfl
  | succ r ih =>
    intro cast load x h
    rw [srch] at h
    obtain ⟨p, _, e⟩ := first_has _ h
    split at e
    · have := ih _ _ _ e
      rw [List.length_append] at this
      simp at this
      omega
    · cases e
/-- What FirstCasting answers. -/
def castR (o : Option (List Int)) : List Int × Bool := match o with
  | some x => (x, true)
  | none => ([], false)
theorem firstCast_len (ls : List RPlayer) (ps : List Int) : (castR (firstCast ls ps)).1.length ≤ 7 := by
  unfold firstCast
  split
  · next h =>
    rw [Bool.and_eq_true] at h
    have h7 := rising_seven h.2
    cases c : srch ls ps ps.length [] (List.replicate ls.length 0) with
    | none => simp [castR]
    | some x => have := srch_len _ _ _ _ c; simp [castR] at *; omega
  · simp [castR]
end Go.Proofs.Ytanlfkkmnnjpeaa

/- Hands for puppets, short sets, the most that can be cast, what lacks: as mathematics. No condition. -/
namespace Go.Proofs.Ytanlfkkmnnjpeaa
set_option linter.unusedVariables false
set_option linter.unusedSimpArgs false
open Go.RowKit

def proofOk (ls : List RPlayer) (ps : List Int) : Bool := playersOk ls && rising ps 6
/-- One of the first i puppets is known. -/
def someTo (l : RPlayer) (ps : List Int) : Nat → Bool
  | 0 => false
  | i + 1 => someTo l ps i || knowsB l (ps.getD i 0)
def hforTo (ls : List RPlayer) (ps : List Int) : Nat → Int
  | 0 => 0
  | k + 1 => if someTo (ls.getD k RPlayer.zero) ps ps.length = true then hforTo ls ps k + (ls.getD k RPlayer.zero).f1 else hforTo ls ps k
def handsFor (ls : List RPlayer) (ps : List Int) : Int := if proofOk ls ps = true then hforTo ls ps ls.length else -1
theorem hfor_small {ls : List RPlayer} (h : playersOk ls = true) (ps : List Int) : ∀ k, k ≤ ls.length → 0 ≤ hforTo ls ps k ∧ hforTo ls ps k ≤ handsTo ls k := by
  intro k
  induction k with
  | zero => intro _; exact ⟨Int.le_refl _, Int.le_refl _⟩
  | succ k ih =>
    intro hk
    have a := ih (by omega)
    have b := (player_fine ((playersOk_has h).2 k (by omega))).2
    rw [← getP (by omega)] at b
    rw [hforTo, handsTo]
    split <;> omega
theorem handsFor_small (ls : List RPlayer) (ps : List Int) : -1 ≤ handsFor ls ps ∧ handsFor ls ps ≤ 12 := by
  unfold handsFor
  split
  · next h =>
    have hk : playersOk ls = true := by
      unfold proofOk at h
      rw [Bool.and_eq_true] at h
      exact h.1
    have a := hfor_small hk ps ls.length (Nat.le_refl _)
    have b := hands_small hk ls.length (Nat.le_refl _)
    have c := (playersOk_has hk).1
    omega
  · omega
def isShort (ls : List RPlayer) (ps : List Int) : Bool := decide (0 ≤ handsFor ls ps) && decide (handsFor ls ps < (ps.length : Int))
/-- The puppets of a set among the first k. -/
def partTo (ps : List Int) (s : Nat) : Nat → List Int
  | 0 => []
  | k + 1 => if s.testBit k = true then partTo ps s k ++ [ps.getD k 0] else partTo ps s k
def partOf (ps : List Int) (s : Nat) : List Int := partTo ps s ps.length
theorem part_len (ps : List Int) (s : Nat) : ∀ k, (partTo ps s k).length ≤ k := by
  intro k
  induction k with
  | zero => exact Nat.le_refl _
  | succ k ih =>
    rw [partTo]
    split
    · rw [List.length_append, List.length_singleton]
      omega
    · omega
theorem partOf_len (ps : List Int) (s : Nat) : (partOf ps s).length ≤ ps.length := part_len ps s _
def shortAt (ls : List RPlayer) (ps : List Int) (s : Nat) : Option (List Int) := if isShort ls (partOf ps s) = true then some (partOf ps s) else none
def shortSet (ls : List RPlayer) (ps : List Int) : Option (List Int) := if proofOk ls ps = true then firstOf (shortAt ls ps) (1 <<< ps.length) else none
def mostTo (ls : List RPlayer) (ps : List Int) : Nat → Nat
  | 0 => 0
  | s + 1 => if (partOf ps s).length ≤ mostTo ls ps s then mostTo ls ps s else if (castR (firstCast ls (partOf ps s))).2 = true then (partOf ps s).length else mostTo ls ps s
theorem most_le (ls : List RPlayer) (ps : List Int) : ∀ s, mostTo ls ps s ≤ ps.length := by
  intro s
  induction s with
  | zero => exact Nat.zero_le _
  | succ s ih =>
    have := partOf_len ps s
    rw [mostTo]
    split
    · exact ih
    · split
      · exact this
      · exact ih
def mostCast (ls : List RPlayer) (ps : List Int) : Int := if proofOk ls ps = true then (mostTo ls ps (1 <<< ps.length) : Int) else -1
def lackTo (ls : List RPlayer) (ps : List Int) : Nat → Int
  | 0 => 0
  | s + 1 => if lackTo ls ps s < ((partOf ps s).length : Int) - handsFor ls (partOf ps s) then ((partOf ps s).length : Int) - handsFor ls (partOf ps s) else lackTo ls ps s
theorem lack_small (ls : List RPlayer) (ps : List Int) : ∀ s, 0 ≤ lackTo ls ps s ∧ lackTo ls ps s ≤ (ps.length : Int) + 1 := by
  intro s
  induction s with
  | zero => rw [lackTo]; omega
  | succ s ih =>
    have a := partOf_len ps s
    have b := handsFor_small ls (partOf ps s)
    rw [lackTo]
    split <;> omega
def lackOf (ls : List RPlayer) (ps : List Int) : Int := if proofOk ls ps = true then lackTo ls ps (1 <<< ps.length) else -1
theorem proof_len {ls : List RPlayer} {ps : List Int} (h : proofOk ls ps = true) : ps.length ≤ 7 := by
  unfold proofOk at h
  rw [Bool.and_eq_true] at h
  exact rising_seven h.2
theorem pow_small {n : Nat} (h : n ≤ 7) : 1 ≤ 1 <<< n ∧ 1 <<< n ≤ 128 := by
  rw [Nat.shiftLeft_eq, Nat.one_mul]
  exact ⟨Nat.one_le_two_pow, Nat.pow_le_pow_right (by omega) (show n ≤ 7 from h)⟩
theorem shortSet_len (ls : List RPlayer) (ps : List Int) : (castR (shortSet ls ps)).1.length ≤ 7 := by
  unfold shortSet
  split
  · next h =>
    have h7 := proof_len h
    cases c : firstOf (shortAt ls ps) (1 <<< ps.length) with
    | none => show ([] : List Int).length ≤ 7; simp
    | some x =>
      obtain ⟨s, _, e⟩ := first_has _ c
      unfold shortAt at e
      split at e
      · rw [← Option.some.inj e]
        have := partOf_len ps s
        show (partOf ps s).length ≤ 7
        omega
      · cases e
  · show ([] : List Int).length ≤ 7; simp
end Go.Proofs.Ytanlfkkmnnjpeaa

/- What FnHands asks: a casting that is found is one; it has no more puppets than there are hands. No condition. -/
namespace Go.Proofs.Ytanlfkkmnnjpeaa
set_option linter.unusedVariables false
set_option linter.unusedSimpArgs false
open Go.RowKit

def fr (ls : List RPlayer) (p : Nat) : Int := (ls.getD p RPlayer.zero).f1
theorem cnt_snoc (zs : List Int) (x k : Int) : ∀ i, i ≤ zs.length → cntI (zs ++ [x]) k i = cntI zs k i := by
  intro i
  induction i with
  | zero => intro _; rfl
  | succ i ih =>
    intro h
    rw [cntI, cntI, ih (by omega), List.getD_eq_getElem?_getD, List.getElem?_append_left (by omega), ← List.getD_eq_getElem?_getD]
theorem cnt_more (zs : List Int) (x k : Int) : cntI (zs ++ [x]) k (zs ++ [x]).length = cntI zs k zs.length + if x = k then 1 else 0 := by
  rw [List.length_append]
  show cntI (zs ++ [x]) k (zs.length + 1) = _
  rw [cntI, cnt_snoc zs x k _ (Nat.le_refl _), List.getD_eq_getElem?_getD, List.getElem?_append_right (Nat.le_refl _), Nat.sub_self]
  rfl
/-- A casting that has come so far. -/
structure Far (ls : List RPlayer) (ps cast load : List Int) : Prop where
  len : load.length = ls.length
  fit : cast.length ≤ ps.length
  at_ : ∀ p, p < ls.length → load.getD p 0 = cntI cast (p : Int) cast.length ∧ load.getD p 0 ≤ fr ls p
  cast : ∀ k, k < cast.length → castAt ls ps cast k = true
theorem far_start {ls : List RPlayer} (h : playersOk ls = true) (ps : List Int) : Far ls ps [] (List.replicate ls.length 0) :=
  ⟨by simp, by simp, fun p hp => by
    have := (player_fine ((playersOk_has h).2 p hp)).2
    rw [List.getD_eq_getElem?_getD, List.getElem?_replicate, if_pos hp, Option.getD_some]
    unfold fr
    rw [getP hp]
    exact ⟨rfl, by omega⟩, fun k hk => absurd hk (by simp)⟩
theorem far_next {ls : List RPlayer} {ps cast load : List Int} (h : Far ls ps cast load) {p : Nat} (hp : p < ls.length) (hc : cast.length < ps.length) (hf : freeFor ls load (ps.getD cast.length 0) p = true) : Far ls ps (cast ++ [(p : Int)]) (load.set p (load.getD p 0 + 1)) := by
  unfold freeFor at hf
  rw [Bool.and_eq_true, decide_eq_true_eq] at hf
  refine ⟨by rw [List.length_set]; exact h.len, by rw [List.length_append]; simp; omega, fun q hq => ?_, fun k hk => ?_⟩
  · have a := h.at_ q hq
    rw [cnt_more]
    by_cases e : p = q
    · subst e
      rw [List.getD_eq_getElem?_getD, List.getElem?_set_self (by rw [h.len]; exact hp), Option.getD_some, if_pos rfl]
      have := hf.1
      unfold fr
      omega
    · rw [List.getD_eq_getElem?_getD, List.getElem?_set_ne e, ← List.getD_eq_getElem?_getD, if_neg (by omega)]
      omega
  · rw [List.length_append] at hk
    have hk : k < cast.length + 1 := by simpa using hk
    unfold castAt
    by_cases e : k = cast.length
    · subst e
      rw [List.getD_eq_getElem?_getD, List.getElem?_append_right (Nat.le_refl _), Nat.sub_self]
      show (inB (p : Int) 0 _ && knowsB (ls.getD (p : Int).toNat RPlayer.zero) _) = true
      rw [Int.toNat_natCast, hf.2, Bool.and_true]
      simp [inB]
      omega
    · have := h.cast k (by omega)
      unfold castAt at this
      rw [List.getD_eq_getElem?_getD (l := cast ++ _), List.getElem?_append_left (by omega), ← List.getD_eq_getElem?_getD]
      exact this
theorem srch_far {ls : List RPlayer} {ps : List Int} : ∀ r cast load x, Far ls ps cast load → cast.length + r = ps.length → srch ls ps r cast load = some x → ∃ lo, Far ls ps x lo ∧ x.length = ps.length := by
  intro r
  induction r with
  | zero =>
    intro cast load x h hl e
    rw [srch] at e
    obtain rfl := Option.some.inj e
    exact ⟨load, h, by omega⟩
  | succ r ih =>
    intro cast load x h hl e
    rw [srch] at e
    obtain ⟨p, hp, e⟩ := first_has _ e
    split at e
    · next hf => exact ih _ _ _ (far_next h hp (by omega) hf) (by rw [List.length_append]; simp; omega) e
    · cases e
/-- The sum of the first k counts. -/
def sumC (zs : List Int) : Nat → Int
  | 0 => 0
  | k + 1 => sumC zs k + cntI zs (k : Int) zs.length
def cntB' (zs : List Int) (n : Nat) : Nat → Int
  | 0 => 0
  | i + 1 => cntB' zs n i + if 0 ≤ zs.getD i 0 ∧ zs.getD i 0 < (n : Int) then 1 else 0
theorem cntB_more (zs : List Int) (n : Nat) : ∀ i, cntB' zs (n + 1) i = cntB' zs n i + cntI zs (n : Int) i := by
  intro i
  induction i with
  | zero => rfl
  | succ i ih =>
    rw [cntB', cntB', cntI, ih]
    by_cases a : 0 ≤ zs.getD i 0 ∧ zs.getD i 0 < (n : Int)
    · rw [if_pos a, if_pos (by omega), if_neg (by omega)]; omega
    · rw [if_neg a]
      by_cases b : zs.getD i 0 = (n : Int)
      · rw [if_pos b, if_pos (by omega)]; omega
      · rw [if_neg b, if_neg (by omega)]; omega
theorem sumC_cnt (zs : List Int) : ∀ n, sumC zs n = cntB' zs n zs.length := by
  intro n
  induction n with
  | zero =>
    have : ∀ i, cntB' zs 0 i = 0 := fun i => by
      induction i with
      | zero => rfl
      | succ i ih => rw [cntB', ih, if_neg (by omega)]; rfl
    rw [sumC, this]
  | succ n ih => rw [sumC, cntB_more, ih]
theorem cntB_all (zs : List Int) (n : Nat) : ∀ i, (∀ k, k < i → 0 ≤ zs.getD k 0 ∧ zs.getD k 0 < (n : Int)) → cntB' zs n i = (i : Int) := by
  intro i
  induction i with
  | zero => intro _; rfl
  | succ i ih => intro h; rw [cntB', ih (fun k hk => h k (by omega)), if_pos (h i (by omega))]; omega
/-- All that FnHands asks. -/
structure HandFacts (ls : List RPlayer) (ps : List Int) : Prop where
  free : handsFree ls = handsTo ls ls.length ∧ 0 ≤ handsFree ls
  found : ∀ x, firstCast ls ps = some x → isCasting ls ps x = true ∧ x.length = ps.length ∧ (ps.length : Int) ≤ handsFree ls ∧ sumC x ls.length = (ps.length : Int) ∧ loadOf ls x = loadTo x ls.length ∧
    (∀ k, k < ls.length → 0 ≤ cntI x (k : Int) x.length ∧ cntI x (k : Int) x.length ≤ fr ls k) ∧ ∀ k, k < ps.length → x.getD k 0 ∈ whoKnows ls (ps.getD k 0)
  empty : isCasting ls [] [] = true
theorem who_mem (ls : List RPlayer) (z : Int) : ∀ k q, q < k → knowsB (ls.getD q RPlayer.zero) z = true → (q : Int) ∈ whoTo ls z k := by
  intro k
  induction k with
  | zero => intro q h; omega
  | succ k ih =>
    intro q h e
    rw [whoTo]
    by_cases c : q = k
    · subst c
      rw [if_pos e]
      simp
    · have := ih q (by omega) e
      split
      · exact List.mem_append_left _ this
      · exact this
theorem handFacts {ls : List RPlayer} {ps : List Int} (hok : playersOk ls = true) (hr : rising ps 6 = true) : HandFacts ls ps := by
  have hn := (playersOk_has hok).1
  have ef : handsFree ls = handsTo ls ls.length := by unfold handsFree; rw [if_pos hok]
  have hs := hands_small hok ls.length (Nat.le_refl _)
  refine ⟨⟨ef, by omega⟩, fun x hx => ?_, ?_⟩
  · unfold firstCast at hx
    rw [hok, hr, if_pos (by rfl)] at hx
    obtain ⟨lo, F, hl⟩ := srch_far _ _ _ _ (far_start hok ps) (by simp) hx
    have fit : ∀ k, k < ls.length → 0 ≤ cntI x (k : Int) x.length ∧ cntI x (k : Int) x.length ≤ fr ls k := fun k hk => by
      have a := F.at_ k hk
      have b := cntI_small x (k : Int) x.length
      omega
    have at_ : ∀ k, k < x.length → (0 ≤ x.getD k 0 ∧ x.getD k 0 < (ls.length : Int)) ∧ knowsB (ls.getD (x.getD k 0).toNat RPlayer.zero) (ps.getD k 0) = true := fun k hk => by
      have := F.cast k hk
      unfold castAt at this
      rw [Bool.and_eq_true] at this
      obtain ⟨a, b⟩ := this
      generalize x.getD k 0 = y at a b ⊢
      have a : 0 ≤ y ∧ y ≤ (ls.length : Int) - 1 := by simpa [inB] using a
      exact ⟨by omega, b⟩
    have sc : sumC x ls.length = (ps.length : Int) := by rw [sumC_cnt, cntB_all x ls.length _ (fun k hk => (at_ k hk).1), hl]
    have le : ∀ k, k ≤ ls.length → sumC x k ≤ handsTo ls k := by
      intro k
      induction k with
      | zero => intro _; exact Int.le_refl _
      | succ k ih =>
        intro hk
        have a := ih (by omega)
        have b := (fit k (by omega)).2
        rw [sumC, handsTo]
        unfold fr at b
        omega
    refine ⟨?_, hl, ?_, sc, by unfold loadOf; rw [if_pos hok], fit, fun k hk => ?_⟩
    · unfold isCasting
      rw [hok, hr, decide_eq_true hl, range_yes F.cast, range_yes fun k hk => ?_]
      · rfl
      · have := (fit k hk).2
        unfold fr at this
        unfold loadFit
        rw [decide_eq_false (by omega)]
        rfl
    · have := le ls.length (Nat.le_refl _)
      rw [ef, ← sc]
      exact this
    · obtain ⟨⟨a, b⟩, e⟩ := at_ k (by omega)
      unfold whoKnows
      rw [if_pos hok]
      have := who_mem ls (ps.getD k 0) ls.length (x.getD k 0).toNat (by omega) e
      rwa [Int.toNat_of_nonneg a] at this
  · unfold isCasting
    rw [hok]
    have e1 : rising ([] : List Int) 6 = true := rfl
    rw [e1, range_yes (n := ([] : List Int).length) (fun k hk => absurd hk (by simp)), range_yes fun k hk => ?_]
    · rfl
    · have := (player_fine ((playersOk_has hok).2 k hk)).2
      unfold loadFit
      rw [getP hk]
      show (!decide (ls[k].f1 < 0)) = true
      rw [decide_eq_false (by omega)]
      rfl
end Go.Proofs.Ytanlfkkmnnjpeaa

/- All castings in their order: the first of them is the one that the search finds. No condition. -/
namespace Go.Proofs.Ytanlfkkmnnjpeaa
set_option linter.unusedVariables false
set_option linter.unusedSimpArgs false
open Go.RowKit

/-- The n digits of x, the highest first. -/
def dig (b : Nat) : Nat → Nat → List Int
  | 0, _ => []
  | n + 1, x => dig b n (x / b) ++ [((x % b : Nat) : Int)]
theorem dig_len (b : Nat) : ∀ n x, (dig b n x).length = n := by
  intro n
  induction n with
  | zero => intro _; rfl
  | succ n ih => intro x; rw [dig, List.length_append, ih, List.length_singleton]
theorem dig_cons {b : Nat} (hb : 0 < b) : ∀ r p y, p < b → y < b ^ r → dig b (r + 1) (p * b ^ r + y) = (p : Int) :: dig b r y := by
  intro r
  induction r with
  | zero =>
    intro p y hp hy
    obtain rfl : y = 0 := by simpa using hy
    rw [dig, dig, dig, Nat.pow_zero, Nat.mul_one, Nat.add_zero, Nat.mod_eq_of_lt hp]
    rfl
  | succ r ih =>
    intro p y hp hy
    have e1 : (p * b ^ (r + 1) + y) / b = p * b ^ r + y / b := by
      rw [Nat.pow_succ, ← Nat.mul_assoc, Nat.mul_comm (p * b ^ r) b, Nat.mul_add_div hb]
    have e2 : (p * b ^ (r + 1) + y) % b = y % b := by
      rw [Nat.pow_succ, ← Nat.mul_assoc, Nat.mul_comm (p * b ^ r) b, Nat.mul_add_mod]
    rw [dig, e1, e2, ih p (y / b) hp ((Nat.div_lt_iff_lt_mul hb).2 (by rw [← Nat.pow_succ]; exact hy))]
    rw [dig.eq_2 b y r]
    rfl
theorem first_congr {f g : Nat → Option (List Int)} : ∀ n, (∀ p, p < n → f p = g p) → firstOf f n = firstOf g n := by
  intro n
  induction n with
  | zero => intro _; rfl
  | succ n ih => intro h; rw [firstOf, firstOf, ih (fun p hp => h p (by omega)), h n (by omega)]
theorem first_add (f : Nat → Option (List Int)) (a : Nat) : ∀ c, firstOf f (a + c) = match firstOf f a with | some x => some x | none => firstOf (fun y => f (a + y)) c := by
  intro c
  induction c with
  | zero => rw [Nat.add_zero]; cases firstOf f a <;> rfl
  | succ c ih =>
    rw [show a + (c + 1) = (a + c) + 1 from rfl, firstOf, ih]
    cases firstOf f a with
    | some x => rfl
    | none => rfl
theorem first_mul (f : Nat → Option (List Int)) (c : Nat) : ∀ b, firstOf f (b * c) = firstOf (fun p => firstOf (fun y => f (p * c + y)) c) b := by
  intro b
  induction b with
  | zero => rw [Nat.zero_mul]; rfl
  | succ b ih =>
    have h := first_add f (b * c) c
    rw [ih] at h
    rw [Nat.succ_mul]
    exact h
theorem cnt_pre (zs ws : List Int) (k : Int) : ∀ i, i ≤ zs.length → cntI (zs ++ ws) k i = cntI zs k i := by
  intro i
  induction i with
  | zero => intro _; rfl
  | succ i ih =>
    intro h
    rw [cntI, cntI, ih (by omega), List.getD_eq_getElem?_getD, List.getElem?_append_left (by omega), ← List.getD_eq_getElem?_getD]
theorem cnt_up (zs : List Int) (k : Int) {i j : Nat} (h : i ≤ j) : cntI zs k i ≤ cntI zs k j := by
  induction j with
  | zero => rw [Nat.le_zero.1 h]; exact Int.le_refl _
  | succ j ih =>
    rcases Nat.lt_or_ge i (j + 1) with c | c
    · have := ih (by omega)
      rw [cntI]
      split <;> omega
    · rw [show i = j + 1 by omega]; exact Int.le_refl _
def castOr (ls : List RPlayer) (ps x : List Int) : Option (List Int) := if isCasting ls ps x = true then some x else none
section
variable {ls : List RPlayer} {ps : List Int} (hok : playersOk ls = true) (hr : rising ps 6 = true)
include hok hr
theorem far_full {cast load : List Int} (h : Far ls ps cast load) (hl : cast.length = ps.length) : isCasting ls ps cast = true := by
  unfold isCasting
  rw [hok, hr, decide_eq_true hl, range_yes h.cast, range_yes fun k hk => ?_]
  · rfl
  · have := h.at_ k hk
    unfold fr at this
    unfold loadFit
    rw [decide_eq_false (by omega)]
    rfl
theorem far_stuck {cast load : List Int} (h : Far ls ps cast load) (hc : cast.length < ps.length) {p : Nat} (hp : p < ls.length) (hf : freeFor ls load (ps.getD cast.length 0) p = false) (tail : List Int) : isCasting ls ps (cast ++ (p : Int) :: tail) = false := by
  unfold isCasting
  rw [hok, hr, Bool.true_and, Bool.true_and]
  by_cases hl : (cast ++ (p : Int) :: tail).length = ps.length
  · rw [decide_eq_true hl, Bool.true_and]
    unfold freeFor at hf
    by_cases q : load.getD p 0 < (ls.getD p RPlayer.zero).f1
    · rw [decide_eq_true q, Bool.true_and] at hf
      rw [range_no (k := cast.length) (by rw [List.length_append]; simp) ?_, Bool.false_and]
      unfold castAt
      rw [List.getD_eq_getElem?_getD, List.getElem?_append_right (Nat.le_refl _), Nat.sub_self]
      show (inB (p : Int) 0 _ && knowsB (ls.getD (p : Int).toNat RPlayer.zero) _) = false
      rw [Int.toNat_natCast, hf, Bool.and_false]
    · rw [range_no (n := ls.length) (k := p) hp ?_, Bool.and_false]
      have a := (h.at_ p hp).1
      have e : cast ++ (p : Int) :: tail = (cast ++ [(p : Int)]) ++ tail := by simp
      have b := cnt_pre (cast ++ [(p : Int)]) tail (p : Int) (cast ++ [(p : Int)]).length (Nat.le_refl _)
      rw [cnt_more, if_pos rfl] at b
      have c := cnt_up ((cast ++ [(p : Int)]) ++ tail) (p : Int) (i := (cast ++ [(p : Int)]).length) (j := ((cast ++ [(p : Int)]) ++ tail).length) (by simp only [List.length_append]; omega)
      unfold loadFit
      rw [e, decide_eq_true (by omega)]
      rfl
  · rw [decide_eq_false hl, Bool.false_and]
/-- The search goes through the castings in their order. -/
theorem srch_first : ∀ r cast load, Far ls ps cast load → cast.length + r = ps.length → srch ls ps r cast load = firstOf (fun y => castOr ls ps (cast ++ dig ls.length r y)) (ls.length ^ r) := by
  intro r
  induction r with
  | zero =>
    intro cast load h hl
    rw [srch, Nat.pow_zero, firstOf, firstOf]
    show some cast = castOr ls ps (cast ++ [])
    rw [List.append_nil]
    unfold castOr
    rw [if_pos (far_full hok hr h (by omega))]
  | succ r ih =>
    intro cast load h hl
    have hb : 0 < ls.length := by have := (playersOk_has hok).1; omega
    rw [srch, show ls.length ^ (r + 1) = ls.length * ls.length ^ r by rw [Nat.pow_succ, Nat.mul_comm], first_mul]
    refine first_congr _ fun p hp => ?_
    show (if freeFor ls load (ps.getD cast.length 0) p = true then _ else none) = firstOf (fun y => castOr ls ps (cast ++ dig ls.length (r + 1) (p * ls.length ^ r + y))) (ls.length ^ r)
    have e : firstOf (fun y => castOr ls ps (cast ++ dig ls.length (r + 1) (p * ls.length ^ r + y))) (ls.length ^ r) = firstOf (fun y => castOr ls ps (cast ++ (p : Int) :: dig ls.length r y)) (ls.length ^ r) := first_congr _ fun y hy => by
      rw [dig_cons hb r p y hp hy]
    rw [e]
    cases c : freeFor ls load (ps.getD cast.length 0) p with
    | true =>
      rw [if_pos rfl, ih _ _ (far_next h hp (by omega) c) (by rw [List.length_append, List.length_singleton]; omega)]
      exact first_congr _ fun y _ => by rw [List.append_assoc]; rfl
    | false =>
      rw [if_neg (by simp), first_none _ fun y _ => ?_]
      unfold castOr
      rw [far_stuck hok hr h (by omega) hp c, if_neg (by simp)]
end
/-- The castings among the first x. -/
def castsTo (f : Nat → Option (List Int)) : Nat → List (List Int)
  | 0 => []
  | x + 1 => match f x with
    | some c => castsTo f x ++ [c]
    | none => castsTo f x
theorem casts_head (f : Nat → Option (List Int)) : ∀ n, (castsTo f n).head? = firstOf f n := by
  intro n
  induction n with
  | zero => rfl
  | succ n ih =>
    rw [castsTo, firstOf, ← ih]
    cases f n with
    | none => cases castsTo f n <;> rfl
    | some c => cases castsTo f n <;> rfl
theorem casts_mem {f : Nat → Option (List Int)} {c : List Int} : ∀ n, c ∈ castsTo f n → ∃ x, x < n ∧ f x = some c := by
  intro n
  induction n with
  | zero => intro h; cases h
  | succ n ih =>
    intro h
    rw [castsTo] at h
    cases e : f n with
    | none => rw [e] at h; obtain ⟨x, a, b⟩ := ih h; exact ⟨x, by omega, b⟩
    | some d =>
      rw [e] at h
      rcases List.mem_append.1 h with q | q
      · obtain ⟨x, a, b⟩ := ih q; exact ⟨x, by omega, b⟩
      · exact ⟨n, by omega, by rw [e, List.mem_singleton.1 q]⟩
theorem casts_len (f : Nat → Option (List Int)) : ∀ n, (castsTo f n).length ≤ n := by
  intro n
  induction n with
  | zero => exact Nat.le_refl _
  | succ n ih =>
    rw [castsTo]
    cases f n with
    | none => exact Nat.le_succ_of_le ih
    | some c => rw [List.length_append, List.length_singleton]; omega
def castingsOf (ls : List RPlayer) (ps : List Int) : List (List Int) :=
  if (proofOk ls ps && decide (ps.length ≤ 4)) = true then castsTo (fun x => castOr ls ps (dig ls.length ps.length x)) (ls.length ^ ps.length) else []
theorem castings_mem {ls : List RPlayer} {ps c : List Int} (h : c ∈ castingsOf ls ps) : isCasting ls ps c = true := by
  unfold castingsOf at h
  split at h
  · obtain ⟨x, _, e⟩ := casts_mem _ h
    unfold castOr at e
    split at e
    · next q => rw [← Option.some.inj e]; exact q
    · cases e
  · cases h
/-- The first of all castings is the one that the search finds. -/
theorem castings_head {ls : List RPlayer} {ps : List Int} (h : proofOk ls ps = true) (h4 : ps.length ≤ 4) : (castingsOf ls ps).head? = firstCast ls ps := by
  have hk : playersOk ls = true ∧ rising ps 6 = true := by unfold proofOk at h; rwa [Bool.and_eq_true] at h
  unfold castingsOf
  rw [h, decide_eq_true h4, if_pos (by rfl), casts_head]
  unfold firstCast
  rw [hk.1, hk.2, if_pos (by rfl), srch_first hk.1 hk.2 _ _ _ (far_start hk.1 ps) (by simp)]
  rfl
end Go.Proofs.Ytanlfkkmnnjpeaa

/- Changes of hands through a night: the least sum, a night that has it: as mathematics. No condition. -/
namespace Go.Proofs.Ytanlfkkmnnjpeaa
set_option linter.unusedVariables false
set_option linter.unusedSimpArgs false
open Go.RowKit

/-- Changes of puppet i among the first k of the next moment; of the first i puppets. -/
def chK (ps cast nx af : List Int) (i : Nat) : Nat → Int
  | 0 => 0
  | k + 1 => if ps.getD i 0 = nx.getD k 0 ∧ cast.getD i 0 ≠ af.getD k 0 then chK ps cast nx af i k + 1 else chK ps cast nx af i k
def chTo (ps cast nx af : List Int) : Nat → Int
  | 0 => 0
  | i + 1 => chTo ps cast nx af i + chK ps cast nx af i nx.length
def changesB (ps cast nx af : List Int) : Int := if ps.length = cast.length ∧ nx.length = af.length then chTo ps cast nx af ps.length else -1
theorem chK_small (ps cast nx af : List Int) (i : Nat) : ∀ k, 0 ≤ chK ps cast nx af i k ∧ chK ps cast nx af i k ≤ (k : Int) := by
  intro k
  induction k with
  | zero => rw [chK]; omega
  | succ k ih => rw [chK]; split <;> omega
theorem chTo_small (ps cast nx af : List Int) : ∀ i, 0 ≤ chTo ps cast nx af i ∧ chTo ps cast nx af i ≤ (nx.length : Int) * (i : Int) := by
  intro i
  induction i with
  | zero => rw [chTo]; simp
  | succ i ih =>
    have := chK_small ps cast nx af i nx.length
    rw [chTo, show ((i + 1 : Nat) : Int) = (i : Int) + 1 from rfl, Int.mul_add]
    omega
/-- The castings of moment m; the least sum from a casting on, over the first k of the next moment's. -/
def csM (ls : List RPlayer) (nt : List (List Int)) (m : Nat) : List (List Int) := castingsOf ls (nt.getD m [])
def bestK (row : List Int) (d : List (List Int)) (ps c nx : List Int) : Nat → Int
  | 0 => -1
  | k + 1 => if row.getD k 0 < 0 then bestK row d ps c nx k else
      if bestK row d ps c nx k < 0 ∨ row.getD k 0 + changesB ps c nx (d.getD k []) < bestK row d ps c nx k then row.getD k 0 + changesB ps c nx (d.getD k []) else bestK row d ps c nx k
/-- The row of the moment that is j ahead of the last. -/
def costRow (ls : List RPlayer) (nt : List (List Int)) : Nat → List Int
  | 0 => List.replicate (csM ls nt (nt.length - 1)).length 0
  | j + 1 => (csM ls nt (nt.length - 1 - (j + 1))).map fun c => bestK (costRow ls nt j) (csM ls nt (nt.length - 1 - j)) (nt.getD (nt.length - 1 - (j + 1)) []) c (nt.getD (nt.length - 1 - j) []) (csM ls nt (nt.length - 1 - j)).length
def costAt (ls : List RPlayer) (nt : List (List Int)) (m : Nat) : List Int := costRow ls nt (nt.length - 1 - m)
def nightOk (ls : List RPlayer) (nt : List (List Int)) : Bool := nt.all (fun l => decide (l.length ≤ 4) && rising l 6) && (playersOk ls && inB (nt.length : Int) 1 6)
def fewTo (row : List Int) : Nat → Int
  | 0 => -1
  | k + 1 => if 0 ≤ row.getD k 0 ∧ (fewTo row k < 0 ∨ row.getD k 0 < fewTo row k) then row.getD k 0 else fewTo row k
def fewest (ls : List RPlayer) (nt : List (List Int)) : Int := if nightOk ls nt = true then fewTo (costAt ls nt 0) (costAt ls nt 0).length else -1
def firstIx (p : Nat → Bool) : Nat → Option Nat
  | 0 => none
  | n + 1 => match firstIx p n with
    | some i => some i
    | none => if p n = true then some n else none
def stepAt (nt : List (List Int)) (m : Nat) (prev c : List Int) : Int := if 0 < m then changesB (nt.getD (m - 1) []) prev (nt.getD m []) c else 0
def pickAt (ls : List RPlayer) (nt : List (List Int)) (m : Nat) (prev : List Int) (left : Int) (i : Nat) : Bool :=
  decide (0 ≤ (costAt ls nt m).getD i 0) && decide (stepAt nt m prev ((csM ls nt m).getD i []) + (costAt ls nt m).getD i 0 = left)
def nightTo (ls : List RPlayer) (nt : List (List Int)) : Nat → List (List Int) × Int
  | 0 => ([], fewest ls nt)
  | m + 1 => match firstIx (pickAt ls nt m ((nightTo ls nt m).1.getD (m - 1) []) (nightTo ls nt m).2) (csM ls nt m).length with
    | some i => ((nightTo ls nt m).1 ++ [(csM ls nt m).getD i []], (costAt ls nt m).getD i 0)
    | none => nightTo ls nt m
def bestNight (ls : List RPlayer) (nt : List (List Int)) : List (List Int) × Bool := if fewest ls nt < 0 then ([], false) else ((nightTo ls nt nt.length).1, true)
def chAt (nt cs : List (List Int)) (m : Nat) : Int := changesB (nt.getD (m - 1) []) (cs.getD (m - 1) []) (nt.getD m []) (cs.getD m [])
def sumCh (nt cs : List (List Int)) : Nat → Int
  | 0 => 0
  | m + 1 => if m = 0 then 0 else sumCh nt cs m + chAt nt cs m
def countCh (nt cs : List (List Int)) : Int := if (decide (nt.length = cs.length) && (List.range nt.length).all fun m => decide (m = 0) || decide (0 ≤ chAt nt cs m)) = true then sumCh nt cs nt.length else -1
theorem firstIx_some {p : Nat → Bool} : ∀ n j, firstIx p n = some j → j < n ∧ p j = true := by
  intro n
  induction n with
  | zero => intro j h; cases h
  | succ n ih =>
    intro j h
    rw [firstIx] at h
    cases d : firstIx p n with
    | some k =>
      rw [d] at h
      obtain rfl := Option.some.inj h
      obtain ⟨a, b⟩ := ih k d
      exact ⟨by omega, b⟩
    | none =>
      rw [d] at h
      have h : (if p n = true then some n else none) = some j := h
      by_cases q : p n = true
      · rw [if_pos q] at h
        obtain rfl := Option.some.inj h
        exact ⟨by omega, q⟩
      · rw [if_neg q] at h
        cases h
theorem firstIx_has {p : Nat → Bool} {i : Nat} (h : p i = true) : ∀ n, i < n → ∃ j, j < n ∧ firstIx p n = some j ∧ p j = true := by
  intro n hi
  cases c : firstIx p n with
  | some j => exact ⟨j, (firstIx_some n j c).1, rfl, (firstIx_some n j c).2⟩
  | none =>
    exfalso
    induction n with
    | zero => omega
    | succ n ih =>
      rw [firstIx] at c
      cases d : firstIx p n with
      | some k => rw [d] at c; cases c
      | none =>
        rw [d] at c
        have c : (if p n = true then some n else none) = none := c
        by_cases q : i = n
        · subst q; rw [if_pos h] at c; cases c
        · exact ih (by omega) d
theorem costRow_len (ls : List RPlayer) (nt : List (List Int)) : ∀ j, (costRow ls nt j).length = (csM ls nt (nt.length - 1 - j)).length := by
  intro j
  cases j with
  | zero => rw [costRow, List.length_replicate, Nat.sub_zero]
  | succ j => rw [costRow, List.length_map]
theorem costAt_len (ls : List RPlayer) {nt : List (List Int)} {m : Nat} (hm : m < nt.length) : (costAt ls nt m).length = (csM ls nt m).length := by
  unfold costAt
  rw [costRow_len, show nt.length - 1 - (nt.length - 1 - m) = m by omega]
/-- The row of one moment by the next one's. -/
theorem cost_next (ls : List RPlayer) {nt : List (List Int)} {m : Nat} (hm : m + 1 < nt.length) {i : Nat} (hi : i < (csM ls nt m).length) : (costAt ls nt m).getD i 0 = bestK (costAt ls nt (m + 1)) (csM ls nt (m + 1)) (nt.getD m []) ((csM ls nt m).getD i []) (nt.getD (m + 1) []) (csM ls nt (m + 1)).length := by
  unfold costAt
  obtain ⟨j, hj⟩ : ∃ j, nt.length - 1 - (m + 1) = j := ⟨_, rfl⟩
  rw [hj, show nt.length - 1 - m = j + 1 by omega, costRow, show nt.length - 1 - (j + 1) = m by omega, show nt.length - 1 - j = m + 1 by omega]
  rw [List.getD_eq_getElem?_getD, List.getElem?_map, List.getElem?_eq_getElem hi]
  show bestK _ _ _ (csM ls nt m)[i] _ _ = _
  rw [List.getD_eq_getElem?_getD (l := csM ls nt m), List.getElem?_eq_getElem hi]
  rfl
theorem cost_last (ls : List RPlayer) {nt : List (List Int)} {m : Nat} (hm : m + 1 = nt.length) {i : Nat} (hi : i < (csM ls nt m).length) : (costAt ls nt m).getD i 0 = 0 := by
  unfold costAt
  rw [show nt.length - 1 - m = 0 by omega, costRow, List.getD_eq_getElem?_getD, List.getElem?_replicate]
  split <;> rfl
section
variable {row : List Int} {d : List (List Int)} {ps c nx : List Int} (hc : ∀ k, k < d.length → 0 ≤ changesB ps c nx (d.getD k []))
include hc
/-- The best is one of them, and none is less. -/
theorem best_is : ∀ k, k ≤ d.length → (0 ≤ bestK row d ps c nx k → ∃ j, j < k ∧ 0 ≤ row.getD j 0 ∧ bestK row d ps c nx k = row.getD j 0 + changesB ps c nx (d.getD j [])) ∧
    (∀ j, j < k → 0 ≤ row.getD j 0 → 0 ≤ bestK row d ps c nx k ∧ bestK row d ps c nx k ≤ row.getD j 0 + changesB ps c nx (d.getD j [])) ∧ -1 ≤ bestK row d ps c nx k := by
  intro k
  induction k with
  | zero => intro _; rw [bestK]; exact ⟨fun h => by omega, fun j h => by omega, by omega⟩
  | succ k ih =>
    intro hk
    obtain ⟨h1, h2, h3⟩ := ih (by omega)
    have hh := hc k (by omega)
    rw [bestK]
    by_cases a : row.getD k 0 < 0
    · rw [if_pos a]
      refine ⟨fun h => ?_, fun j hj h => ?_, h3⟩
      · obtain ⟨j, x, y⟩ := h1 h; exact ⟨j, by omega, y⟩
      · rcases (by omega : j < k ∨ j = k) with q | rfl
        · exact h2 j q h
        · omega
    · rw [if_neg a]
      by_cases b : bestK row d ps c nx k < 0 ∨ row.getD k 0 + changesB ps c nx (d.getD k []) < bestK row d ps c nx k
      · rw [if_pos b]
        refine ⟨fun _ => ⟨k, by omega, by omega, rfl⟩, fun j hj h => ?_, by omega⟩
        rcases (by omega : j < k ∨ j = k) with q | rfl
        · have := h2 j q h
          omega
        · omega
      · rw [if_neg b]
        refine ⟨fun h => ?_, fun j hj h => ?_, h3⟩
        · obtain ⟨j, x, y⟩ := h1 h; exact ⟨j, by omega, y⟩
        · rcases (by omega : j < k ∨ j = k) with q | rfl
          · exact h2 j q h
          · omega
end
theorem few_is (row : List Int) : ∀ k, (0 ≤ fewTo row k → ∃ j, j < k ∧ fewTo row k = row.getD j 0) ∧ (∀ j, j < k → 0 ≤ row.getD j 0 → 0 ≤ fewTo row k ∧ fewTo row k ≤ row.getD j 0) ∧ -1 ≤ fewTo row k := by
  intro k
  induction k with
  | zero => rw [fewTo]; exact ⟨fun h => by omega, fun j h => by omega, by omega⟩
  | succ k ih =>
    obtain ⟨h1, h2, h3⟩ := ih
    rw [fewTo]
    by_cases b : 0 ≤ row.getD k 0 ∧ (fewTo row k < 0 ∨ row.getD k 0 < fewTo row k)
    · rw [if_pos b]
      refine ⟨fun _ => ⟨k, by omega, rfl⟩, fun j hj h => ?_, by omega⟩
      rcases (by omega : j < k ∨ j = k) with q | rfl
      · have := h2 j q h
        omega
      · omega
    · rw [if_neg b]
      refine ⟨fun h => ?_, fun j hj h => ?_, h3⟩
      · obtain ⟨j, x, y⟩ := h1 h; exact ⟨j, by omega, y⟩
      · rcases (by omega : j < k ∨ j = k) with q | rfl
        · exact h2 j q h
        · omega
end Go.Proofs.Ytanlfkkmnnjpeaa

/- The contract of spec.l11Rising. Condition: the numbers lie in a row of their own. -/
namespace Go.Proofs.Ytanlfkkmnnjpeaa
set_option linter.unusedVariables false
set_option linter.unusedSimpArgs false
open Go.RowKit

set_option maxRecDepth 100000 in
set_option maxHeartbeats 1600000 in
theorem specRise (v : Value) (zs : List Int) (most : Int) (b : Nat) (w : World) (h : OwnI w b v zs) (hl : zs.length ≤ 2000000) :
    Calls Try.prog 46 #[v, .int .i64 most] w fun e w' => e = .returned (.bool (rising zs most)) ∧ Below w.heap.size w w' := by
  obtain ⟨A, c, rfl⟩ := h.slice
  have O := Lib.hid h
  have C0 := Lib.hid (fun v lo hi W => l01In_any v lo hi W)
  have R1 := Lib.hid (fun (h : ∀ k, k < zs.length → riseAt zs most k = true) => (rise_iff zs most zs.length).2 h)
  have R0 := Lib.hid (fun k (hk : k < zs.length) h => rise_bad (most := most) hk h)
  clear h
  go_enter Try.func46, Try.ntmps46
  go_wp2_with fail
  go_loopw [5] (fun iv wr => ∃ k : Nat, k ≤ zs.length ∧ iv = .int .i64 (k : Int) ∧ Hid (∀ i, i < k → riseAt zs most i = true) ∧ Hid (Below w.heap.size w wr)) (fun iv _ => zs.length - (intOf iv).toNat)
  case atStart => exact ⟨0, by omega, rfl, Lib.hid (fun i hi => absurd hi (by omega)), Lib.hid (Below.refl _ _)⟩
  case round =>
    obtain ⟨k, hk, rfl, HN, BW⟩ := hrel
    by_cases hlt : k < zs.length
    rotate_left
    · obtain rfl : k = zs.length := by omega
      have R := Lib.hid (show rising zs most = true from R1.out HN.out)
      go_wp2
      go_ret
      exact ⟨by rw [R.out]; rfl, BW.out⟩
    have hk0 : (0 : Int) ≤ (k : Int) := by omega
    have hk1 : (k : Int) < (zs.length : Int) := by omega
    obtain ⟨g, _, f1, _, _, z0, _⟩ := (O.out.below BW.out).spot hlt
    simp only [Value.slice.injEq] at f1
    obtain ⟨rfl, -, rfl⟩ := f1
    have NX := Lib.hid (fun (h : riseAt zs most k = true) => (show ∀ i, i < k + 1 → riseAt zs most i = true from fun i hi => by
      rcases (by omega : i < k ∨ i = k) with q | rfl
      · exact HN.out i q
      · exact h))
    have RX := Lib.hid (R0.out k hlt)
    have AT := Lib.hid (show riseAt zs most k = (inB zs[k] 0 most && (decide (k = 0) || decide (zs.getD (k - 1) 0 < zs[k]))) by
      unfold riseAt
      rw [show zs.getD k 0 = zs[k] by rw [List.getD_eq_getElem?_getD, List.getElem?_eq_getElem hlt]; rfl])
    have WY := Lib.hid (fun q => (below_drewN BW.out q : Below w.heap.size w (wr.drewN q)))
    generalize zs[k] = x at z0 AT
    cases hin : inB x 0 most with
    | false =>
      have R := Lib.hid (RX.out (by rw [AT.out, hin]; rfl))
      have C1 := Lib.hid (fun W => (hin ▸ C0.out x 0 most W : Calls Try.prog 48 #[.int .i64 x, .int .i64 0, .int .i64 most] W fun e w' => e = .returned (.bool false) ∧ w' = W))
      clear hin NX AT
      go_wp2_with fail
      go_quiet (first | (go_at_call 48; refine Calls.quiet_of_same (C1.out _)))
      go_wp2
      go_ret
      exact ⟨by rw [R.out]; rfl, WY.out _⟩
    | true =>
      have C1 := Lib.hid (fun W => (hin ▸ C0.out x 0 most W : Calls Try.prog 48 #[.int .i64 x, .int .i64 0, .int .i64 most] W fun e w' => e = .returned (.bool true) ∧ w' = W))
      rcases Nat.eq_zero_or_pos k with rfl | hpos
      · have N2 := Lib.hid (NX.out (by rw [AT.out, hin]; rfl))
        clear hin NX AT
        go_wp2_with fail
        go_quiet (first | (go_at_call 48; refine Calls.quiet_of_same (C1.out _)))
        go_wp2
        exact ⟨⟨1, by omega, by rfl, N2, Lib.hid (WY.out _)⟩, by simp [intOf]; omega⟩
      · obtain ⟨j, rfl⟩ : ∃ j, k = j + 1 := ⟨k - 1, by omega⟩
        have hj : j < zs.length := by omega
        obtain ⟨_, _, f1, _, _, z1, _⟩ := (O.out.below BW.out).spot hj
        simp only [Value.slice.injEq, Option.some.injEq, Addr.mk.injEq] at f1
        obtain ⟨⟨rfl, _⟩, -, -⟩ := f1
        have A2 := Lib.hid (show riseAt zs most (j + 1) = decide (zs[j] < x) by
          rw [AT.out, hin, show j + 1 - 1 = j by omega, show zs.getD j 0 = zs[j] by rw [List.getD_eq_getElem?_getD, List.getElem?_eq_getElem hj]; rfl]
          simp)
        have ek : ((j + 1 : Nat) : Int) = (j : Int) + 1 := by omega
        have e1 : IntKind.i64.wrap ((j : Int) + 1 - 1) = (j : Int) := by rw [IntWalk.i64_in _ (by omega)]; omega
        have hp : (0 : Int) < (j : Int) + 1 := by omega
        have hj0 : (0 : Int) ≤ (j : Int) := by omega
        have hj1 : (j : Int) < (zs.length : Int) := by omega
        generalize zs[j] = y at z1 A2
        clear hin AT
        by_cases hyx : y < x
        · have N2 := Lib.hid (NX.out (by rw [A2.out]; exact decide_eq_true hyx))
          have dx : decide (x ≤ y) = false := decide_eq_false (by omega)
          have nx : ¬ x ≤ y := by omega
          clear hyx NX A2
          go_wp2_with fail
          go_quiet (first | (go_at_call 48; refine Calls.quiet_of_same (C1.out _)))
          go_wp2
          exact ⟨⟨j + 2, by omega, by go_num, N2, Lib.hid (WY.out _)⟩, by simp [intOf]; omega⟩
        · have R := Lib.hid (RX.out (by rw [A2.out]; exact decide_eq_false hyx))
          have dx : decide (x ≤ y) = true := decide_eq_true (by omega)
          clear hyx NX A2
          go_wp2_with fail
          go_quiet (first | (go_at_call 48; refine Calls.quiet_of_same (C1.out _)))
          go_wp2
          go_ret
          exact ⟨by rw [R.out]; rfl, WY.out _⟩

end Go.Proofs.Ytanlfkkmnnjpeaa
