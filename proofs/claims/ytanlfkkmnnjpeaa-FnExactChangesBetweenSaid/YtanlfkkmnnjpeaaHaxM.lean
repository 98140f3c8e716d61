/- What FnHands asks: a casting that is found is one; it has no more puppets than there are hands. No condition. -/
import Derived.Test.YtanlfkkmnnjpeaaHanM
namespace Go.Proofs.Ytanlfkkmnnjpeaa
set_option linter.unusedVariables false
set_option linter.unusedSimpArgs false
open Go.RowKit

def fr (ls : List RPlayer) (p : Nat) : Int := (ls.getD p RPlayer.zero).f1
theorem cnt_snoc (zs : List Int) (x k : Int) : ∀ i, i ≤ zs.length → cntI (zs ++ [x]) k i = cntI zs k i := by
  intro i
  induction i with
  | zero => intro _; rfl
  | succ i ih =>
    intro h
    rw [cntI, cntI, ih (by omega), List.getD_eq_getElem?_getD, List.getElem?_append_left (by omega), ← List.getD_eq_getElem?_getD]
theorem cnt_more (zs : List Int) (x k : Int) : cntI (zs ++ [x]) k (zs ++ [x]).length = cntI zs k zs.length + if x = k then 1 else 0 := by
  rw [List.length_append]
  show cntI (zs ++ [x]) k (zs.length + 1) = _
  rw [cntI, cnt_snoc zs x k _ (Nat.le_refl _), List.getD_eq_getElem?_getD, List.getElem?_append_right (Nat.le_refl _), Nat.sub_self]
  rfl
/-- A casting that has come so far. -/
structure Far (ls : List RPlayer) (ps cast load : List Int) : Prop where
  len : load.length = ls.length
  fit : cast.length ≤ ps.length
  at_ : ∀ p, p < ls.length → load.getD p 0 = cntI cast (p : Int) cast.length ∧ load.getD p 0 ≤ fr ls p
  cast : ∀ k, k < cast.length → castAt ls ps cast k = true
theorem far_start {ls : List RPlayer} (h : playersOk ls = true) (ps : List Int) : Far ls ps [] (List.replicate ls.length 0) :=
  ⟨by simp, by simp, fun p hp => by
    have := (player_fine ((playersOk_has h).2 p hp)).2
    rw [List.getD_eq_getElem?_getD, List.getElem?_replicate, if_pos hp, Option.getD_some]
    unfold fr
    rw [getP hp]
    exact ⟨rfl, by omega⟩, fun k hk => absurd hk (by simp)⟩
theorem far_next {ls : List RPlayer} {ps cast load : List Int} (h : Far ls ps cast load) {p : Nat} (hp : p < ls.length) (hc : cast.length < ps.length) (hf : freeFor ls load (ps.getD cast.length 0) p = true) : Far ls ps (cast ++ [(p : Int)]) (load.set p (load.getD p 0 + 1)) := by
  unfold freeFor at hf
  rw [Bool.and_eq_true, decide_eq_true_eq] at hf
  refine ⟨by rw [List.length_set]; exact h.len, by rw [List.length_append]; simp; omega, fun q hq => ?_, fun k hk => ?_⟩
  · have a := h.at_ q hq
    rw [cnt_more]
    by_cases e : p = q
    · subst e
      rw [List.getD_eq_getElem?_getD, List.getElem?_set_self (by rw [h.len]; exact hp), Option.getD_some, if_pos rfl]
      have := hf.1
      unfold fr
      omega
    · rw [List.getD_eq_getElem?_getD, List.getElem?_set_ne e, ← List.getD_eq_getElem?_getD, if_neg (by omega)]
      omega
  · rw [List.length_append] at hk
    have hk : k < cast.length + 1 := by simpa using hk
    unfold castAt
    by_cases e : k = cast.length
    · subst e
      rw [List.getD_eq_getElem?_getD, List.getElem?_append_right (Nat.le_refl _), Nat.sub_self]
      show (inB (p : Int) 0 _ && knowsB (ls.getD (p : Int).toNat RPlayer.zero) _) = true
      rw [Int.toNat_natCast, hf.2, Bool.and_true]
      simp [inB]
      omega
    · have := h.cast k (by omega)
      unfold castAt at this
      rw [List.getD_eq_getElem?_getD (l := cast ++ _), List.getElem?_append_left (by omega), ← List.getD_eq_getElem?_getD]
      exact this
theorem srch_far {ls : List RPlayer} {ps : List Int} : ∀ r cast load x, Far ls ps cast load → cast.length + r = ps.length → srch ls ps r cast load = some x → ∃ lo, Far ls ps x lo ∧ x.length = ps.length := by
  intro r
  induction r with
  | zero =>
    intro cast load x h hl e
    rw [srch] at e
    obtain rfl := Option.some.inj e
    exact ⟨load, h, by omega⟩
  | succ r ih =>
    intro cast load x h hl e
    rw [srch] at e
    obtain ⟨p, hp, e⟩ := first_has _ e
    split at e
    · next hf => exact ih _ _ _ (far_next h hp (by omega) hf) (by rw [List.length_append]; simp; omega) e
    · cases e
/-- The sum of the first k counts. -/
def sumC (zs : List Int) : Nat → Int
  | 0 => 0
  | k + 1 => sumC zs k + cntI zs (k : Int) zs.length
def cntB' (zs : List Int) (n : Nat) : Nat → Int
  | 0 => 0
  | i + 1 => cntB' zs n i + if 0 ≤ zs.getD i 0 ∧ zs.getD i 0 < (n : Int) then 1 else 0
theorem cntB_more (zs : List Int) (n : Nat) : ∀ i, cntB' zs (n + 1) i = cntB' zs n i + cntI zs (n : Int) i := by
  intro i
  induction i with
  | zero => rfl
  | succ i ih =>
    rw [cntB', cntB', cntI, ih]
    by_cases a : 0 ≤ zs.getD i 0 ∧ zs.getD i 0 < (n : Int)
    · rw [if_pos a, if_pos (by omega), if_neg (by omega)]; omega
    · rw [if_neg a]
      by_cases b : zs.getD i 0 = (n : Int)
      · rw [if_pos b, if_pos (by omega)]; omega
      · rw [if_neg b, if_neg (by omega)]; omega
theorem sumC_cnt (zs : List Int) : ∀ n, sumC zs n = cntB' zs n zs.length := by
  intro n
  induction n with
  | zero =>
    have : ∀ i, cntB' zs 0 i = 0 := fun i => by
      induction i with
      | zero => rfl
      | succ i ih => rw [cntB', ih, if_neg (by omega)]; rfl
    rw [sumC, this]
  | succ n ih => rw [sumC, cntB_more, ih]
theorem cntB_all (zs : List Int) (n : Nat) : ∀ i, (∀ k, k < i → 0 ≤ zs.getD k 0 ∧ zs.getD k 0 < (n : Int)) → cntB' zs n i = (i : Int) := by
  intro i
  induction i with
  | zero => intro _; rfl
  | succ i ih => intro h; rw [cntB', ih (fun k hk => h k (by omega)), if_pos (h i (by omega))]; omega
/-- All that FnHands asks. -/
structure HandFacts (ls : List RPlayer) (ps : List Int) : Prop where
  free : handsFree ls = handsTo ls ls.length ∧ 0 ≤ handsFree ls
  found : ∀ x, firstCast ls ps = some x → isCasting ls ps x = true ∧ x.length = ps.length ∧ (ps.length : Int) ≤ handsFree ls ∧ sumC x ls.length = (ps.length : Int) ∧ loadOf ls x = loadTo x ls.length ∧
    (∀ k, k < ls.length → 0 ≤ cntI x (k : Int) x.length ∧ cntI x (k : Int) x.length ≤ fr ls k) ∧ ∀ k, k < ps.length → x.getD k 0 ∈ whoKnows ls (ps.getD k 0)
  empty : isCasting ls [] [] = true
theorem who_mem (ls : List RPlayer) (z : Int) : ∀ k q, q < k → knowsB (ls.getD q RPlayer.zero) z = true → (q : Int) ∈ whoTo ls z k := by
  intro k
  induction k with
  | zero => intro q h; omega
  | succ k ih =>
    intro q h e
    rw [whoTo]
    by_cases c : q = k
    · subst c
      rw [if_pos e]
      simp
    · have := ih q (by omega) e
      split
      · exact List.mem_append_left _ this
      · exact this
theorem handFacts {ls : List RPlayer} {ps : List Int} (hok : playersOk ls = true) (hr : rising ps 6 = true) : HandFacts ls ps := by
  have hn := (playersOk_has hok).1
  have ef : handsFree ls = handsTo ls ls.length := by unfold handsFree; rw [if_pos hok]
  have hs := hands_small hok ls.length (Nat.le_refl _)
  refine ⟨⟨ef, by omega⟩, fun x hx => ?_, ?_⟩
  · unfold firstCast at hx
    rw [hok, hr, if_pos (by rfl)] at hx
    obtain ⟨lo, F, hl⟩ := srch_far _ _ _ _ (far_start hok ps) (by simp) hx
    have fit : ∀ k, k < ls.length → 0 ≤ cntI x (k : Int) x.length ∧ cntI x (k : Int) x.length ≤ fr ls k := fun k hk => by
      have a := F.at_ k hk
      have b := cntI_small x (k : Int) x.length
      omega
    have at_ : ∀ k, k < x.length → (0 ≤ x.getD k 0 ∧ x.getD k 0 < (ls.length : Int)) ∧ knowsB (ls.getD (x.getD k 0).toNat RPlayer.zero) (ps.getD k 0) = true := fun k hk => by
      have := F.cast k hk
      unfold castAt at this
      rw [Bool.and_eq_true] at this
      obtain ⟨a, b⟩ := this
      generalize x.getD k 0 = y at a b ⊢
      have a : 0 ≤ y ∧ y ≤ (ls.length : Int) - 1 := by simpa [inB] using a
      exact ⟨by omega, b⟩
    have sc : sumC x ls.length = (ps.length : Int) := by rw [sumC_cnt, cntB_all x ls.length _ (fun k hk => (at_ k hk).1), hl]
    have le : ∀ k, k ≤ ls.length → sumC x k ≤ handsTo ls k := by
      intro k
      induction k with
      | zero => intro _; exact Int.le_refl _
      | succ k ih =>
        intro hk
        have a := ih (by omega)
        have b := (fit k (by omega)).2
        rw [sumC, handsTo]
        unfold fr at b
        omega
    refine ⟨?_, hl, ?_, sc, by unfold loadOf; rw [if_pos hok], fit, fun k hk => ?_⟩
    · unfold isCasting
      rw [hok, hr, decide_eq_true hl, range_yes F.cast, range_yes fun k hk => ?_]
      · rfl
      · have := (fit k hk).2
        unfold fr at this
        unfold loadFit
        rw [decide_eq_false (by omega)]
        rfl
    · have := le ls.length (Nat.le_refl _)
      rw [ef, ← sc]
      exact this
    · obtain ⟨⟨a, b⟩, e⟩ := at_ k (by omega)
      unfold whoKnows
      rw [if_pos hok]
      have := who_mem ls (ps.getD k 0) ls.length (x.getD k 0).toNat (by omega) e
      rwa [Int.toNat_of_nonneg a] at this
  · unfold isCasting
    rw [hok]
    have e1 : rising ([] : List Int) 6 = true := rfl
    rw [e1, range_yes (n := ([] : List Int).length) (fun k hk => absurd hk (by simp)), range_yes fun k hk => ?_]
    · rfl
    · have := (player_fine ((playersOk_has hok).2 k hk)).2
      unfold loadFit
      rw [getP hk]
      show (!decide (ls[k].f1 < 0)) = true
      rw [decide_eq_false (by omega)]
      rfl
end Go.Proofs.Ytanlfkkmnnjpeaa
