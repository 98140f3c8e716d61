/- The joints with a string as a list: what is said of all pulls is said of that list. No condition. -/
import Derived.Test.YtblbmppbbhibeaaPullM
import Derived.Test.YtblbmppbbhibeaaDistW
namespace Go.Proofs.Ytblbmppbbhibeaa
set_option linter.unusedVariables false
set_option linter.unusedSimpArgs false

/-- The joints with a string among the first k. -/
def strsTo (zs : List Int) : Nat → List Int
  | 0 => []
  | k + 1 => strsTo zs k ++ if zs.getD k 0 = -1 then [] else [(k : Int)]
def strs (zs : List Int) : List Int := strsTo zs zs.length
theorem strsTo_more (zs : List Int) (k : Nat) : strsTo zs (k + 1) = strsTo zs k ++ if zs.getD k 0 = -1 then [] else [(k : Int)] := rfl
theorem strsTo_len (zs : List Int) (k : Nat) : (strsTo zs k).length ≤ k := by
  induction k with
  | zero => exact Nat.le_refl _
  | succ k ih =>
    rw [strsTo_more, List.length_append]
    split <;> simp <;> omega
theorem strsTo_mem {zs : List Int} {k : Nat} {x : Int} (h : x ∈ strsTo zs k) : ∃ j : Nat, x = (j : Int) ∧ j < k ∧ zs.getD j 0 ≠ -1 := by
  induction k with
  | zero => cases h
  | succ k ih =>
    rw [strsTo_more, List.mem_append] at h
    rcases h with h | h
    · obtain ⟨j, e, hj, hz⟩ := ih h
      exact ⟨j, e, by omega, hz⟩
    · split at h
      · cases h
      · rename_i hz
        exact ⟨k, List.mem_singleton.1 h, by omega, hz⟩
theorem strsTo_some {zs : List Int} {k : Nat} : 0 < (strsTo zs k).length ↔ ∃ j, j < k ∧ zs.getD j 0 ≠ -1 := by
  induction k with
  | zero => exact ⟨fun h => absurd h (by simp [strsTo]), fun ⟨j, h, _⟩ => absurd h (by omega)⟩
  | succ k ih =>
    rw [strsTo_more, List.length_append]
    constructor
    · intro h
      by_cases hz : zs.getD k 0 = -1
      · rw [if_pos hz] at h
        obtain ⟨j, hj, hz⟩ := ih.1 (by simpa using h)
        exact ⟨j, by omega, hz⟩
      · exact ⟨k, by omega, hz⟩
    · rintro ⟨j, hj, hz⟩
      by_cases e : j = k
      · subst e
        rw [if_neg hz]
        simp
      · have := ih.2 ⟨j, by omega, hz⟩
        omega
/-- A joint with a string, by its place in the list. -/
theorem strs_at {zs : List Int} {r : Nat} (h : r < (strs zs).length) : ∃ j : Nat, (strs zs)[r] = (j : Int) ∧ j < zs.length ∧ zs.getD j 0 ≠ -1 := strsTo_mem (List.getElem_mem h)
theorem pulled_any {zs : List Int} (h : zs.all (inRange (-1) 500) = true) : decide (0 < (strs zs).length) = zs.any pulled := by
  have g : ∀ k (hk : k < zs.length), zs.getD k 0 = zs[k] := fun k hk => by rw [List.getD_eq_getElem?_getD, List.getElem?_eq_getElem hk]; rfl
  have hr : ∀ k (hk : k < zs.length), -1 ≤ zs[k] := fun k hk => by
    have := List.all_eq_true.1 h zs[k] (List.getElem_mem hk)
    unfold inRange at this
    have := of_decide_eq_true this
    exact this.1
  rw [Bool.eq_iff_iff, decide_eq_true_eq, List.any_eq_true]
  rw [strs, strsTo_some]
  constructor
  · rintro ⟨j, hj, hz⟩
    rw [g j hj] at hz
    have := hr j hj
    exact ⟨zs[j], List.getElem_mem hj, decide_eq_true (by omega)⟩
  · rintro ⟨x, hx, hp⟩
    obtain ⟨j, hj, rfl⟩ := List.mem_iff_getElem.1 hx
    have := of_decide_eq_true hp
    exact ⟨j, hj, by rw [g j hj]; omega⟩

/-- A string that hangs loose, and one that holds. -/
def looseB (zs hs : List Int) (x : Int) : Bool := decide (zs.getD x.toNat 0 < hs.getD x.toNat 0)
def holdsB (zs hs : List Int) (x : Int) : Bool := !decide (hs.getD x.toNat 0 < zs.getD x.toNat 0)
theorem slack_strs {zs hs : List Int} {k : Nat} (h : ∀ j, j < k → -1 ≤ zs.getD j 0) : slackTo zs hs k = (strsTo zs k).filter (looseB zs hs) := by
  induction k with
  | zero => rfl
  | succ k ih =>
    have hk := h k (by omega)
    show slackTo zs hs k ++ _ = _
    rw [strsTo_more, List.filter_append, ih (fun j hj => h j (by omega))]
    congr 1
    unfold slackB
    by_cases hz : zs.getD k 0 = -1
    · rw [if_pos hz, if_neg (fun h => by have := of_decide_eq_true h; omega)]
      rfl
    · rw [if_neg hz]
      by_cases hl : zs.getD k 0 < hs.getD k 0
      · rw [if_pos (decide_eq_true (by omega)), List.filter_cons_of_pos (show looseB zs hs (k : Int) = true from decide_eq_true (by rw [Int.toNat_natCast]; exact hl))]
        rfl
      · rw [if_neg (fun h => hl (of_decide_eq_true h).2), List.filter_cons_of_neg (show ¬ looseB zs hs (k : Int) = true from fun h => hl (by have := of_decide_eq_true h; rwa [Int.toNat_natCast] at this))]
        rfl
theorem held_strs {zs hs : List Int} {k : Nat} (h : ∀ j, j < k → -1 ≤ zs.getD j 0) : (List.range k).all (heldAt zs hs) = (strsTo zs k).all (holdsB zs hs) := by
  induction k with
  | zero => rfl
  | succ k ih =>
    have hk := h k (by omega)
    rw [List.range_succ, List.all_append, strsTo_more, List.all_append, ih (fun j hj => h j (by omega))]
    congr 1
    by_cases hz : zs.getD k 0 = -1
    · rw [if_pos hz]
      simp only [List.all_cons, List.all_nil, Bool.and_true, heldAt, pulled, hz]
      simp
    · rw [if_neg hz]
      have : pulled (zs.getD k 0) = true := decide_eq_true (by omega)
      simp only [List.all_cons, List.all_nil, Bool.and_true, heldAt, this, holdsB, Int.toNat_natCast]

/-- The greatest of the heights that these strings give joint j, and -2001. -/
def topOver (m : Nat) (ls : List Lb) (zs : List Int) (j : Nat) (ss : List Int) : Int := ss.foldl (fun t x => max t (zs.getD x.toNat 0 - dist m ls x.toNat j)) (-2001)
theorem topOver_snoc {m : Nat} {ls : List Lb} {zs : List Int} {j : Nat} {ss : List Int} {x : Int} : topOver m ls zs j (ss ++ [x]) = max (topOver m ls zs j ss) (zs.getD x.toNat 0 - dist m ls x.toNat j) := by
  unfold topOver
  rw [List.foldl_append]
  rfl
theorem topOver_more {m : Nat} {ls : List Lb} {zs : List Int} {j : Nat} {ss : List Int} {r : Nat} (h : r < ss.length) :
    topOver m ls zs j (ss.take (r + 1)) = max (topOver m ls zs j (ss.take r)) (zs.getD ss[r].toNat 0 - dist m ls ss[r].toNat j) := by
  rw [List.take_succ_eq_append_getElem h, topOver_snoc]
theorem hangTo_top {m : Nat} {ls : List Lb} {zs : List Int} {j k : Nat} (h : ∀ j, j < k → -1 ≤ zs.getD j 0) : hangTo m ls zs j k = max (-2000) (topOver m ls zs j (strsTo zs k)) := by
  induction k with
  | zero => exact (show (-2000 : Int) = max (-2000) (-2001) by decide)
  | succ k ih =>
    have hk := h k (by omega)
    show (if zs.getD k 0 < 0 then hangTo m ls zs j k else max (hangTo m ls zs j k) (zs.getD k 0 - dist m ls k j)) = _
    rw [strsTo_more, ih (fun j hj => h j (by omega))]
    by_cases hz : zs.getD k 0 = -1
    · rw [if_pos (by omega), if_pos hz, List.append_nil]
    · rw [if_neg (by omega), if_neg hz, topOver_snoc, Int.toNat_natCast]
      omega
theorem topOver_least {m : Nat} {ls : List Lb} {zs : List Int} {j : Nat} {ss : List Int} {b : Int} (hs : 0 < ss.length) (h : ∀ x ∈ ss, b ≤ zs.getD x.toNat 0 - dist m ls x.toNat j) : b ≤ topOver m ls zs j ss := by
  have g : ∀ r, r < ss.length → b ≤ topOver m ls zs j (ss.take (r + 1)) := fun r hr => by
    rw [topOver_more hr]
    have := h ss[r] (List.getElem_mem hr)
    omega
  have := g (ss.length - 1) (by omega)
  rwa [List.take_of_length_le (by omega)] at this
theorem topOver_range {m : Nat} {ls : List Lb} {zs : List Int} {j : Nat} {ss : List Int} (h : ∀ x ∈ ss, -2001 ≤ zs.getD x.toNat 0 - dist m ls x.toNat j ∧ zs.getD x.toNat 0 - dist m ls x.toNat j ≤ 500) (r : Nat) : -2001 ≤ topOver m ls zs j (ss.take r) ∧ topOver m ls zs j (ss.take r) ≤ 500 := by
  induction r with
  | zero => exact ⟨by simp [topOver], by simp [topOver]⟩
  | succ r ih =>
    by_cases hr : r < ss.length
    · rw [topOver_more hr]
      have := h ss[r] (List.getElem_mem hr)
      omega
    · rw [List.take_of_length_le (by omega)]
      rwa [List.take_of_length_le (by omega)] at ih
/-- The height of a joint, where the pulls are valid. -/
theorem hang_top {m : Nat} {ls : List Lb} {zs : List Int} (h : pullsOk m ls zs = true) (j : Nat) : hang m ls zs j = topOver m ls zs j (strs zs) := by
  obtain ⟨hok, hzl, hzr, k, hk, hkz⟩ := pulls_parts h
  obtain ⟨hf, hlm, hm12, -⟩ := ok_parts' hok
  have e : zs.length = m := by omega
  have hd : (100 : Int) * (ls.length : Int) ≤ 1100 := by omega
  have h1 := hangTo_top (m := m) (ls := ls) (zs := zs) (j := j) (k := zs.length) (fun j hj => (hzr j hj).1)
  have h2 := topOver_least (m := m) (ls := ls) (zs := zs) (j := j) (b := -2000) ((strsTo_some (zs := zs) (k := zs.length)).2 ⟨k, hk, by omega⟩) (fun x hx => by
    obtain ⟨i, rfl, hi, hz⟩ := strsTo_mem hx
    have := hzr i hi
    have := dist_range (m := m) hf i j
    rw [Int.toNat_natCast]
    omega)
  unfold hang strs
  rw [← e] at h1 h2 ⊢
  rw [h1]
  omega
end Go.Proofs.Ytblbmppbbhibeaa
