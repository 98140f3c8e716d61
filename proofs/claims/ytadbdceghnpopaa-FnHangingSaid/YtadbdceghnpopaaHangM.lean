/- The hanging pose as plain mathematics: it is a pose, it is held, no joint of it can be lower, all of it can be higher; loose strings; the least height. Condition: the body and the pulls are valid. -/
import Derived.Test.YtadbdceghnpopaaPullM
import Derived.Test.YtadbdceghnpopaaWalkM
import Derived.Test.YtadbdceghnpopaaHasW
namespace Go.Proofs.Ytadbdceghnpopaa

section
variable {m : Nat} {ls : List Lb} {zs : List Int}
theorem dist_limb' (hf : Fits m ls) (hl : ls.length + 1 = m) (hr : (joinRun m ls (apart m)).isSome = true) {t x : Nat} (ht : t < ls.length) (hx : touches (limbAt ls t) x) : dist m ls x (other (limbAt ls t) x) = (limbAt ls t).n := by
  rw [← dist_way hf hl hr (es := [t]) ⟨ht, hx, rfl⟩ trivial]
  show (limbAt ls t).n + 0 = _
  omega
theorem dist_step (hf : Fits m ls) (hl : ls.length + 1 = m) (hr : (joinRun m ls (apart m)).isSome = true) {t x : Nat} (ht : t < ls.length) (hx : touches (limbAt ls t) x) (i : Nat) : dist m ls i x ≤ dist m ls i (other (limbAt ls t) x) + (limbAt ls t).n := by
  have h := dist_three hf i (other (limbAt ls t) x) x
  have e := dist_limb' hf hl hr ht hx
  rw [dist_comm] at e
  omega
theorem dist_last (hf : Fits m ls) (hl : ls.length + 1 = m) (hr : (joinRun m ls (apart m)).isSome = true) {i j : Nat} (hi : i < m) (hj : j < m) (hne : i ≠ j) :
    ∃ t, t < ls.length ∧ touches (limbAt ls t) j ∧ dist m ls i j = dist m ls i (other (limbAt ls t) j) + (limbAt ls t).n := by
  obtain ⟨es, hw, hn⟩ := way_some hf hl hr hj hi
  cases es with
  | nil => exact absurd (show j = i from hw).symm hne
  | cons t es =>
    obtain ⟨ht, hx, hw'⟩ := hw
    refine ⟨t, ht, hx, ?_⟩
    have h1 := dist_way hf hl hr (es := t :: es) ⟨ht, hx, hw'⟩ hn
    have h2 := dist_way hf hl hr hw' (noTurn_tail hn)
    have e : wayLen ls (t :: es) = (limbAt ls t).n + wayLen ls es := rfl
    rw [dist_comm i j, dist_comm i (other (limbAt ls t) j)]
    omega

theorem hangTo_succ (j k : Nat) : hangTo m ls zs j (k + 1) = if zs.getD k 0 < 0 then hangTo m ls zs j k else max (hangTo m ls zs j k) (zs.getD k 0 - dist m ls k j) := rfl
theorem hangTo_le {i j k : Nat} (h : i < k) (h0 : 0 ≤ zs.getD i 0) : zs.getD i 0 - dist m ls i j ≤ hangTo m ls zs j k := by
  induction k with
  | zero => omega
  | succ k ih =>
    rw [hangTo_succ]
    by_cases e : i = k
    · subst e
      rw [if_neg (by omega)]
      exact Int.le_max_right _ _
    · have h' := ih (by omega)
      split
      · exact h'
      · exact Int.le_trans h' (Int.le_max_left _ _)
theorem hangTo_none {j k : Nat} (h : ∀ i, i < k → zs.getD i 0 < 0) : hangTo m ls zs j k = -2000 := by
  induction k with
  | zero => rfl
  | succ k ih => rw [hangTo_succ, if_pos (h k (by omega)), ih fun i hi => h i (by omega)]
theorem hangTo_is (hf : Fits m ls) (hl : ls.length ≤ 11) {j k : Nat} (h : ∃ i, i < k ∧ 0 ≤ zs.getD i 0) : ∃ i, i < k ∧ 0 ≤ zs.getD i 0 ∧ hangTo m ls zs j k = zs.getD i 0 - dist m ls i j := by
  induction k with
  | zero => obtain ⟨i, hi, _⟩ := h; omega
  | succ k ih =>
    rw [hangTo_succ]
    by_cases hk : zs.getD k 0 < 0
    · rw [if_pos hk]
      obtain ⟨i, hi, h0⟩ := h
      have hik : i ≠ k := fun e => by subst e; omega
      obtain ⟨i', hi', h0', e⟩ := ih ⟨i, by omega, h0⟩
      exact ⟨i', by omega, h0', e⟩
    · rw [if_neg hk]
      have hd := dist_range hf k j
      by_cases hE : ∃ i, i < k ∧ 0 ≤ zs.getD i 0
      · obtain ⟨i', hi', h0', e⟩ := ih hE
        rcases Int.le_total (hangTo m ls zs j k) (zs.getD k 0 - dist m ls k j) with hm | hm
        · exact ⟨k, by omega, by omega, Int.max_eq_right hm⟩
        · exact ⟨i', by omega, h0', by rw [Int.max_eq_left hm]; exact e⟩
      · have hn : hangTo m ls zs j k = -2000 := hangTo_none fun i hi => by
          rcases Int.lt_or_le (zs.getD i 0) 0 with h | h
          · exact h
          · exact absurd ⟨i, hi, h⟩ hE
        exact ⟨k, by omega, by omega, by rw [hn]; exact Int.max_eq_right (by omega)⟩
end

/-- What is known of a valid body and valid pulls. -/
structure Hung (m : Nat) (ls : List Lb) (zs : List Int) : Prop where
  ok : pullsOk m ls zs = true
  body : bodyOk m ls = true
  fits : Fits m ls
  limbs : ls.length + 1 = m
  small : m ≤ 12
  run : (joinRun m ls (apart m)).isSome = true
  len : zs.length = m
  pulls : ∀ k, k < m → -1 ≤ zs.getD k 0 ∧ zs.getD k 0 ≤ 500
  some : ∃ k, k < m ∧ 0 ≤ zs.getD k 0

section
variable {m : Nat} {ls : List Lb} {zs : List Int}
theorem hung_of (h : pullsOk m ls zs = true) : Hung m ls zs := by
  obtain ⟨h1, h2, h3, h4⟩ := pulls_parts h
  obtain ⟨hb, hc, P, hP⟩ := bodyOk_true h1
  have e : zs.length = m := by omega
  rw [Int.toNat_natCast] at hP
  exact ⟨h, h1, ok_fits h1, by omega, by omega, by rw [hP]; rfl, e, fun k hk => h3 k (by omega), by obtain ⟨k, hk, h0⟩ := h4; exact ⟨k, by omega, h0⟩⟩
variable (H : Hung m ls zs)
include H
theorem hangPose_is : hangPose m ls zs = hangs m ls zs := by
  unfold hangPose
  rw [if_pos H.ok, Int.toNat_natCast]
theorem hang_range (j : Nat) : -2000 ≤ hang m ls zs j ∧ hang m ls zs j ≤ 500 := hangTo_range H.fits (by have := H.limbs; have := H.small; omega) H.pulls j m (Nat.le_refl m)
omit H in
theorem hang_at {i j : Nat} (hi : i < m) (h0 : 0 ≤ zs.getD i 0) : zs.getD i 0 - dist m ls i j ≤ hang m ls zs j := hangTo_le hi h0
theorem hang_is (j : Nat) : ∃ i, i < m ∧ 0 ≤ zs.getD i 0 ∧ hang m ls zs j = zs.getD i 0 - dist m ls i j := hangTo_is H.fits (by have := H.limbs; have := H.small; omega) H.some
omit H in
theorem hang_self {j : Nat} (hj : j < m) (h0 : 0 ≤ zs.getD j 0) : zs.getD j 0 ≤ hang m ls zs j := by
  have h := hang_at (m := m) (ls := ls) (zs := zs) (j := j) hj h0
  rw [dist_self] at h
  omega
theorem hang_step {t x : Nat} (ht : t < ls.length) (hx : touches (limbAt ls t) x) : hang m ls zs (other (limbAt ls t) x) - (limbAt ls t).n ≤ hang m ls zs x := by
  obtain ⟨i, hi, h0, e⟩ := hang_is H (other (limbAt ls t) x)
  have h1 := hang_at (ls := ls) (j := x) hi h0
  have h2 := dist_step H.fits H.limbs H.run ht hx i
  omega
/-- Heights that are those of hanging and a number more, all in the range, make a pose that is held. -/
theorem held_up {hs : List Int} {d : Int} (hl : hs.length = m) (hh : ∀ k, k < m → hs.getD k 0 = hang m ls zs k + d) (h0 : 0 ≤ d) (h1 : d ≤ 1000) : poseOk m ls hs = true ∧ isHeld m ls zs hs = true := by
  have hp : poseOk m ls hs = true := by
    refine pose_parts.2 ⟨H.body, by omega, fun k hk => ?_, fun l hl' => ?_⟩
    · have := hang_range H k
      rw [hh k (by omega)]
      omega
    · obtain ⟨t, ht, rfl⟩ := List.mem_iff_getElem.1 hl'
      rw [← limbAt_lt ht]
      obtain ⟨p, q, hp, hq, hpm, hqm, hpq, _⟩ := fits_at H.fits ht
      have s1 := hang_step H ht (x := p) (.inl hp)
      have s2 := hang_step H ht (x := q) (.inr hq)
      have o1 : other (limbAt ls t) p = q := by unfold other; rw [if_pos hp, hq, Int.toNat_natCast]
      have o2 : other (limbAt ls t) q = p := by unfold other; rw [if_neg (by rw [hp]; omega), hp, Int.toNat_natCast]
      rw [o1] at s1
      rw [o2] at s2
      rw [hp, hq, Int.toNat_natCast, Int.toNat_natCast, hh p hpm, hh q hqm]
      omega
  refine ⟨hp, ?_⟩
  unfold isHeld
  rw [H.ok, hp, Int.toNat_natCast]
  simp only [Bool.true_and, List.all_eq_true, List.mem_range]
  intro k hk
  unfold heldAt pulled
  have h := hh k hk
  by_cases hz : 0 ≤ zs.getD k 0
  · have := hang_self (ls := ls) hk hz
    rw [decide_eq_false (by omega)]
    rfl
  · rw [decide_eq_false hz, Bool.and_false]
    rfl
theorem hang_held : poseOk m ls (hangs m ls zs) = true ∧ isHeld m ls zs (hangs m ls zs) = true := held_up H (d := 0) (hangs_len m ls zs) (fun k hk => by rw [hangs_getD hk]; omega) (by omega) (by omega)
theorem hang_higher : isHeld m ls zs ((hangs m ls zs).map (· + 3)) = true :=
  (held_up H (d := 3) (by rw [List.length_map, hangs_len]) (fun k hk => by
    have hk' : k < (hangs m ls zs).length := by rw [hangs_len]; exact hk
    rw [List.getD_eq_getElem?_getD, List.getElem?_map, List.getElem?_eq_getElem hk', hangs_at hk']
    rfl) (by omega) (by omega)).2
theorem hang_lower {j : Nat} (hj : j < m) : isHeld m ls zs ((hangs m ls zs).set j (hang m ls zs j - 1)) = false := by
  have hlen : ((hangs m ls zs).set j (hang m ls zs j - 1)).length = m := by rw [List.length_set, hangs_len]
  have hj' : j < (hangs m ls zs).length := by rw [hangs_len]; exact hj
  have g0 : ((hangs m ls zs).set j (hang m ls zs j - 1)).getD j 0 = hang m ls zs j - 1 := by
    rw [List.getD_eq_getElem?_getD, List.getElem?_set_self hj']
    rfl
  have g1 : ∀ k, k < m → k ≠ j → ((hangs m ls zs).set j (hang m ls zs j - 1)).getD k 0 = hang m ls zs k := fun k hk hne => by
    rw [List.getD_eq_getElem?_getD, List.getElem?_set_ne (fun e => hne e.symm), ← List.getD_eq_getElem?_getD, hangs_getD hk]
  generalize (hangs m ls zs).set j (hang m ls zs j - 1) = hs at hlen g0 g1
  obtain ⟨i, hi, h0, e⟩ := hang_is H j
  rw [Bool.eq_false_iff]
  intro hT
  unfold isHeld at hT
  rw [Bool.and_eq_true, Bool.and_eq_true, Int.toNat_natCast, List.all_eq_true] at hT
  obtain ⟨-, hp, hh⟩ := hT
  by_cases hij : i = j
  · subst hij
    rw [dist_self] at e
    have := hh i (List.mem_range.2 hj)
    unfold heldAt pulled at this
    rw [g0, decide_eq_true (show hang m ls zs i - 1 < zs.getD i 0 by omega), decide_eq_true h0] at this
    exact absurd this (by decide)
  · obtain ⟨t, ht, hx, ed⟩ := dist_last H.fits H.limbs H.run hi hj hij
    have hk := hang_at (ls := ls) (j := other (limbAt ls t) j) hi h0
    obtain ⟨-, hom, hone, -, -, -⟩ := other_spec H.fits ht hx
    have go := g1 _ hom hone
    obtain ⟨-, -, -, h4⟩ := pose_parts.1 hp
    have h4 := h4 ls[t] (List.getElem_mem ht)
    rw [← limbAt_lt ht] at h4
    rcases hx with hx | hx
    · have o1 : other (limbAt ls t) j = (limbAt ls t).b.toNat := by unfold other; rw [if_pos hx]
      rw [o1] at go hk ed
      rw [hx, Int.toNat_natCast, g0, go] at h4
      omega
    · have hne : ¬ (limbAt ls t).a = (j : Int) := fun ea => by
        obtain ⟨p, q, hp', hq', _, _, hpq, _⟩ := fits_at H.fits ht
        exact hpq (by omega)
      have o1 : other (limbAt ls t) j = (limbAt ls t).a.toNat := by unfold other; rw [if_neg hne]
      rw [o1] at go hk ed
      rw [hx, Int.toNat_natCast, g0, go] at h4
      omega

omit H in
theorem slackB_is {j : Nat} (hj : j < m) : slackB zs (hangs m ls zs) j = (decide (0 ≤ zs.getD j 0) && decide (zs.getD j 0 < hang m ls zs j)) := by
  unfold slackB
  rw [hangs_getD hj, Bool.decide_and]
theorem slacks_is : slacks m ls zs = slackTo zs (hangs m ls zs) m := by
  unfold slacks
  rw [hangPose_is H, hangs_len]
theorem lowest_is : lowest m ls zs = leastTo (hangs m ls zs) m := by
  unfold lowest
  rw [if_pos H.ok, Int.toNat_natCast]
end

theorem slackTo_has (zs hs : List Int) (k j : Nat) : hasL (slackTo zs hs k) (j : Int) = (decide (j < k) && slackB zs hs j) := by
  induction k with
  | zero => simp [slackTo, hasL]
  | succ k ih =>
    have e : hasL (slackTo zs hs (k + 1)) (j : Int) = (hasL (slackTo zs hs k) (j : Int) || hasL (if slackB zs hs k = true then [(k : Int)] else []) (j : Int)) := by
      show decide _ = _
      unfold hasL
      rw [← Bool.decide_or]
      congr 1
      exact propext List.mem_append
    rw [e, ih]
    by_cases h : j = k
    · subst h
      cases hB : slackB zs hs j <;> simp [hasL]
    · have h1 : hasL (if slackB zs hs k = true then [(k : Int)] else []) (j : Int) = false := by
        split
        · simp only [hasL, List.mem_singleton, decide_eq_false_iff_not]; omega
        · simp [hasL]
      rw [h1, Bool.or_false]
      congr 1
      exact decide_eq_decide.2 (by omega)
theorem leastTo_le {hs : List Int} {j k : Nat} (h : j < k) : leastTo hs k ≤ hs.getD j 0 := by
  induction k with
  | zero => omega
  | succ k ih =>
    show min (leastTo hs k) (hs.getD k 0) ≤ _
    by_cases e : j = k
    · subst e
      exact Int.min_le_right _ _
    · exact Int.le_trans (Int.min_le_left _ _) (ih (by omega))
theorem leastTo_ge {hs : List Int} {k : Nat} {d : Int} (h0 : d ≤ hs.getD 0 0) (h : ∀ j, j < k → d ≤ hs.getD j 0) : d ≤ leastTo hs k := by
  induction k with
  | zero => exact h0
  | succ k ih => exact Int.le_min.2 ⟨ih fun j hj => h j (by omega), h k (by omega)⟩
end Go.Proofs.Ytadbdceghnpopaa
