/- A control as it is drawn: what is known of it, and what the law asks of it; as plain mathematics. -/
import Derived.Test.YtigiechidcndpaaCtlM
namespace Go.Proofs.Ytigiechidcndpaa
set_option linter.unusedVariables false

/-- Arms as they are drawn. -/
def ArmsD (zs : List Int) : Prop := ∀ z ∈ zs, -10 ≤ z ∧ z ≤ 10
/-- Cords as they are drawn for the first j joints, on n arms. -/
structure CordsD (n j : Nat) (cs : List Lb) : Prop where
  all : ∀ k (h : k < cs.length), (0 ≤ cs[k].a ∧ cs[k].a < n) ∧ (0 ≤ cs[k].b ∧ cs[k].b < j) ∧ (0 ≤ cs[k].n ∧ cs[k].n < 60)
  apart : ∀ i k (hi : i < k) (hk : k < cs.length), cs[i].b ≠ cs[k].b
  held : (heldTo cs j).length = cs.length
  len : cs.length ≤ j
theorem arms_more {zs : List Int} {x : Int} (h : ArmsD zs) (h0 : -10 ≤ x) (h1 : x ≤ 10) : ArmsD (zs ++ [x]) := fun z hz => by
  rcases List.mem_append.1 hz with hz | hz
  · exact h z hz
  · rw [List.mem_singleton] at hz
    subst hz
    exact ⟨h0, h1⟩
theorem cordsD_nil (n : Nat) : CordsD n 0 [] := ⟨fun k h => absurd h (by simp), fun i k hi hk => absurd hk (by simp), rfl, by simp⟩
theorem heldB_no {n j i : Nat} {cs : List Lb} (h : CordsD n j cs) (hi : j ≤ i) : heldB cs i = false := by
  unfold heldB
  rw [List.any_eq_false]
  intro c hc
  obtain ⟨k, hk, rfl⟩ := List.getElem_of_mem hc
  have := (h.all k hk).2.1.2
  simp only [decide_eq_true_eq]
  omega
theorem cordsD_skip {n j : Nat} {cs : List Lb} (h : CordsD n j cs) : CordsD n (j + 1) cs := by
  refine ⟨fun k hk => ?_, h.apart, ?_, by have := h.len; omega⟩
  · have := h.all k hk
    omega
  · rw [heldTo, heldB_no h (Nat.le_refl _)]
    simpa using h.held
theorem heldB_app {cs : List Lb} {c : Lb} {i : Nat} : heldB (cs ++ [c]) i = (heldB cs i || decide (c.b = (i : Int))) := by
  unfold heldB
  rw [List.any_append]
  simp
theorem heldTo_app {cs : List Lb} {c : Lb} {j : Nat} (hc : c.b = (j : Int)) (i : Nat) (hi : i ≤ j) : heldTo (cs ++ [c]) i = heldTo cs i := by
  induction i with
  | zero => rfl
  | succ i ih =>
    rw [heldTo, heldTo, ih (by omega), heldB_app, hc, decide_eq_false (show ¬ (j : Int) = (i : Int) by omega), Bool.or_false]
theorem cordsD_more {n j : Nat} {cs : List Lb} {a d : Int} (h : CordsD n j cs) (ha : 0 ≤ a ∧ a < n) (hd : 0 ≤ d ∧ d < 60) : CordsD n (j + 1) (cs ++ [⟨a, (j : Int), d⟩]) := by
  refine ⟨fun k hk => ?_, fun i k hi hk => ?_, ?_, by have := h.len; simp; omega⟩
  · by_cases e : k < cs.length
    · rw [List.getElem_append_left e]
      have := h.all k e
      omega
    · obtain rfl : k = cs.length := by simp at hk; omega
      rw [List.getElem_append_right (Nat.le_refl _)]
      simp only [Nat.sub_self, List.getElem_cons_zero]
      omega
  · by_cases e : k < cs.length
    · rw [List.getElem_append_left e, List.getElem_append_left (show i < cs.length by omega)]
      exact h.apart i k hi e
    · obtain rfl : k = cs.length := by simp at hk; omega
      rw [List.getElem_append_left hi, List.getElem_append_right (Nat.le_refl _)]
      simp only [Nat.sub_self, List.getElem_cons_zero]
      have := (h.all i hi).2.1.2
      omega
  · rw [heldTo, heldTo_app rfl j (Nat.le_refl _), heldB_app]
    simp [h.held]

/-- All that the drawing gives. -/
structure CtlD (H : Int) (zs : List Int) (cs : List Lb) : Prop where
  high : 20 ≤ H ∧ H < 80
  many : 1 ≤ zs.length ∧ zs.length ≤ 5
  arms : ArmsD zs
  cords : CordsD zs.length 7 cs
theorem CtlD.arm {H : Int} {zs : List Int} {cs : List Lb} (h : CtlD H zs cs) {k : Nat} (hk : k < zs.length) : -10 ≤ zs[k] ∧ zs[k] ≤ 10 := h.arms _ (List.getElem_mem hk)
theorem once_of {cs : List Lb} (h : ∀ i k (hi : i < k) (hk : k < cs.length), cs[i].b ≠ cs[k].b) (m : Nat) (hm : m ≤ cs.length) : onceTo cs m = true := by
  induction m with
  | zero => rfl
  | succ m ih =>
    rw [once_more hm, ih (by omega), Bool.true_and, List.all_eq_true]
    intro c hc
    obtain ⟨i, hi, rfl⟩ := List.getElem_of_mem hc
    have hi' : i < m := by rw [List.length_take] at hi; omega
    unfold apartFrom
    rw [List.getElem_take]
    exact decide_eq_true (h i m hi' hm)
theorem CtlD.ok {H : Int} {zs : List Int} {cs : List Lb} (h : CtlD H zs cs) (d : Int) (h0 : 0 ≤ d) (h1 : d < 20) : ctlOk (H + d) zs cs 7 = true := by
  have hl := h.cords.len
  have hm := h.many
  have hh := h.high
  refine ctl_yes ?_ ?_ ?_ (once_of h.cords.apart _ (Nat.le_refl _))
  · unfold ctlHead
    rw [inB_yes (by omega), inB_yes (by omega), decide_eq_true (by omega)]
    rfl
  · rw [List.take_length, List.all_eq_true]
    intro z hz
    have := h.arms z hz
    exact inB_yes (by omega)
  · rw [List.take_length, List.all_eq_true]
    intro c hc
    obtain ⟨k, hk, rfl⟩ := List.getElem_of_mem hc
    have := h.cords.all k hk
    unfold cordB
    rw [inB_yes (by omega), inB_yes (by omega), inB_yes (by omega)]
    rfl
theorem CtlD.lift {H : Int} {zs : List Int} {cs : List Lb} (h : CtlD H zs cs) (d : Int) (h0 : 0 ≤ d) (h1 : d < 20) : liftOk H d = true ∧ liftH H d = H + d := by
  have hh := h.high
  have e : liftOk H d = true := by
    unfold liftOk
    rw [inB_yes (by omega), inB_yes (by omega), inB_yes (by omega)]
    rfl
  exact ⟨e, by unfold liftH; rw [if_pos e]⟩
theorem heldTo_late {n j : Nat} {cs : List Lb} (h : CordsD n j cs) (d : Nat) : heldTo cs (j + d) = heldTo cs j := by
  induction d with
  | zero => rfl
  | succ d ih =>
    rw [← Nat.add_assoc, heldTo, ih, heldB_no h (by omega)]
    simp
theorem CtlD.held {H : Int} {zs : List Int} {cs : List Lb} (h : CtlD H zs cs) : (jointsHeld cs).length = cs.length := by
  unfold jointsHeld
  rw [heldTo_late h.cords 5, h.cords.held]
theorem held_mem {cs : List Lb} {m : Nat} {j : Nat} : (j : Int) ∈ heldTo cs m ↔ j < m ∧ heldB cs j = true := by
  induction m with
  | zero => simp [heldTo]
  | succ m ih =>
    rw [heldTo, List.mem_append, ih]
    by_cases e : heldB cs m = true
    · rw [if_pos e, List.mem_singleton]
      refine ⟨fun h => h.elim (fun h => ⟨by omega, h.2⟩) (fun h => ?_), fun h => ?_⟩
      · obtain rfl : j = m := by omega
        exact ⟨by omega, e⟩
      · by_cases hj : j = m
        · exact .inr (by rw [hj])
        · exact .inl ⟨by omega, h.2⟩
    · rw [if_neg e]
      refine ⟨fun h => h.elim (fun h => ⟨by omega, h.2⟩) (fun h => absurd h (by simp)), fun h => .inl ⟨?_, h.2⟩⟩
      have : j ≠ m := fun x => e (x ▸ h.2)
      omega
/-- How the pulls before and behind a lift lie to each other. -/
def Lifted (b : Bool) (p q d : Int) : Prop := (b = decide (0 ≤ p)) ∧ (p < 0 ↔ q < 0) ∧ p ≤ q ∧ q ≤ p + d ∧ (0 < p → q = p + d) ∧ -1 ≤ p ∧ p ≤ 200
theorem CtlD.pulls {H : Int} {zs : List Int} {cs : List Lb} (h : CtlD H zs cs) (d : Int) (h0 : 0 ≤ d) (h1 : d < 20) (k : Nat) (hk : k ≤ cs.length) (j : Nat) (hj : j < 7) :
    Lifted ((cs.take k).any fun c => decide (c.b = (j : Int))) ((pullsTo H zs cs 7 k).getD j 0) ((pullsTo (H + d) zs cs 7 k).getD j 0) d := by
  induction k with
  | zero =>
    have e : ∀ H', (pullsTo H' zs cs 7 0).getD j 0 = -1 := fun H' => by
      rw [pullsTo, List.getD_eq_getElem?_getD, List.getElem?_replicate, if_pos hj]
      rfl
    rw [e, e]
    exact ⟨by simp, by omega, by omega, by omega, by omega, by omega, by omega⟩
  | succ k ih =>
    have ih := ih (by omega)
    obtain ⟨⟨a0, a1⟩, ⟨q0, q1⟩, n0, n1⟩ := h.cords.all k hk
    obtain ⟨p, hp⟩ := Int.eq_ofNat_of_zero_le a0
    obtain ⟨q, hq⟩ := Int.eq_ofNat_of_zero_le q0
    have hpz : p < zs.length := by omega
    have hz := h.arm hpz
    have hh := h.high
    rw [any_upto hk, pullsTo_more (n := 7) hk hq hp hpz, pullsTo_more (n := 7) hk hq hp hpz, hq]
    generalize zs[p] = z at hz
    generalize cs[k].n = m at n0 n1
    by_cases e : q = j
    · subst e
      have g : ∀ H' x, ((pullsTo H' zs cs 7 k).set q x).getD q 0 = x := fun H' x => by
        rw [List.getD_eq_getElem?_getD, List.getElem?_set_self (by rw [pullsTo_len]; exact hj)]
        rfl
      rw [g, g, decide_eq_true rfl, Bool.or_true]
      exact ⟨(decide_eq_true (by omega)).symm, by omega, by omega, by omega, by omega, by omega, by omega⟩
    · have g : ∀ H' x, ((pullsTo H' zs cs 7 k).set q x).getD j 0 = (pullsTo H' zs cs 7 k).getD j 0 := fun H' x => by
        rw [List.getD_eq_getElem?_getD, List.getElem?_set_ne e, ← List.getD_eq_getElem?_getD]
      rw [g, g, decide_eq_false (show ¬ (q : Int) = (j : Int) by omega), Bool.or_false]
      exact ih
/-- What the law looks at, for joint j. -/
theorem CtlD.at {H : Int} {zs : List Int} {cs : List Lb} (h : CtlD H zs cs) (d : Int) (h0 : 0 ≤ d) (h1 : d < 20) (j : Nat) (hj : j < 7) :
    Lifted (decide ((j : Int) ∈ jointsHeld cs)) ((pullsOf H zs cs 7).getD j 0) ((pullsOf (H + d) zs cs 7).getD j 0) d := by
  have e0 := h.ok 0 (by omega) (by omega)
  rw [Int.add_zero] at e0
  have e : ∀ H', ctlOk H' zs cs 7 = true → pullsOf H' zs cs 7 = pullsTo H' zs cs 7 cs.length := fun H' x => by
    unfold pullsOf
    rw [if_pos ⟨x, by omega⟩]
    rfl
  rw [e _ e0, e _ (h.ok d h0 h1)]
  have := h.pulls d h0 h1 cs.length (Nat.le_refl _) j hj
  rw [List.take_length] at this
  have hm : decide ((j : Int) ∈ jointsHeld cs) = cs.any fun c => decide (c.b = (j : Int)) := by
    unfold jointsHeld
    rw [Bool.eq_iff_iff, decide_eq_true_eq, held_mem]
    exact ⟨fun x => x.2, fun x => ⟨by omega, x⟩⟩
  rw [hm]
  exact this
theorem CtlD.plen {H : Int} {zs : List Int} {cs : List Lb} (h : CtlD H zs cs) (d : Int) (h0 : 0 ≤ d) (h1 : d < 20) : (pullsOf (H + d) zs cs 7).length = 7 := by
  unfold pullsOf
  rw [if_pos ⟨h.ok d h0 h1, by omega⟩, pullsTo_len]
  rfl

/-- The sum of the changes of the first k arms. -/
def sumTo (ts zs : List Int) : Nat → Int
  | 0 => 0
  | k + 1 => sumTo ts zs k + ts.getD k 0 - zs.getD k 0
theorem sum_same (zs : List Int) (k : Nat) : sumTo zs zs k = 0 := by
  induction k with
  | zero => rfl
  | succ k ih => rw [sumTo, ih]; omega
theorem sum_two {zs : List Int} {p q : Nat} (hp : p < zs.length) (hq : q < zs.length) (h : q ≠ p) (k : Nat) : sumTo ((zs.set p (zs[p] + 3)).set q (zs[q] - 3)) zs k = (if p < k then 3 else 0) - (if q < k then 3 else 0) := by
  have gd : ∀ (i : Nat) (hi : i < zs.length), zs.getD i 0 = zs[i] := fun i hi => by rw [List.getD_eq_getElem?_getD, List.getElem?_eq_getElem hi]; rfl
  induction k with
  | zero => rfl
  | succ k ih =>
    rw [sumTo, ih]
    by_cases e1 : k = q
    · subst e1
      have : ((zs.set p (zs[p] + 3)).set k (zs[k] - 3)).getD k 0 = zs[k] - 3 := by
        rw [List.getD_eq_getElem?_getD, List.getElem?_set_self (by simpa using hq)]
        rfl
      rw [this, gd k hq]
      split <;> split <;> split <;> split <;> omega
    · by_cases e2 : k = p
      · subst e2
        have : ((zs.set k (zs[k] + 3)).set q (zs[q] - 3)).getD k 0 = zs[k] + 3 := by
          rw [List.getD_eq_getElem?_getD, List.getElem?_set_ne (Ne.symm e1), List.getElem?_set_self hp]
          rfl
        rw [this, gd k hp]
        split <;> split <;> split <;> split <;> omega
      · have : ((zs.set p (zs[p] + 3)).set q (zs[q] - 3)).getD k 0 = zs.getD k 0 := by
          rw [List.getD_eq_getElem?_getD, List.getElem?_set_ne (Ne.symm e1), List.getElem?_set_ne (Ne.symm e2), ← List.getD_eq_getElem?_getD]
        rw [this]
        split <;> split <;> split <;> split <;> omega
/-- The law's tilt, and the tilt back. -/
theorem CtlD.tilt {H : Int} {zs : List Int} {cs : List Lb} (h : CtlD H zs cs) {p : Nat} (hp : p < zs.length) :
    ∃ ts : List Int, tiltZs zs (p : Int) 3 = ts ∧ tiltOk zs (p : Int) 3 = true ∧ ts.length = zs.length ∧ tiltZs ts (p : Int) (-3) = zs ∧ tiltOk ts (p : Int) (-3) = true ∧
      (∀ k (hk : k < ts.length), -13 ≤ ts[k] ∧ ts[k] ≤ 13) ∧ (∀ k, -3 ≤ sumTo ts zs k ∧ sumTo ts zs k ≤ 3) ∧ sumTo ts zs zs.length = 0 := by
  have hm := h.many
  obtain ⟨q, hq⟩ := Int.eq_ofNat_of_zero_le (show 0 ≤ (zs.length : Int) - 1 - (p : Int) by omega)
  have hqz : q < zs.length := by omega
  have gd : ∀ (l : List Int) (i : Nat) (hi : i < l.length), l.getD i 0 = l[i] := fun l i hi => by rw [List.getD_eq_getElem?_getD, List.getElem?_eq_getElem hi]; rfl
  have HD : ∀ (l : List Int) (m : Int), l.length = zs.length → -50 ≤ m → m ≤ 50 → tiltHead l (p : Int) m = true := fun l m hl h0 h1 => by
    unfold tiltHead
    rw [hl, decide_eq_true (by omega), inB_yes (by omega), inB_yes (by omega)]
    rfl
  have HA : ∀ l : List Int, (∀ k (hk : k < l.length), -13 ≤ l[k] ∧ l[k] ≤ 13) → l.all armB = true := fun l hl => by
    rw [List.all_eq_true]
    intro z hz
    obtain ⟨k, hk, rfl⟩ := List.getElem_of_mem hz
    have := hl k hk
    exact inB_yes (by omega)
  have A0 : ∀ k (hk : k < zs.length), -13 ≤ zs[k] ∧ zs[k] ≤ 13 := fun k hk => by have := h.arm hk; omega
  by_cases e : q = p
  · have SF : ∀ l : List Int, l.length = zs.length → tiltSelf l (p : Int) = true := fun l hl => by unfold tiltSelf; rw [hl, hq, e]; exact decide_eq_true rfl
    have TZ : ∀ m, tiltZs zs (p : Int) m = zs := fun m => by unfold tiltZs; rw [if_neg (by simp [SF zs rfl])]
    have TO : ∀ m, -50 ≤ m → m ≤ 50 → tiltOk zs (p : Int) m = true := fun m h0 h1 => by unfold tiltOk; rw [HD zs m rfl h0 h1, HA zs A0, SF zs rfl]; rfl
    exact ⟨zs, TZ 3, TO 3 (by omega) (by omega), rfl, TZ (-3), TO (-3) (by omega) (by omega), A0, fun k => by rw [sum_same]; omega, sum_same zs _⟩
  · have SF : ∀ l : List Int, l.length = zs.length → tiltSelf l (p : Int) = false := fun l hl => by unfold tiltSelf; rw [hl, hq]; exact decide_eq_false (by omega)
    have FT : ∀ (l : List Int) (m : Int) (hl : l.length = zs.length), tiltFits l (p : Int) m = (inB (l[p]'(by omega) + m) (-50) 50 && inB (l[q]'(by omega) - m) (-50) 50) := fun l m hl => by
      have hl' : (l.length : Int) - 1 - (p : Int) = (q : Int) := by rw [hl]; exact hq
      unfold tiltFits
      rw [hl', Int.toNat_natCast, Int.toNat_natCast, gd l p (by omega), gd l q (by omega)]
    have TO : ∀ (l : List Int) (m : Int) (hl : l.length = zs.length), (∀ k (hk : k < l.length), -13 ≤ l[k] ∧ l[k] ≤ 13) → -3 ≤ m → m ≤ 3 → tiltOk l (p : Int) m = true := fun l m hl hr h0 h1 => by
      have r1 := hr p (by omega)
      have r2 := hr q (by omega)
      unfold tiltOk
      rw [HD l m hl (by omega) (by omega), HA l hr, FT l m hl, inB_yes (by omega), inB_yes (by omega)]
      simp
    have TZ : ∀ (l : List Int) (m : Int) (hl : l.length = zs.length), tiltOk l (p : Int) m = true → tiltZs l (p : Int) m = (l.set p (l[p]'(by omega) + m)).set q (l[q]'(by omega) - m) := fun l m hl hok => by
      have hl' : (l.length : Int) - 1 - (p : Int) = (q : Int) := by rw [hl]; exact hq
      unfold tiltZs
      rw [if_pos ⟨hok, SF l hl⟩, hl', Int.toNat_natCast, Int.toNat_natCast, gd l p (by omega), gd l q (by omega)]
    have o1 := TO zs 3 rfl A0 (by omega) (by omega)
    have L : ((zs.set p (zs[p] + 3)).set q (zs[q] - 3)).length = zs.length := by simp
    have gp : ((zs.set p (zs[p] + 3)).set q (zs[q] - 3))[p]'(by omega) = zs[p] + 3 := by rw [List.getElem_set_ne e, List.getElem_set_self]
    have gq : ((zs.set p (zs[p] + 3)).set q (zs[q] - 3))[q]'(by omega) = zs[q] - 3 := by rw [List.getElem_set_self]
    have A1 : ∀ k (hk : k < ((zs.set p (zs[p] + 3)).set q (zs[q] - 3)).length), -13 ≤ ((zs.set p (zs[p] + 3)).set q (zs[q] - 3))[k] ∧ ((zs.set p (zs[p] + 3)).set q (zs[q] - 3))[k] ≤ 13 := fun k hk => by
      have rp := h.arm hp
      have rq := h.arm hqz
      have rk := h.arm (show k < zs.length by omega)
      rw [List.getElem_set, List.getElem_set]
      split
      · omega
      · split <;> omega
    have o2 := TO _ (-3) L A1 (by omega) (by omega)
    refine ⟨_, TZ zs 3 rfl o1, o1, L, ?_, o2, A1, fun k => ?_, ?_⟩
    · rw [TZ _ (-3) L o2]
      rw [gp, gq]
      apply List.ext_getElem (by simp)
      intro k h1 h2
      rw [List.getElem_set, List.getElem_set, List.getElem_set, List.getElem_set]
      by_cases e1 : q = k
      · subst e1
        rw [if_pos rfl]
        omega
      · rw [if_neg e1]
        by_cases e2 : p = k
        · subst e2
          rw [if_pos rfl]
          omega
        · rw [if_neg e2, if_neg e1, if_neg e2]
    · rw [sum_two hp hqz e]
      split <;> split <;> omega
    · rw [sum_two hp hqz e, if_pos hp, if_pos hqz]
      rfl
end Go.Proofs.Ytigiechidcndpaa
