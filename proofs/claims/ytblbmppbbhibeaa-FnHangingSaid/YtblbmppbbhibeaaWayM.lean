/- Ways along the limbs of a valid body, as plain mathematics: between two joints there is just one way that never turns back; each limb parts the joints in two; distances. Condition: the body is valid. -/
import Derived.Test.YtblbmppbbhibeaaReachM
namespace Go.Proofs.Ytblbmppbbhibeaa
set_option linter.unusedVariables false
set_option linter.unusedSimpArgs false

/-- The joint at the other end of a limb. -/
def other (l : Lb) (x : Nat) : Nat := if l.a = (x : Int) then l.b.toNat else l.a.toNat
def touches (l : Lb) (x : Nat) : Prop := l.a = (x : Int) ∨ l.b = (x : Int)
/-- The limbs es, one behind the other, lead from x to z. -/
def isWay (ls : List Lb) : Nat → List Nat → Nat → Prop
  | x, [], z => x = z
  | x, t :: es, z => t < ls.length ∧ touches (limbAt ls t) x ∧ isWay ls (other (limbAt ls t) x) es z
/-- No limb twice in a row. -/
def noTurn : List Nat → Prop
  | [] => True
  | [_] => True
  | t :: s :: es => t ≠ s ∧ noTurn (s :: es)
theorem noTurn_tail {t : Nat} {es : List Nat} (h : noTurn (t :: es)) : noTurn es := by
  cases es with
  | nil => trivial
  | cons s es => exact h.2
theorem noTurn_left {xs ys : List Nat} (h : noTurn (xs ++ ys)) : noTurn xs := by
  induction xs with
  | nil => trivial
  | cons t xs ih =>
    cases xs with
    | nil => trivial
    | cons s xs => exact ⟨h.1, ih (noTurn_tail h)⟩

section
variable {m : Nat} {ls : List Lb}
theorem fits_at (hf : Fits m ls) {t : Nat} (ht : t < ls.length) : ∃ p q : Nat, (limbAt ls t).a = p ∧ (limbAt ls t).b = q ∧ p < m ∧ q < m ∧ p ≠ q ∧ 1 ≤ (limbAt ls t).n := by
  rw [limbAt_lt ht]
  obtain ⟨⟨a0, a1⟩, ⟨b0, b1⟩, hne, hn, _⟩ := hf ls[t] (List.getElem_mem ht)
  obtain ⟨p, hp⟩ := Int.eq_ofNat_of_zero_le a0
  obtain ⟨q, hq⟩ := Int.eq_ofNat_of_zero_le b0
  exact ⟨p, q, hp, hq, by omega, by omega, fun e => hne (by rw [hp, hq, e]), hn⟩
/-- A limb's two ends, told from one of them. -/
theorem other_spec (hf : Fits m ls) {t x : Nat} (ht : t < ls.length) (hx : touches (limbAt ls t) x) :
    x < m ∧ other (limbAt ls t) x < m ∧ other (limbAt ls t) x ≠ x ∧ touches (limbAt ls t) (other (limbAt ls t) x) ∧ other (limbAt ls t) (other (limbAt ls t) x) = x ∧ (∀ y, touches (limbAt ls t) y → y = x ∨ y = other (limbAt ls t) x) := by
  obtain ⟨p, q, hp, hq, hpm, hqm, hpq, _⟩ := fits_at hf ht
  have T : ∀ y : Nat, touches (limbAt ls t) y ↔ p = y ∨ q = y := fun y => by unfold touches; rw [hp, hq]; omega
  have O1 : other (limbAt ls t) p = q := by unfold other; rw [if_pos hp, hq, Int.toNat_natCast]
  have O2 : other (limbAt ls t) q = p := by unfold other; rw [if_neg (by rw [hp]; omega), hp, Int.toNat_natCast]
  rcases (T x).1 hx with rfl | rfl
  · rw [O1, O2]
    exact ⟨hpm, hqm, fun e => hpq e.symm, (T q).2 (.inr rfl), rfl, fun y hy => by rcases (T y).1 hy with rfl | rfl <;> simp⟩
  · rw [O2, O1]
    exact ⟨hqm, hpm, hpq, (T p).2 (.inl rfl), rfl, fun y hy => by rcases (T y).1 hy with rfl | rfl <;> simp⟩

/-- On which side of limb t is joint x? -/
def cutAt (m : Nat) (ls : List Lb) (t x : Nat) : Bool := decide ((mergeAll (ls.eraseIdx t) (apart m)).getD x 0 = (mergeAll (ls.eraseIdx t) (apart m)).getD (limbAt ls t).a.toNat 0)
/-- A limb's two sides. -/
theorem sides_at (hf : Fits m ls) (hl : ls.length + 1 = m) (hr : (joinRun m ls (apart m)).isSome = true) {t : Nat} (ht : t < ls.length) :
    (∀ x, touches (limbAt ls t) x → cutAt m ls t (other (limbAt ls t) x) ≠ cutAt m ls t x) ∧ ∀ s, s < ls.length → s ≠ t → ∀ x, touches (limbAt ls s) x → cutAt m ls t (other (limbAt ls s) x) = cutAt m ls t x := by
  unfold cutAt
  have hlt := limbAt_lt ht
  have hmem : ∀ l ∈ ls.eraseIdx t, l ∈ ls := fun l hl' => List.mem_of_mem_eraseIdx hl'
  have hf' : Fits m (ls.eraseIdx t) := fun l hl' => hf l (hmem l hl')
  have hlen : (ls.eraseIdx t).length = ls.length - 1 := List.length_eraseIdx_of_lt ht
  have hc := (run_count (ls.eraseIdx t) hf' (apart m) (labels_apart m)).2.2
  rw [held_apart, hlen] at hc
  have hlq := labels_all (ls.eraseIdx t) hf' (apart m) (labels_apart m)
  have hends := ends_joined (ls.eraseIdx t) hf' (apart m) (labels_apart m)
  generalize mergeAll (ls.eraseIdx t) (apart m) = Q at hc hlq hends
  have hin : ∀ s, s < ls.length → s ≠ t → limbAt ls s ∈ ls.eraseIdx t := by
    intro s hs hne
    rw [limbAt_lt hs, List.mem_eraseIdx_iff_getElem]
    exact ⟨s, hs, hne, rfl⟩
  obtain ⟨p, q, hp, hq, hpm, hqm, hpq, _⟩ := fits_at hf ht
  have key : ∀ l : Lb, ∀ f : Nat → Int, f l.a.toNat = f l.b.toNat → ∀ x : Nat, touches l x → 0 ≤ l.a → 0 ≤ l.b → f (other l x) = f x := by
    intro l f he x hx h0 h1
    unfold other
    rcases hx with hx | hx
    · rw [if_pos hx, ← he]
      congr 1
      omega
    · by_cases ha : l.a = (x : Int)
      · rw [if_pos ha, ← he]
        congr 1
        omega
      · rw [if_neg ha, he]
        congr 1
        omega
  have hdiff : Q.getD q 0 ≠ Q.getD p 0 := by
    intro e
    have hsame := joined_same hf hl hr (fun i => Q.getD i 0) (by
      intro l hl'
      obtain ⟨s, hs, rfl⟩ := List.mem_iff_getElem.1 hl'
      by_cases hst : s = t
      · subst hst
        rw [hlt] at hp hq
        rw [hp, hq, Int.toNat_natCast, Int.toNat_natCast]
        exact e.symm
      · have := hends _ (hin s hs hst)
        rwa [limbAt_lt hs] at this)
    obtain ⟨u0, u1⟩ := hlq.2 _ (labels_getD hlq (i := 0) (by omega))
    obtain ⟨u, hu⟩ := Int.eq_ofNat_of_zero_le u0
    have a0 : held (fun _ => false) m = 0 := by unfold held; simp
    have a1 := held_more (p := fun _ => false) (q := fun x => decide (x = u)) (m := m) (i := u) (by omega) rfl (by simp) (fun y _ hy => by simp [hy])
    have a3 : held (has Q) m ≤ held (fun x => decide (x = u)) m := held_mono fun x _ hx => by
      unfold has at hx
      rw [decide_eq_true_iff] at hx ⊢
      obtain ⟨k, hk, hx⟩ := List.mem_iff_getElem.1 hx
      have this : Q.getD k 0 = Q.getD 0 0 := hsame k 0 (by rw [← hlq.1]; exact hk) (by omega)
      rw [List.getD_eq_getElem?_getD, List.getElem?_eq_getElem hk, hu] at this
      simp only [Option.getD_some] at this
      omega
    omega
  have O1 : other (limbAt ls t) p = q := by unfold other; rw [if_pos hp, hq, Int.toNat_natCast]
  have O2 : other (limbAt ls t) q = p := by unfold other; rw [if_neg (by rw [hp]; omega), hp, Int.toNat_natCast]
  rw [hp, Int.toNat_natCast]
  refine ⟨fun x hx => ?_, fun s hs hne x hx => ?_⟩
  · unfold touches at hx
    rw [hp, hq] at hx
    show decide (Q.getD (other (limbAt ls t) x) 0 = Q.getD p 0) ≠ decide (Q.getD x 0 = Q.getD p 0)
    rcases hx with hx | hx
    · obtain rfl : p = x := by omega
      rw [O1, decide_eq_false hdiff, decide_eq_true rfl]
      decide
    · obtain rfl : q = x := by omega
      rw [O2, decide_eq_false hdiff, decide_eq_true rfl]
      decide
  · obtain ⟨p', q', hp', hq', _⟩ := fits_at hf hs
    have this : Q.getD (other (limbAt ls s) x) 0 = Q.getD x 0 := key (limbAt ls s) (fun i => Q.getD i 0) (hends _ (hin s hs hne)) x hx (by omega) (by omega)
    show decide (Q.getD (other (limbAt ls s) x) 0 = Q.getD p 0) = decide (Q.getD x 0 = Q.getD p 0)
    rw [this]

theorem sides (hf : Fits m ls) (hl : ls.length + 1 = m) (hr : (joinRun m ls (apart m)).isSome = true) {t : Nat} (ht : t < ls.length) :
    ∃ c : Nat → Bool, (∀ x, touches (limbAt ls t) x → c (other (limbAt ls t) x) ≠ c x) ∧ ∀ s, s < ls.length → s ≠ t → ∀ x, touches (limbAt ls s) x → c (other (limbAt ls s) x) = c x :=
  ⟨_, sides_at hf hl hr ht⟩
theorem way_same {c : Nat → Bool} {t : Nat} (hc : ∀ s, s < ls.length → s ≠ t → ∀ x, touches (limbAt ls s) x → c (other (limbAt ls s) x) = c x) {es : List Nat} {x z : Nat} (h : isWay ls x es z) (ht : t ∉ es) : c x = c z := by
  induction es generalizing x with
  | nil => rw [show x = z from h]
  | cons s es ih =>
    obtain ⟨hs, hx, hw⟩ := h
    rw [← hc s hs (fun e => ht (by rw [e]; simp)) x hx]
    exact ih hw (fun e => ht (List.mem_cons_of_mem _ e))
theorem way_split {xs ys : List Nat} {x z : Nat} : isWay ls x (xs ++ ys) z ↔ ∃ u, isWay ls x xs u ∧ isWay ls u ys z := by
  induction xs generalizing x with
  | nil => exact ⟨fun h => ⟨x, rfl, h⟩, fun ⟨u, e, h⟩ => by rw [show x = u from e]; exact h⟩
  | cons t xs ih =>
    constructor
    · rintro ⟨h1, h2, h3⟩
      obtain ⟨u, a, b⟩ := ih.1 h3
      exact ⟨u, ⟨h1, h2, a⟩, b⟩
    · rintro ⟨u, ⟨h1, h2, a⟩, b⟩
      exact ⟨h1, h2, ih.2 ⟨u, a, b⟩⟩

/-- A way that never turns back comes to its first limb once. -/
theorem first_once (hf : Fits m ls) (hl : ls.length + 1 = m) (hr : (joinRun m ls (apart m)).isSome = true) (n : Nat) :
    ∀ (es : List Nat) (t x z : Nat), es.length ≤ n → isWay ls x (t :: es) z → noTurn (t :: es) → t ∉ es := by
  induction n with
  | zero =>
    intro es t x z hlen _ _ hm
    rw [List.eq_nil_of_length_eq_zero (by omega : es.length = 0)] at hm
    cases hm
  | succ n ih =>
    intro es t x z hlen hw hn hm
    obtain ⟨e1, e2, rfl, hno⟩ := List.eq_append_cons_of_mem hm
    obtain ⟨ht, hx, hw⟩ := hw
    obtain ⟨u, w1, w2⟩ := way_split.1 hw
    obtain ⟨c, hc1, hc2⟩ := sides hf hl hr ht
    have s1 := way_same hc2 w1 hno
    obtain ⟨_, hu, _⟩ := w2
    have hu' : u = other (limbAt ls t) x := by
      rcases (other_spec hf ht hx).2.2.2.2.2 u hu with e | e
      · rw [e] at s1
        exact absurd s1 (hc1 x hx)
      · exact e
    rw [← hu'] at w1
    cases e1 with
    | nil => exact hn.1 rfl
    | cons s e1 =>
      have hn1 : noTurn (s :: e1) := noTurn_left (ys := t :: e2) (noTurn_tail hn)
      have hs1 := ih e1 s u u (by simp at hlen; omega) w1 hn1
      obtain ⟨hs, hsu, hw1⟩ := w1
      obtain ⟨c', hc1', hc2'⟩ := sides hf hl hr hs
      exact hc1' u hsu (way_same hc2' hw1 hs1)
/-- Which limbs a way has that never turns back: those that part its two ends. -/
theorem way_sides (hf : Fits m ls) (hl : ls.length + 1 = m) (hr : (joinRun m ls (apart m)).isSome = true) {c : Nat → Bool} {t : Nat}
    (hc1 : ∀ x, touches (limbAt ls t) x → c (other (limbAt ls t) x) ≠ c x) (hc2 : ∀ s, s < ls.length → s ≠ t → ∀ x, touches (limbAt ls s) x → c (other (limbAt ls s) x) = c x)
    {es : List Nat} {x z : Nat} (h : isWay ls x es z) (hn : noTurn es) : t ∈ es ↔ c x ≠ c z := by
  constructor
  · intro hm
    obtain ⟨e1, e2, rfl, hno⟩ := List.eq_append_cons_of_mem hm
    obtain ⟨u, w1, w2⟩ := way_split.1 h
    have s1 := way_same hc2 w1 hno
    have hn2 : noTurn (t :: e2) := by
      clear h w1 w2 hm hno
      induction e1 with
      | nil => exact hn
      | cons a e1 ih => exact ih (noTurn_tail hn)
    have ho := first_once hf hl hr _ e2 t u z (Nat.le_refl _) w2 hn2
    obtain ⟨ht, hu, hw2⟩ := w2
    have s2 := way_same hc2 hw2 ho
    rw [s1, ← s2]
    exact fun e => hc1 u hu e.symm
  · intro hne
    exact Classical.byContradiction fun hm => hne (way_same hc2 h hm)
/-- There is just one way that never turns back. -/
theorem way_one (hf : Fits m ls) (hl : ls.length + 1 = m) (hr : (joinRun m ls (apart m)).isSome = true) {es es' : List Nat} {x z : Nat} (h : isWay ls x es z) (hn : noTurn es) (h' : isWay ls x es' z) (hn' : noTurn es') : es = es' := by
  induction es generalizing x es' with
  | nil =>
    cases es' with
    | nil => rfl
    | cons t es' =>
      have ho := first_once hf hl hr _ es' t x z (Nat.le_refl _) h' hn'
      obtain ⟨ht, hx, hw⟩ := h'
      obtain ⟨c, hc1, hc2⟩ := sides hf hl hr ht
      have := way_same hc2 hw ho
      rw [← show x = z from h] at this
      exact absurd this (hc1 x hx)
  | cons t es ih =>
    cases es' with
    | nil =>
      have ho := first_once hf hl hr _ es t x z (Nat.le_refl _) h hn
      obtain ⟨ht, hx, hw⟩ := h
      obtain ⟨c, hc1, hc2⟩ := sides hf hl hr ht
      have := way_same hc2 hw ho
      rw [← show x = z from h'] at this
      exact absurd this (hc1 x hx)
    | cons t' es' =>
      by_cases e : t = t'
      · subst e
        rw [ih h.2.2 (noTurn_tail hn) h'.2.2 (noTurn_tail hn')]
      · exfalso
        obtain ⟨ht, hx, hw⟩ := id h
        obtain ⟨c, hc1, hc2⟩ := sides hf hl hr ht
        have hm : t ∈ t' :: es' := (way_sides hf hl hr hc1 hc2 h' hn').2 ((way_sides hf hl hr hc1 hc2 h hn).1 (by simp))
        have hm' : t ∈ es' := by
          rcases List.mem_cons.1 hm with a | a
          · exact absurd a e
          · exact a
        obtain ⟨f1, f2, rfl, hno⟩ := List.eq_append_cons_of_mem hm'
        have hsp : isWay ls x ((t' :: f1) ++ t :: f2) z := h'
        obtain ⟨u, w1, w2⟩ := way_split.1 hsp
        have hno' : t ∉ t' :: f1 := by
          intro a
          rcases List.mem_cons.1 a with a | a
          · exact e a
          · exact hno a
        have s1 := way_same hc2 w1 hno'
        obtain ⟨_, hu, _⟩ := w2
        have hux : u = x := by
          rcases (other_spec hf ht hx).2.2.2.2.2 u hu with a | a
          · exact a
          · rw [a] at s1
            exact absurd s1.symm (hc1 x hx)
        rw [hux] at w1
        have ho := first_once hf hl hr _ f1 t' x x (Nat.le_refl _) w1 (noTurn_left (xs := t' :: f1) (ys := t :: f2) hn')
        obtain ⟨ht', hx', hw1⟩ := w1
        obtain ⟨c', hc1', hc2'⟩ := sides hf hl hr ht'
        exact hc1' x hx' (way_same hc2' hw1 ho)
/-- From each joint a way leads to each. -/
theorem way_some (hf : Fits m ls) (hl : ls.length + 1 = m) (hr : (joinRun m ls (apart m)).isSome = true) {x z : Nat} (hx : x < m) (hz : z < m) : ∃ es, isWay ls x es z ∧ noTurn es := by
  have hone : ∀ (t y : Nat), t < ls.length → touches (limbAt ls t) y → (∃ es, isWay ls y es z ∧ noTurn es) → ∃ es, isWay ls (other (limbAt ls t) y) es z ∧ noTurn es := by
    rintro t y ht hy ⟨es, hw, hn⟩
    have ho := other_spec hf ht hy
    cases es with
    | nil => exact ⟨[t], ⟨ht, ho.2.2.2.1, by rw [ho.2.2.2.2.1]; exact hw⟩, trivial⟩
    | cons s es =>
      by_cases e : t = s
      · subst e
        exact ⟨es, hw.2.2, noTurn_tail hn⟩
      · exact ⟨t :: s :: es, ⟨ht, ho.2.2.2.1, by rw [ho.2.2.2.2.1]; exact hw⟩, e, hn⟩
  have hsame := joined_same hf hl hr (fun y => (∃ es, isWay ls y es z ∧ noTurn es : Prop)) (by
    intro l hl'
    obtain ⟨t, ht, rfl⟩ := List.mem_iff_getElem.1 hl'
    obtain ⟨p, q, hp, hq, _⟩ := fits_at hf ht
    have h1 := hone t p ht (.inl hp)
    have h2 := hone t q ht (.inr hq)
    have ep : other (limbAt ls t) p = q := by unfold other; rw [if_pos hp, hq, Int.toNat_natCast]
    have eq : other (limbAt ls t) q = p := by
      have := other_spec hf ht (x := p) (.inl hp)
      rw [ep] at this
      exact this.2.2.2.2.1
    rw [ep] at h1
    rw [eq] at h2
    rw [limbAt_lt ht] at hp hq
    rw [hp, hq, Int.toNat_natCast, Int.toNat_natCast]
    exact propext ⟨h1, h2⟩) z x hz hx
  have : (∃ es, isWay ls z es z ∧ noTurn es) := ⟨[], rfl, trivial⟩
  rwa [show (∃ es, isWay ls z es z ∧ noTurn es) = (∃ es, isWay ls x es z ∧ noTurn es) from hsame] at this

/-- The lengths of the limbs of a way together. -/
def wayLen (ls : List Lb) : List Nat → Int
  | [] => 0
  | t :: es => (limbAt ls t).n + wayLen ls es
/-- The lengths of those of the first k limbs that p picks. -/
def pick (ls : List Lb) (p : Nat → Bool) : Nat → Int
  | 0 => 0
  | k + 1 => pick ls p k + if p k = true then (limbAt ls k).n else 0
theorem pick_same {p q : Nat → Bool} {k : Nat} (h : ∀ t, t < k → p t = q t) : pick ls p k = pick ls q k := by
  induction k with
  | zero => rfl
  | succ k ih => show pick ls p k + _ = pick ls q k + _; rw [ih (fun t ht => h t (by omega)), h k (by omega)]
theorem pick_none {p : Nat → Bool} {k : Nat} (h : ∀ t, t < k → p t = false) : pick ls p k = 0 := by
  induction k with
  | zero => rfl
  | succ k ih =>
    show pick ls p k + _ = 0
    rw [ih (fun t ht => h t (by omega)), h k (by omega)]
    simp
theorem pick_more {p q : Nat → Bool} {k i : Nat} (hi : i < k) (h0 : p i = false) (h1 : q i = true) (h : ∀ j, j < k → j ≠ i → p j = q j) : pick ls p k + (limbAt ls i).n = pick ls q k := by
  induction k with
  | zero => omega
  | succ k ih =>
    show (pick ls p k + _) + _ = pick ls q k + _
    by_cases e : i = k
    · subst e
      rw [h0, h1, pick_same (fun j hj => h j (by omega) (by omega))]
      simp
    · have := ih (by omega) (fun j hj hne => h j (by omega) hne)
      rw [h k (by omega) (fun x => e x.symm)]
      omega
theorem pick_sub {p q r : Nat → Bool} {k : Nat} (hn : ∀ t, t < k → 0 ≤ (limbAt ls t).n) (h : ∀ t, t < k → p t = true → q t = true ∨ r t = true) : pick ls p k ≤ pick ls q k + pick ls r k := by
  induction k with
  | zero => simp [pick]
  | succ k ih =>
    have := ih (fun t ht => hn t (by omega)) (fun t ht => h t (by omega))
    have hk := hn k (by omega)
    have hp := h k (by omega)
    show pick ls p k + _ ≤ (pick ls q k + _) + (pick ls r k + _)
    by_cases a : p k = true
    · rw [if_pos a]
      rcases hp a with b | b
      · rw [if_pos b]
        split <;> omega
      · rw [if_pos b]
        split <;> omega
    · rw [if_neg a]
      split <;> split <;> omega
/-- Each limb of a way that never turns back comes once. -/
theorem way_nodup (hf : Fits m ls) (hl : ls.length + 1 = m) (hr : (joinRun m ls (apart m)).isSome = true) {es : List Nat} {x z : Nat} (h : isWay ls x es z) (hn : noTurn es) : es.Nodup ∧ ∀ t ∈ es, t < ls.length := by
  induction es generalizing x with
  | nil => exact ⟨List.nodup_nil, fun t ht => by cases ht⟩
  | cons t es ih =>
    obtain ⟨h1, h2⟩ := ih h.2.2 (noTurn_tail hn)
    refine ⟨List.nodup_cons.2 ⟨first_once hf hl hr _ es t x z (Nat.le_refl _) h hn, h1⟩, fun s hs => ?_⟩
    rcases List.mem_cons.1 hs with rfl | hs
    · exact h.1
    · exact h2 s hs
theorem wayLen_pick {es : List Nat} {k : Nat} (h1 : es.Nodup) (h2 : ∀ t ∈ es, t < k) : wayLen ls es = pick ls (fun t => decide (t ∈ es)) k := by
  induction es with
  | nil => exact (pick_none (fun t _ => by simp)).symm
  | cons s es ih =>
    obtain ⟨a, b⟩ := List.nodup_cons.1 h1
    have := pick_more (ls := ls) (p := fun t => decide (t ∈ es)) (q := fun t => decide (t ∈ s :: es)) (k := k) (i := s) (h2 s (by simp)) (by simpa using a) (by simp) (fun j _ hj => by simp [hj])
    show (limbAt ls s).n + wayLen ls es = _
    rw [ih b (fun t ht => h2 t (List.mem_cons_of_mem _ ht)), ← this]
    omega
/-- At most as many limbs as there are. -/
theorem way_count {es : List Nat} {k : Nat} (h1 : es.Nodup) (h2 : ∀ t ∈ es, t < k) : es.length ≤ k := by
  have : ∀ es : List Nat, es.Nodup → (∀ t ∈ es, t < k) → es.length = held (fun t => decide (t ∈ es)) k := by
    intro es
    induction es with
    | nil => exact fun _ _ => (show held (fun t => decide (t ∈ ([] : List Nat))) k = 0 by rw [held_same (q := fun _ => false) (fun i _ => by simp)]; unfold held; simp).symm
    | cons s es ih =>
      intro h1 h2
      obtain ⟨a, b⟩ := List.nodup_cons.1 h1
      have := held_more (p := fun t => decide (t ∈ es)) (q := fun t => decide (t ∈ s :: es)) (m := k) (i := s) (h2 s (by simp)) (by simpa using a) (by simp) (fun j _ hj => by simp [hj])
      rw [List.length_cons, ih b (fun t ht => h2 t (List.mem_cons_of_mem _ ht)), this]
  rw [this es h1 h2]
  exact held_le _ _

/-- How far two joints are apart: the limbs that part them. -/
def dist (m : Nat) (ls : List Lb) (x z : Nat) : Int := pick ls (fun t => cutAt m ls t x != cutAt m ls t z) ls.length
theorem dist_way (hf : Fits m ls) (hl : ls.length + 1 = m) (hr : (joinRun m ls (apart m)).isSome = true) {es : List Nat} {x z : Nat} (h : isWay ls x es z) (hn : noTurn es) : wayLen ls es = dist m ls x z := by
  obtain ⟨h1, h2⟩ := way_nodup hf hl hr h hn
  rw [wayLen_pick h1 h2]
  refine pick_same fun t ht => ?_
  obtain ⟨c1, c2⟩ := sides_at hf hl hr ht
  have := way_sides hf hl hr c1 c2 h hn
  by_cases a : t ∈ es
  · rw [decide_eq_true a]
    exact (bne_iff_ne.2 (this.1 a)).symm
  · rw [decide_eq_false a]
    symm
    simpa using fun e => a (this.2 e)
theorem limb_pos (hf : Fits m ls) {t : Nat} (ht : t < ls.length) : 1 ≤ (limbAt ls t).n ∧ (limbAt ls t).n ≤ 100 := by
  rw [limbAt_lt ht]
  exact (hf ls[t] (List.getElem_mem ht)).2.2.2
theorem dist_comm (x z : Nat) : dist m ls x z = dist m ls z x := pick_same fun t _ => by cases cutAt m ls t x <;> cases cutAt m ls t z <;> rfl
theorem dist_self (x : Nat) : dist m ls x x = 0 := pick_none fun t _ => by simp
theorem dist_three (hf : Fits m ls) (x y z : Nat) : dist m ls x z ≤ dist m ls x y + dist m ls y z :=
  pick_sub (fun t ht => by have := limb_pos hf ht; omega) (fun t _ h => by
    revert h
    cases cutAt m ls t x <;> cases cutAt m ls t y <;> cases cutAt m ls t z <;> simp)
theorem pick_range (hf : Fits m ls) (p : Nat → Bool) {k : Nat} (hk : k ≤ ls.length) : 0 ≤ pick ls p k ∧ pick ls p k ≤ 100 * (k : Int) := by
  induction k with
  | zero => exact ⟨by simp [pick], by simp [pick]⟩
  | succ k ih =>
    have := ih (by omega)
    have := limb_pos hf (t := k) (by omega)
    show 0 ≤ pick ls p k + _ ∧ pick ls p k + _ ≤ _
    split <;> omega
theorem dist_range (hf : Fits m ls) (x z : Nat) : 0 ≤ dist m ls x z ∧ dist m ls x z ≤ 100 * (ls.length : Int) := pick_range hf _ (Nat.le_refl _)
theorem dist_zero (hf : Fits m ls) (hl : ls.length + 1 = m) (hr : (joinRun m ls (apart m)).isSome = true) {x z : Nat} (hx : x < m) (hz : z < m) : dist m ls x z = 0 ↔ x = z := by
  constructor
  · intro h
    obtain ⟨es, hw, hn⟩ := way_some hf hl hr hx hz
    rw [← dist_way hf hl hr hw hn] at h
    cases es with
    | nil => exact hw
    | cons t es =>
      exfalso
      have h1 := limb_pos hf hw.1
      have h2 : 0 ≤ wayLen ls es := by
        rw [dist_way hf hl hr hw.2.2 (noTurn_tail hn)]
        exact (dist_range hf _ _).1
      have : (limbAt ls t).n + wayLen ls es = 0 := h
      omega
  · rintro rfl
    exact dist_self x
end
end Go.Proofs.Ytblbmppbbhibeaa
