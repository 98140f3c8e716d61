/- The search for a way, as plain mathematics: what is still to be found behind a limb that led here. Condition: the body is valid. -/
import Derived.Test.YtblbmppbbhibeaaWayM
namespace Go.Proofs.Ytblbmppbbhibeaa
set_option linter.unusedVariables false
set_option linter.unusedSimpArgs false

/-- The joints of a way. -/
def verts (ls : List Lb) (x : Nat) : List Nat → List Int
  | [] => [(x : Int)]
  | t :: es => (x : Int) :: verts ls (other (limbAt ls t) x) es
theorem verts_len (ls : List Lb) (x : Nat) (es : List Nat) : (verts ls x es).length = es.length + 1 := by
  induction es generalizing x with
  | nil => rfl
  | cons t es ih => show (verts ls _ es).length + 1 = _; rw [ih]; rfl
/-- The way es from i to j does not begin with the limb that led to i. -/
def Goes (ls : List Lb) (i j : Nat) (e0 : Option Nat) (es : List Nat) : Prop := isWay ls i es j ∧ noTurn (e0.toList ++ es)
theorem noTurn_right {xs ys : List Nat} (h : noTurn (xs ++ ys)) : noTurn ys := by
  induction xs with
  | nil => exact h
  | cons a xs ih => exact ih (noTurn_tail h)
theorem noTurn_cons {t : Nat} {es : List Nat} : noTurn (t :: es) ↔ es.head? ≠ some t ∧ noTurn es := by
  cases es with
  | nil => simp [noTurn]
  | cons s es =>
    show (t ≠ s ∧ noTurn (s :: es)) ↔ _
    simp only [List.head?_cons, ne_eq, Option.some.injEq]
    exact ⟨fun h => ⟨fun e => h.1 e.symm, h.2⟩, fun h => ⟨fun e => h.1 e.symm, h.2⟩⟩
theorem noTurn_snoc {xs : List Nat} {t : Nat} (h : noTurn xs) (hl : xs.getLast? ≠ some t) : noTurn (xs ++ [t]) := by
  induction xs with
  | nil => trivial
  | cons a xs ih =>
    cases xs with
    | nil =>
      refine ⟨fun e => hl (by simp [e]), trivial⟩
    | cons s xs => exact ⟨h.1, ih h.2 (by simpa [List.getLast?_cons_cons] using hl)⟩
theorem goes_cons {ls : List Lb} {i j t : Nat} {e0 : Option Nat} {es : List Nat} : Goes ls i j e0 (t :: es) ↔ (t < ls.length ∧ touches (limbAt ls t) i ∧ e0 ≠ some t) ∧ Goes ls (other (limbAt ls t) i) j (some t) es := by
  unfold Goes
  constructor
  · rintro ⟨⟨h1, h2, h3⟩, hn⟩
    have ht := noTurn_right hn
    refine ⟨⟨h1, h2, fun e => ?_⟩, h3, ht⟩
    subst e
    exact hn.1 rfl
  · rintro ⟨⟨h1, h2, h0⟩, h3, hn⟩
    refine ⟨⟨h1, h2, h3⟩, ?_⟩
    cases e0 with
    | none => exact hn
    | some s => exact ⟨fun e => h0 (by rw [e]), hn⟩
/-- The joint that led here: none, or the other end of the limb that did. -/
def Led (ls : List Lb) (i : Nat) (e0 : Option Nat) (f : Int) : Prop := (e0 = none ∧ f = -1) ∨ ∃ t, e0 = some t ∧ t < ls.length ∧ touches (limbAt ls t) i ∧ f = other (limbAt ls t) i
section
variable {m : Nat} {ls : List Lb}
/-- Two limbs never have the same two ends. -/
theorem limb_one (hf : Fits m ls) (hl : ls.length + 1 = m) (hr : (joinRun m ls (apart m)).isSome = true) {s t i : Nat} (hs : s < ls.length) (ht : t < ls.length) (h1 : touches (limbAt ls s) i) (h2 : touches (limbAt ls t) i) (h : other (limbAt ls s) i = other (limbAt ls t) i) : s = t := by
  refine Classical.byContradiction fun hne => ?_
  obtain ⟨c1, c2⟩ := sides_at hf hl hr ht
  exact c1 i h2 (by rw [← h]; exact c2 s hs hne i h1)
/-- Limb k leads on from here just if it touches, and does not lead back to where one came from. -/
theorem led_back (hf : Fits m ls) (hl : ls.length + 1 = m) (hr : (joinRun m ls (apart m)).isSome = true) {i k : Nat} {e0 : Option Nat} {f : Int} (hled : Led ls i e0 f) (hk : k < ls.length) (ht : touches (limbAt ls k) i) : ((other (limbAt ls k) i : Nat) : Int) = f ↔ e0 = some k := by
  rcases hled with ⟨rfl, rfl⟩ | ⟨t, rfl, h1, h2, rfl⟩
  · constructor
    · intro h; omega
    · intro h; cases h
  · constructor
    · intro h
      rw [limb_one hf hl hr hk h1 ht h2 (by omega)]
    · intro h
      injection h with h
      rw [h]
/-- A way to i whose last limb is e0. -/
def Came (ls : List Lb) (i : Nat) (e0 : Option Nat) (d : Nat) : Prop := ∃ x0 pre, isWay ls x0 pre i ∧ noTurn pre ∧ pre.getLast? = e0 ∧ ls.length ≤ pre.length + d
theorem came_on (hf : Fits m ls) (hl : ls.length + 1 = m) (hr : (joinRun m ls (apart m)).isSome = true) {i k d : Nat} {e0 : Option Nat} (hc : Came ls i e0 d) (hk : k < ls.length) (ht : touches (limbAt ls k) i) (hne : e0 ≠ some k) :
    1 ≤ d ∧ Came ls (other (limbAt ls k) i) (some k) (d - 1) := by
  obtain ⟨x0, pre, h1, h2, h3, h4⟩ := hc
  have w : isWay ls x0 (pre ++ [k]) (other (limbAt ls k) i) := way_split.2 ⟨i, h1, hk, ht, rfl⟩
  have n : noTurn (pre ++ [k]) := noTurn_snoc h2 (by rw [h3]; exact hne)
  obtain ⟨a, b⟩ := way_nodup hf hl hr w n
  have c := way_count a b
  rw [List.length_append, List.length_singleton] at c
  refine ⟨by omega, x0, pre ++ [k], w, n, by simp, ?_⟩
  rw [List.length_append, List.length_singleton]
  omega
end
end Go.Proofs.Ytblbmppbbhibeaa
