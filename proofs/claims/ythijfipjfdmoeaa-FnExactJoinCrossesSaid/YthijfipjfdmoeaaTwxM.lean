/- Twists: they add up, they are even just if the order of the pair is as before, they vanish by undoing, they are as many as the wound pairs: plain mathematics. -/
import Derived.Test.YthijfipjfdmoeaaTwdM
namespace Go.Proofs.Ythijfipjfdmoeaa
set_option linter.unusedVariables false
set_option linter.unusedSimpArgs false

/-- What one crossing adds to the twist of i and k. -/
def hit (zs : List Int) (l : RCross) (i k : Nat) : Int :=
  if ((i : Int) = atI zs l.f0.toNat ∧ (k : Int) = atI zs (l.f0.toNat + 1)) ∨ ((i : Int) = atI zs (l.f0.toNat + 1) ∧ (k : Int) = atI zs l.f0.toNat) then sgn l else 0
/-- The twist of i and k over crossings that begin at an order. -/
def tw : List Int → List RCross → Nat → Nat → Int
  | _, [], _, _ => 0
  | zs, l :: ls, i, k => hit zs l i k + tw (stepA zs l) ls i k
theorem tw_append (xs ys : List RCross) (i k : Nat) : ∀ zs, tw zs (xs ++ ys) i k = tw zs xs i k + tw (xs.foldl stepA zs) ys i k := by
  induction xs with
  | nil => intro zs; simp [tw]
  | cons l xs ih => intro zs; rw [List.cons_append, tw, tw, ih, List.foldl_cons, Int.add_assoc]
theorem hit_sym (zs : List Int) (l : RCross) (i k : Nat) : hit zs l i k = hit zs l k i := by
  unfold hit
  by_cases c : ((i : Int) = atI zs l.f0.toNat ∧ (k : Int) = atI zs (l.f0.toNat + 1)) ∨ ((i : Int) = atI zs (l.f0.toNat + 1) ∧ (k : Int) = atI zs l.f0.toNat)
  · rw [if_pos c, if_pos (by omega)]
  · rw [if_neg c, if_neg (by omega)]
theorem tw_sym (ls : List RCross) (i k : Nat) : ∀ zs, tw zs ls i k = tw zs ls k i := by
  induction ls with
  | nil => exact fun _ => rfl
  | cons l ls ih => intro zs; rw [tw, tw, hit_sym, ih]
section
variable {n : Nat} {zs : List Int} {l x : RCross} {ls : List RCross} {i k : Nat}
theorem fits_nat (h : Fits n l) : ∃ q : Nat, l.f0 = (q : Int) ∧ l.f0.toNat = q ∧ q + 1 < n := by
  obtain ⟨q, hq⟩ := Int.eq_ofNat_of_zero_le h.1
  have := h.2
  exact ⟨q, hq, by omega, by omega⟩
theorem hit_diag (ho : IsOrd zs) (hn : zs.length = n) (h : Fits n l) (i : Nat) : hit zs l i i = 0 := by
  obtain ⟨q, _, e, hq⟩ := fits_nat h
  have := (ord_at ho).2 q (q + 1) (by omega) (by omega) (by omega)
  unfold hit
  rw [e, if_neg (by omega)]
theorem tw_diag (hf : ∀ l ∈ ls, Fits n l) (i : Nat) : ∀ {zs : List Int}, IsOrd zs → zs.length = n → tw zs ls i i = 0 := by
  induction ls with
  | nil => exact fun _ _ => rfl
  | cons l ls ih =>
    intro zs ho hn
    have h1 := hf l List.mem_cons_self
    rw [tw, hit_diag ho hn h1, ih (fun x hx => hf x (List.mem_cons_of_mem _ hx)) (stepA_ord ho hn h1) (by rw [stepA_len]; exact hn)]
    rfl
/-- Two crossings of which one undoes the other add nothing. -/
theorem hit_undo (ho : IsOrd zs) (hn : zs.length = n) (h : Fits n x) (hu : undoes x l = true) : hit zs x i k + hit (stepA zs x) l i k = 0 := by
  obtain ⟨q, _, e, hq⟩ := fits_nat h
  obtain ⟨e1, e2⟩ := undoes_at hu
  have es : sgn x = -sgn l := by
    rw [← e2]
    unfold sgn turned
    cases l.f1 <;> rfl
  unfold hit
  rw [stepA_swap ho hn h, ← e1, e, swap_at (by omega), swap_at (by omega), swF_at, swF_next]
  by_cases c : ((i : Int) = atI zs q ∧ (k : Int) = atI zs (q + 1)) ∨ ((i : Int) = atI zs (q + 1) ∧ (k : Int) = atI zs q)
  · rw [if_pos c, if_pos (by omega)]
    omega
  · rw [if_neg c, if_neg (by omega)]
    rfl
theorem tw_push (out : List RCross) (hf : ∀ y ∈ out, Fits n y) (ho : IsOrd zs) (hn : zs.length = n) : tw zs (push out l) i k = tw zs (out ++ [l]) i k := by
  rcases push_cases out l with ⟨pre, x, rfl, hu, e⟩ | ⟨e, _⟩
  · have hp : ∀ y ∈ pre, Fits n y := fun y hy => hf y (List.mem_append_left _ hy)
    have := hit_undo (i := i) (k := k) (run_ord hp ho hn) (by rw [foldA_len]; exact hn) (hf x (by simp)) hu
    rw [e, List.append_assoc, tw_append]
    simp only [List.singleton_append, tw]
    omega
  · rw [e]
theorem tw_red (hf : ∀ l ∈ ls, Fits n l) (ho : IsOrd zs) (hn : zs.length = n) : ∀ (out : List RCross), (∀ y ∈ out, Fits n y) → tw zs (ls.foldl push out) i k = tw zs (out ++ ls) i k := by
  induction ls with
  | nil => intro out _; rw [List.append_nil]; rfl
  | cons l ls ih =>
    intro out h
    have h1 := hf l List.mem_cons_self
    rw [List.foldl_cons, ih (fun x hx => hf x (List.mem_cons_of_mem _ hx)) (push out l) (push_fits out h h1), tw_append, tw_push out h ho hn, push_run out h h1 ho hn,
      show out ++ l :: ls = (out ++ [l]) ++ ls by simp, tw_append (out ++ [l]), List.foldl_append]
    rfl
end

/-- The place of a puppet. -/
def pos (zs : List Int) (x : Nat) : Int := placeTo (atI zs) (x : Int) zs.length
theorem pos_at {zs : List Int} (h : IsOrd zs) {p x : Nat} (hp : p < zs.length) (hx : atI zs p = (x : Int)) : pos zs x = (p : Int) := by
  obtain ⟨p', h1, h2, h3⟩ := place_found (f := atI zs) (x := (x : Int)) (n := zs.length) ⟨p, hp, hx⟩
  unfold pos
  rw [h3]
  by_cases e : p' = p
  · rw [e]
  · exact absurd (h2.trans hx.symm) ((ord_at h).2 p' p h1 hp e)
theorem pos_of {zs : List Int} (h : IsOrd zs) {x : Nat} (hx : x < zs.length) : ∃ p : Nat, p < zs.length ∧ atI zs p = (x : Int) ∧ pos zs x = (p : Int) := by
  obtain ⟨p, h1, h2⟩ := ord_has h hx
  exact ⟨p, h1, h2, pos_at h h1 h2⟩
theorem pos_swap {zs : List Int} (h : IsOrd zs) {q x : Nat} (hq : q + 1 < zs.length) (hx : x < zs.length) :
    pos (swapL zs q) x = (if pos zs x = (q : Int) then (q : Int) + 1 else if pos zs x = (q : Int) + 1 then (q : Int) else pos zs x) := by
  obtain ⟨p, h1, h2, h3⟩ := pos_of h hx
  have ho := swap_ord h hq
  have hl := swap_len zs q
  rw [h3]
  by_cases e : p = q
  · subst e
    rw [if_pos rfl, pos_at ho (p := p + 1) (by omega) (by rw [swap_at hq, swF_next]; exact h2)]
    omega
  · rw [if_neg (by omega)]
    by_cases f : p = q + 1
    · subst f
      rw [if_pos (by omega), pos_at ho (p := q) (by omega) (by rw [swap_at hq, swF_at]; exact h2)]
    · rw [if_neg (by omega), pos_at ho (p := p) (by omega) (by rw [swap_at hq]; unfold swF; rw [if_neg e, if_neg f]; exact h2)]
/-- A crossing turns the order of its pair and of no other one. -/
theorem hit_turn {n : Nat} {zs : List Int} {l : RCross} {i k : Nat} (ho : IsOrd zs) (hn : zs.length = n) (h : Fits n l) (hi : i < n) (hk : k < n) (hik : i ≠ k) :
    (hit zs l i k % 2 = 0 ↔ (pos zs k < pos zs i ↔ pos (stepA zs l) k < pos (stepA zs l) i)) := by
  obtain ⟨q, _, e, hq⟩ := fits_nat h
  obtain ⟨p1, a1, a2, a3⟩ := pos_of ho (x := i) (by omega)
  obtain ⟨p2, b1, b2, b3⟩ := pos_of ho (x := k) (by omega)
  have ne : p1 ≠ p2 := fun x => hik (by rw [x, b2] at a2; omega)
  have at1 : ((i : Int) = atI zs q) ↔ p1 = q := ⟨fun x => by
    by_cases c : p1 = q
    · exact c
    · exact absurd (a2.trans x) ((ord_at ho).2 p1 q a1 (by omega) c), fun x => by rw [← x, a2]⟩
  have at2 : ((i : Int) = atI zs (q + 1)) ↔ p1 = q + 1 := ⟨fun x => by
    by_cases c : p1 = q + 1
    · exact c
    · exact absurd (a2.trans x) ((ord_at ho).2 p1 (q + 1) a1 (by omega) c), fun x => by rw [← x, a2]⟩
  have at3 : ((k : Int) = atI zs q) ↔ p2 = q := ⟨fun x => by
    by_cases c : p2 = q
    · exact c
    · exact absurd (b2.trans x) ((ord_at ho).2 p2 q b1 (by omega) c), fun x => by rw [← x, b2]⟩
  have at4 : ((k : Int) = atI zs (q + 1)) ↔ p2 = q + 1 := ⟨fun x => by
    by_cases c : p2 = q + 1
    · exact c
    · exact absurd (b2.trans x) ((ord_at ho).2 p2 (q + 1) b1 (by omega) c), fun x => by rw [← x, b2]⟩
  rw [stepA_swap ho hn h, e, pos_swap ho (by omega) (by omega), pos_swap ho (by omega) (by omega), a3, b3]
  have he : hit zs l i k = if (p1 = q ∧ p2 = q + 1) ∨ (p1 = q + 1 ∧ p2 = q) then sgn l else 0 := by
    unfold hit
    rw [e]
    simp only [at1, at2, at3, at4]
  rw [he]
  have hs : sgn l = 1 ∨ sgn l = -1 := by unfold sgn; split <;> simp
  by_cases c : (p1 = q ∧ p2 = q + 1) ∨ (p1 = q + 1 ∧ p2 = q)
  · rw [if_pos c]
    rcases c with ⟨c1, c2⟩ | ⟨c1, c2⟩
    · subst c1 c2
      rw [if_neg (by omega), if_pos (by omega), if_pos rfl]
      rcases hs with s | s <;> rw [s] <;> constructor <;> intro <;> omega
    · subst c1 c2
      rw [if_pos rfl, if_neg (by omega), if_pos (by omega)]
      rcases hs with s | s <;> rw [s] <;> constructor <;> intro <;> omega
  · rw [if_neg c]
    refine ⟨fun _ => ?_, fun _ => rfl⟩
    split <;> split <;> (try split) <;> (try split) <;> omega
theorem tw_turn {n : Nat} {ls : List RCross} {i k : Nat} (hf : ∀ l ∈ ls, Fits n l) (hi : i < n) (hk : k < n) (hik : i ≠ k) : ∀ {zs : List Int}, IsOrd zs → zs.length = n →
    (tw zs ls i k % 2 = 0 ↔ (pos zs k < pos zs i ↔ pos (ls.foldl stepA zs) k < pos (ls.foldl stepA zs) i)) := by
  induction ls with
  | nil => intro zs _ _; simp [tw]
  | cons l ls ih =>
    intro zs ho hn
    have h1 := hf l List.mem_cons_self
    have a := hit_turn ho hn h1 hi hk hik
    have b := ih (fun x hx => hf x (List.mem_cons_of_mem _ hx)) (stepA_ord ho hn h1) (by rw [stepA_len]; exact hn)
    rw [tw, List.foldl_cons]
    generalize hit zs l i k = u at a
    generalize tw (stepA zs l) ls i k = v at b
    have e : (u + v) % 2 = 0 ↔ (u % 2 = 0 ↔ v % 2 = 0) := by omega
    rw [e, a, b]
    by_cases c1 : pos zs k < pos zs i <;> by_cases c2 : pos (stepA zs l) k < pos (stepA zs l) i <;> by_cases c3 : pos (List.foldl stepA (stepA zs l) ls) k < pos (List.foldl stepA (stepA zs l) ls) i <;> simp [c1, c2, c3]
end Go.Proofs.Ythijfipjfdmoeaa
