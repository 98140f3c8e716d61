/- The table of twists as mathematics: square tables, one entry more, the table behind so many crossings. No condition. -/
import Derived.Test.YthijfipjfdmoeaaCrxM
import Derived.Test.YthijfipjfdmoeaaRowRT
namespace Go.Proofs.Ythijfipjfdmoeaa
set_option linter.unusedVariables false
set_option linter.unusedSimpArgs false
open Go.RowKit

/-- Entry i, k of a table. -/
def ent (t : List (List Int)) (i k : Nat) : Int := atI (t.getD i []) k
def bump (t : List (List Int)) (a b : Nat) (s : Int) : List (List Int) := t.set a ((t.getD a []).set b (ent t a b + s))
def sgn (l : RCross) : Int := if l.f1 = true then 1 else -1
def zeroTab (n : Nat) : List (List Int) := List.replicate n (List.replicate n 0)
def pa (z : List Int) : Nat := (atI z 0).toNat
def pb (z : List Int) : Nat := (atI z 1).toNat
def tabStep (t : List (List Int)) (z : List Int) (s : Int) : List (List Int) := bump (bump t (pa z) (pb z) s) (pb z) (pa z) s
def tabTo (n : Int) (ls : List RCross) : Nat → List (List Int)
  | 0 => zeroTab n.toNat
  | k + 1 => tabStep (tabTo n ls k) ((pairsOf n ls).getD k []) (sgn (ls.getD k RCross.zero))
/-- What TwistTable answers. -/
def twistTab (n : Int) (ls : List RCross) : List (List Int) := if crossOk n ls = true then tabTo n ls ls.length else []
structure Square (n : Nat) (t : List (List Int)) : Prop where
  len : t.length = n
  row : ∀ i (h : i < t.length), t[i].length = n
section
variable {n a b i k : Nat} {s : Int} {t : List (List Int)}
theorem getD_row (h : i < t.length) : t.getD i [] = t[i] := by rw [List.getD_eq_getElem?_getD, List.getElem?_eq_getElem h]; rfl
theorem ent_of (h : i < t.length) (hk : k < t[i].length) : ent t i k = t[i][k] := by unfold ent; rw [getD_row h, atI_of hk]
theorem square_zero (n : Nat) : Square n (zeroTab n) := ⟨by simp [zeroTab], fun i h => by simp [zeroTab]⟩
theorem ent_zero (hi : i < n) (hk : k < n) : ent (zeroTab n) i k = 0 := by
  rw [ent_of (by simp [zeroTab]; exact hi) (by simp [zeroTab]; exact hk)]
  simp [zeroTab]
theorem bump_square (hs : Square n t) (ha : a < n) : Square n (bump t a b s) := by
  have h := hs.len
  refine ⟨by simp [bump, h], fun i hi => ?_⟩
  unfold bump at hi ⊢
  rw [List.length_set] at hi
  rw [List.getElem_set]
  split
  · rw [List.length_set, getD_row (by omega)]
    exact hs.row a (by omega)
  · exact hs.row i hi
theorem ent_bump (hs : Square n t) (ha : a < n) (hb : b < n) (hi : i < n) (hk : k < n) : ent (bump t a b s) i k = if i = a ∧ k = b then ent t a b + s else ent t i k := by
  have h := hs.len
  have hra : (t.getD a []).length = n := by rw [getD_row (by omega)]; exact hs.row a (by omega)
  have e1 : (bump t a b s).getD i [] = if a = i then (t.getD a []).set b (ent t a b + s) else t.getD i [] := by
    unfold bump
    rw [List.getD_eq_getElem?_getD, List.getElem?_set]
    by_cases e : a = i
    · subst e
      rw [if_pos rfl, if_pos rfl, if_pos (by omega)]
      rfl
    · rw [if_neg e, if_neg e, List.getD_eq_getElem?_getD]
  have e2 : atI ((t.getD a []).set b (ent t a b + s)) k = if b = k then ent t a b + s else ent t a k := by
    unfold atI
    rw [List.getD_eq_getElem?_getD, List.getElem?_set]
    by_cases e : b = k
    · subst e
      rw [if_pos rfl, if_pos rfl, if_pos (by omega)]
      rfl
    · rw [if_neg e, if_neg e]
      unfold ent atI
      rw [← List.getD_eq_getElem?_getD]
  have e0 : ent (bump t a b s) i k = atI ((bump t a b s).getD i []) k := rfl
  rw [e0, e1]
  by_cases e : a = i
  · subst e
    rw [if_pos rfl, e2]
    by_cases f : b = k
    · rw [if_pos f, if_pos ⟨rfl, f.symm⟩]
    · rw [if_neg f, if_neg (fun x => f x.2.symm)]
  · rw [if_neg e, if_neg (fun x => e x.1.symm)]
    rfl
end
/-- Two puppets below n. -/
def Duo (n : Nat) (z : List Int) : Prop := ∃ a b : Nat, z = [(a : Int), (b : Int)] ∧ a ≠ b ∧ a < n ∧ b < n
theorem duo_at {n : Int} {ls : List RCross} (h : crossOk n ls = true) {k : Nat} (hk : k < ls.length) : Duo n.toNat ((pairsOf n ls).getD k []) := by
  have F := crossFacts h
  have hp : k < (pairsOf n ls).length := by rw [F.pairLen]; exact hk
  obtain ⟨x, y, e, h1, h2, h3⟩ := F.pair k hp
  rw [getD_row hp, e]
  exact ⟨x.toNat, y.toNat, by rw [Int.toNat_of_nonneg h2.1, Int.toNat_of_nonneg h3.1], by omega, by omega, by omega⟩
theorem step_square {n : Nat} {t : List (List Int)} {z : List Int} {s : Int} (hs : Square n t) (hz : Duo n z) : Square n (tabStep t z s) := by
  obtain ⟨a, b, rfl, _, ha, hb⟩ := hz
  exact bump_square (bump_square hs (by simpa [pa, atI] using ha)) (by simpa [pb, atI] using hb)
theorem ent_step {n a b i k : Nat} {t : List (List Int)} {s : Int} (hs : Square n t) (hab : a ≠ b) (ha : a < n) (hb : b < n) (hi : i < n) (hk : k < n) :
    ent (tabStep t [(a : Int), (b : Int)] s) i k = ent t i k + if (i = a ∧ k = b) ∨ (i = b ∧ k = a) then s else 0 := by
  have e1 : pa [(a : Int), (b : Int)] = a := by simp [pa, atI]
  have e2 : pb [(a : Int), (b : Int)] = b := by simp [pb, atI]
  unfold tabStep
  rw [e1, e2, ent_bump (bump_square hs ha) hb ha hi hk]
  by_cases c1 : i = b ∧ k = a
  · obtain ⟨rfl, rfl⟩ := c1
    rw [if_pos ⟨rfl, rfl⟩, if_pos (.inr ⟨rfl, rfl⟩), ent_bump hs ha hb hi hk, if_neg (fun x => hab x.1.symm)]
  · rw [if_neg c1, ent_bump hs ha hb hi hk]
    by_cases c2 : i = a ∧ k = b
    · rw [if_pos c2, if_pos (.inl c2), c2.1, c2.2]
    · rw [if_neg c2, if_neg (fun x => by rcases x with x | x; exact c2 x; exact c1 x)]
      omega
theorem tab_square {n : Int} {ls : List RCross} (h : crossOk n ls = true) : ∀ k, k ≤ ls.length → Square n.toNat (tabTo n ls k) := by
  intro k
  induction k with
  | zero => exact fun _ => square_zero _
  | succ k ih => exact fun hk => step_square (ih (by omega)) (duo_at h (by omega))
theorem sgn_small (l : RCross) : -1 ≤ sgn l ∧ sgn l ≤ 1 := by unfold sgn; split <;> omega
theorem tab_small {n : Int} {ls : List RCross} (h : crossOk n ls = true) {i j : Nat} (hi : i < n.toNat) (hj : j < n.toNat) : ∀ k, k ≤ ls.length → -(k : Int) ≤ ent (tabTo n ls k) i j ∧ ent (tabTo n ls k) i j ≤ (k : Int) := by
  intro k
  induction k with
  | zero => intro _; rw [tabTo, ent_zero hi hj]; omega
  | succ k ih =>
    intro hk
    obtain ⟨a, b, e, hab, ha, hb⟩ := duo_at h (k := k) (by omega)
    rw [tabTo, e, ent_step (tab_square h k (by omega)) hab ha hb hi hj]
    have := ih (by omega)
    have := sgn_small (ls.getD k RCross.zero)
    split <;> omega
/-- A square table that is written in place. -/
theorem OwnRR.entry {w : World} {base n a b : Nat} {v : Value} {vs : List Value} {t : List (List Int)} (h : OwnRR w base v vs t) (hs : Square n t) (ha : a < n) (hb : b < n) :
    ∃ g c ga ca, v = .slice (some ⟨g, 0, none⟩) n c ∧ vs[a]? = some (.slice (some ⟨ga, 0, none⟩) n ca) ∧ w.cell? ⟨g, a, none⟩ = some (.slice (some ⟨ga, 0, none⟩) n ca) ∧ w.cell? ⟨ga, b, none⟩ = some (.int .i64 (ent t a b)) ∧ w.frozen? ⟨ga, b, none⟩ = false ∧ base ≤ ga ∧
      ∀ s, OwnRR (w.setCell ⟨ga, b, none⟩ (.int .i64 (ent t a b + s))) base v vs (bump t a b s) ∧ w.grownBy (w.setCell ⟨ga, b, none⟩ (.int .i64 (ent t a b + s))) (some ga) := by
  have hl := hs.len
  have hat : a < t.length := by omega
  have hav : a < vs.length := by rw [h.len]; exact hat
  have hra := hs.row a hat
  have O := h.each a hav hat
  obtain ⟨ga, ca, e, hbg, _, z0, f0⟩ := O.spot (k := b) (by omega)
  rcases id h.row.2 with ⟨_, hn⟩ | ⟨g, cap, cur, rfl, _⟩
  · omega
  · rw [hra] at e
    refine ⟨g, cap, ga, ca, by rw [hl], by rw [List.getElem?_eq_getElem hav, e], ?_, by rw [ent_of hat (by omega)]; exact z0, f0, hbg, fun s => ?_⟩
    · rw [World.ownsRow.cellAt h.row a (by omega), List.getElem?_eq_getElem hav, e]
    · rw [e] at O
      obtain ⟨s1, g1⟩ := O.set hra.symm b (ent t a b + s)
      refine ⟨?_, g1⟩
      have := h.turn (k := a) (zs := t[a].set b (ent t a b + s)) hav (by rw [e]; exact s1) (by rw [e]; exact g1)
      unfold bump
      rw [getD_row hat]
      exact this
end Go.Proofs.Ythijfipjfdmoeaa
