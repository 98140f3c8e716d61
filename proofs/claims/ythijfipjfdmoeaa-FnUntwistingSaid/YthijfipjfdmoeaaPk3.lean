/- Texts of this seat laid together, each with its own first sentence below: RowRT TwsM TwdM UnwM CrossA ConI UndI. -/
import Derived.Test.YthijfipjfdmoeaaPk2
import Derived.Test.YthijfipjfdmoeaaPk1
import Derived.Maps.AppendAt
import Derived.RegionTactic
import Derived.Deep.AppendLies
import Derived.Deep.RegionHeld3
import Derived.Deep.RegionLaw
import Derived.Lib.AppendZeros
import Derived.BigQuiet
/- How many numbers the first rows hold; how an own row of rows is kept where one row or another block is written. Condition: the rows are the call's own. -/
namespace Go.Proofs.Ythijfipjfdmoeaa
set_option linter.unusedVariables false
set_option linter.unusedSimpArgs false
open Go.RowKit

/-- How many numbers the first k rows hold. -/
def upTo (zss : List (List Int)) : Nat → Nat
  | 0 => 0
  | k + 1 => upTo zss k + (zss.getD k []).length
theorem upTo_more {zss : List (List Int)} {k : Nat} (h : k < zss.length) : upTo zss (k + 1) = upTo zss k + zss[k].length := by
  rw [upTo, List.getD_eq_getElem?_getD, List.getElem?_eq_getElem h]
  rfl
theorem upTo_mono (zss : List (List Int)) {j k : Nat} (h : j ≤ k) : upTo zss j ≤ upTo zss k := by
  induction k with
  | zero => rw [Nat.le_zero.1 h]; exact Nat.le_refl _
  | succ k ih =>
    rcases Nat.lt_or_ge j (k + 1) with c | c
    · have := ih (by omega)
      rw [upTo]
      omega
    · rw [show j = k + 1 by omega]; exact Nat.le_refl _
section
variable {w w' : World} {base : Nat} {v : Value} {vs : List Value} {zss : List (List Int)}
theorem sep_none {a r : Option Nat} (h : r = none ∨ r ≠ a) : a = none ∨ a ≠ r := by
  rcases h with rfl | h
  · cases a <;> simp
  · exact .inr (Ne.symm h)
/-- The numbers of one row change. -/
theorem OwnRR.turn {k : Nat} {zs : List Int} (h : OwnRR w base v vs zss) (hk : k < vs.length) (hu : OwnI w' base vs[k] zs) (hg : w.grownBy w' vs[k].ownBlock) : OwnRR w' base v vs (zss.set k zs) := by
  refine ⟨?_, by rw [List.length_set]; exact h.len, fun i hi hi' => ?_, h.off, h.apart⟩
  · rw [List.length_set]
    exact World.ownsRow.kept h.row hg (sep_none (h.off k hk))
  · rw [List.length_set] at hi'
    by_cases e : k = i
    · subst e
      rw [List.getElem_set_self]
      exact hu
    · rw [List.getElem_set_ne e]
      exact (h.each i hi hi').kept hg (h.apart i k hi hk (Ne.symm e))
/-- A write into a block that is older than all of them. -/
theorem OwnR.older {row : Option Nat} (h : OwnR w base v zss) (hg : w.grownBy w' row) (hr : ∀ k, row = some k → k < base) : OwnR w' base v zss := by
  obtain ⟨vs, h⟩ := h
  refine ⟨vs, World.ownsRow.kept h.row hg (sep_of fun b e1 e2 => by have := (h.lt b e1).1; have := hr b e2; omega), h.len, fun i hi hi' => ?_, h.off, h.apart⟩
  exact (h.each i hi hi').kept hg (sep_of fun b e1 e2 => by have := ((h.each i hi hi').lt b e1).1; have := hr b e2; omega)
/-- A write into a block that is newer than all of them. -/
theorem OwnR.newer {row : Option Nat} {top : Nat} {w0 : World} (h0 : OwnR w0 base v zss) (hb : Below w0.heap.size w0 w) (hg : Below top w w') (ht : w0.heap.size ≤ top) : OwnR w' base v zss := h0.below (hb.trans (hg.mono ht))
end
theorem up_le {zss : List (List Int)} {m : Nat} (h : ∀ k (hk : k < zss.length), zss[k].length ≤ m) : upTo zss zss.length ≤ zss.length * m := by
  have : ∀ k, k ≤ zss.length → upTo zss k ≤ k * m := by
    intro k
    induction k with
    | zero => intro _; exact Nat.zero_le _
    | succ k ih =>
      intro hk
      have h1 := ih (by omega)
      have h2 := h k (by omega)
      rw [upTo_more (by omega), Nat.succ_mul]
      omega
  exact this _ (Nat.le_refl _)
end Go.Proofs.Ythijfipjfdmoeaa

/- The table of twists as mathematics: square tables, one entry more, the table behind so many crossings. No condition. -/
namespace Go.Proofs.Ythijfipjfdmoeaa
set_option linter.unusedVariables false
set_option linter.unusedSimpArgs false
open Go.RowKit

/-- Entry i, k of a table. -/
def ent (t : List (List Int)) (i k : Nat) : Int := atI (t.getD i []) k
def bump (t : List (List Int)) (a b : Nat) (s : Int) : List (List Int) := t.set a ((t.getD a []).set b (ent t a b + s))
def sgn (l : RCross) : Int := if l.f1 = true then 1 else -1
def zeroTab (n : Nat) : List (List Int) := List.replicate n (List.replicate n 0)
def pa (z : List Int) : Nat := (atI z 0).toNat
def pb (z : List Int) : Nat := (atI z 1).toNat
def tabStep (t : List (List Int)) (z : List Int) (s : Int) : List (List Int) := bump (bump t (pa z) (pb z) s) (pb z) (pa z) s
def tabTo (n : Int) (ls : List RCross) : Nat → List (List Int)
  | 0 => zeroTab n.toNat
  | k + 1 => tabStep (tabTo n ls k) ((pairsOf n ls).getD k []) (sgn (ls.getD k RCross.zero))
/-- What TwistTable answers. -/
def twistTab (n : Int) (ls : List RCross) : List (List Int) := if crossOk n ls = true then tabTo n ls ls.length else []
structure Square (n : Nat) (t : List (List Int)) : Prop where
  len : t.length = n
  row : ∀ i (h : i < t.length), t[i].length = n
section
variable {n a b i k : Nat} {s : Int} {t : List (List Int)}
theorem getD_row (h : i < t.length) : t.getD i [] = t[i] := by rw [List.getD_eq_getElem?_getD, List.getElem?_eq_getElem h]; rfl
theorem ent_of (h : i < t.length) (hk : k < t[i].length) : ent t i k = t[i][k] := by unfold ent; rw [getD_row h, atI_of hk]
theorem square_zero (n : Nat) : Square n (zeroTab n) := ⟨by simp [zeroTab], fun i h => by simp [zeroTab]⟩
theorem ent_zero (hi : i < n) (hk : k < n) : ent (zeroTab n) i k = 0 := by
  rw [ent_of (by simp [zeroTab]; exact hi) (by simp [zeroTab]; exact hk)]
  simp [zeroTab]
theorem bump_square (hs : Square n t) (ha : a < n) : Square n (bump t a b s) := by
  have h := hs.len
  refine ⟨by simp [bump, h], fun i hi => ?_⟩
  unfold bump at hi ⊢
  rw [List.length_set] at hi
  rw [List.getElem_set]
  split
  · rw [List.length_set, getD_row (by omega)]
    exact hs.row a (by omega)
  · exact hs.row i hi
theorem ent_bump (hs : Square n t) (ha : a < n) (hb : b < n) (hi : i < n) (hk : k < n) : ent (bump t a b s) i k = if i = a ∧ k = b then ent t a b + s else ent t i k := by
  have h := hs.len
  have hra : (t.getD a []).length = n := by rw [getD_row (by omega)]; exact hs.row a (by omega)
  have e1 : (bump t a b s).getD i [] = if a = i then (t.getD a []).set b (ent t a b + s) else t.getD i [] := by
    unfold bump
    rw [List.getD_eq_getElem?_getD, List.getElem?_set]
    by_cases e : a = i
    · subst e
      rw [if_pos rfl, if_pos rfl, if_pos (by omega)]
      rfl
    · rw [if_neg e, if_neg e, List.getD_eq_getElem?_getD]
  have e2 : atI ((t.getD a []).set b (ent t a b + s)) k = if b = k then ent t a b + s else ent t a k := by
    unfold atI
    rw [List.getD_eq_getElem?_getD, List.getElem?_set]
    by_cases e : b = k
    · subst e
      rw [if_pos rfl, if_pos rfl, if_pos (by omega)]
      rfl
    · rw [if_neg e, if_neg e]
      unfold ent atI
      rw [← List.getD_eq_getElem?_getD]
  have e0 : ent (bump t a b s) i k = atI ((bump t a b s).getD i []) k := rfl
  rw [e0, e1]
  by_cases e : a = i
  · subst e
    rw [if_pos rfl, e2]
    by_cases f : b = k
    · rw [if_pos f, if_pos ⟨rfl, f.symm⟩]
    · rw [if_neg f, if_neg (fun x => f x.2.symm)]
  · rw [if_neg e, if_neg (fun x => e x.1.symm)]
    rfl
end
/-- Two puppets below n. -/
def Duo (n : Nat) (z : List Int) : Prop := ∃ a b : Nat, z = [(a : Int), (b : Int)] ∧ a ≠ b ∧ a < n ∧ b < n
theorem duo_at {n : Int} {ls : List RCross} (h : crossOk n ls = true) {k : Nat} (hk : k < ls.length) : Duo n.toNat ((pairsOf n ls).getD k []) := by
  have F := crossFacts h
  have hp : k < (pairsOf n ls).length := by rw [F.pairLen]; exact hk
  obtain ⟨x, y, e, h1, h2, h3⟩ := F.pair k hp
  rw [getD_row hp, e]
  exact ⟨x.toNat, y.toNat, by rw [Int.toNat_of_nonneg h2.1, Int.toNat_of_nonneg h3.1], by omega, by omega, by omega⟩
theorem step_square {n : Nat} {t : List (List Int)} {z : List Int} {s : Int} (hs : Square n t) (hz : Duo n z) : Square n (tabStep t z s) := by
  obtain ⟨a, b, rfl, _, ha, hb⟩ := hz
  exact bump_square (bump_square hs (by simpa [pa, atI] using ha)) (by simpa [pb, atI] using hb)
theorem ent_step {n a b i k : Nat} {t : List (List Int)} {s : Int} (hs : Square n t) (hab : a ≠ b) (ha : a < n) (hb : b < n) (hi : i < n) (hk : k < n) :
    ent (tabStep t [(a : Int), (b : Int)] s) i k = ent t i k + if (i = a ∧ k = b) ∨ (i = b ∧ k = a) then s else 0 := by
  have e1 : pa [(a : Int), (b : Int)] = a := by simp [pa, atI]
  have e2 : pb [(a : Int), (b : Int)] = b := by simp [pb, atI]
  unfold tabStep
  rw [e1, e2, ent_bump (bump_square hs ha) hb ha hi hk]
  by_cases c1 : i = b ∧ k = a
  · obtain ⟨rfl, rfl⟩ := c1
    rw [if_pos ⟨rfl, rfl⟩, if_pos (.inr ⟨rfl, rfl⟩), ent_bump hs ha hb hi hk, if_neg (fun x => hab x.1.symm)]
  · rw [if_neg c1, ent_bump hs ha hb hi hk]
    by_cases c2 : i = a ∧ k = b
    · rw [if_pos c2, if_pos (.inl c2), c2.1, c2.2]
    · rw [if_neg c2, if_neg (fun x => by rcases x with x | x; exact c2 x; exact c1 x)]
      omega
theorem tab_square {n : Int} {ls : List RCross} (h : crossOk n ls = true) : ∀ k, k ≤ ls.length → Square n.toNat (tabTo n ls k) := by
  intro k
  induction k with
  | zero => exact fun _ => square_zero _
  | succ k ih => exact fun hk => step_square (ih (by omega)) (duo_at h (by omega))
theorem sgn_small (l : RCross) : -1 ≤ sgn l ∧ sgn l ≤ 1 := by unfold sgn; split <;> omega
theorem tab_small {n : Int} {ls : List RCross} (h : crossOk n ls = true) {i j : Nat} (hi : i < n.toNat) (hj : j < n.toNat) : ∀ k, k ≤ ls.length → -(k : Int) ≤ ent (tabTo n ls k) i j ∧ ent (tabTo n ls k) i j ≤ (k : Int) := by
  intro k
  induction k with
  | zero => intro _; rw [tabTo, ent_zero hi hj]; omega
  | succ k ih =>
    intro hk
    obtain ⟨a, b, e, hab, ha, hb⟩ := duo_at h (k := k) (by omega)
    rw [tabTo, e, ent_step (tab_square h k (by omega)) hab ha hb hi hj]
    have := ih (by omega)
    have := sgn_small (ls.getD k RCross.zero)
    split <;> omega
/-- A square table that is written in place. -/
theorem OwnRR.entry {w : World} {base n a b : Nat} {v : Value} {vs : List Value} {t : List (List Int)} (h : OwnRR w base v vs t) (hs : Square n t) (ha : a < n) (hb : b < n) :
    ∃ g c ga ca, v = .slice (some ⟨g, 0, none⟩) n c ∧ vs[a]? = some (.slice (some ⟨ga, 0, none⟩) n ca) ∧ w.cell? ⟨g, a, none⟩ = some (.slice (some ⟨ga, 0, none⟩) n ca) ∧ w.cell? ⟨ga, b, none⟩ = some (.int .i64 (ent t a b)) ∧ w.frozen? ⟨ga, b, none⟩ = false ∧ base ≤ ga ∧
      ∀ s, OwnRR (w.setCell ⟨ga, b, none⟩ (.int .i64 (ent t a b + s))) base v vs (bump t a b s) ∧ w.grownBy (w.setCell ⟨ga, b, none⟩ (.int .i64 (ent t a b + s))) (some ga) := by
  have hl := hs.len
  have hat : a < t.length := by omega
  have hav : a < vs.length := by rw [h.len]; exact hat
  have hra := hs.row a hat
  have O := h.each a hav hat
  obtain ⟨ga, ca, e, hbg, _, z0, f0⟩ := O.spot (k := b) (by omega)
  rcases id h.row.2 with ⟨_, hn⟩ | ⟨g, cap, cur, rfl, _⟩
  · omega
  · rw [hra] at e
    refine ⟨g, cap, ga, ca, by rw [hl], by rw [List.getElem?_eq_getElem hav, e], ?_, by rw [ent_of hat (by omega)]; exact z0, f0, hbg, fun s => ?_⟩
    · rw [World.ownsRow.cellAt h.row a (by omega), List.getElem?_eq_getElem hav, e]
    · rw [e] at O
      obtain ⟨s1, g1⟩ := O.set hra.symm b (ent t a b + s)
      refine ⟨?_, g1⟩
      have := h.turn (k := a) (zs := t[a].set b (ent t a b + s)) hav (by rw [e]; exact s1) (by rw [e]; exact g1)
      unfold bump
      rw [getD_row hat]
      exact this
end Go.Proofs.Ythijfipjfdmoeaa

/- What TwistOf, TotalTwist, WoundPairs, IsUntwisted and LeastUndoing answer, over the table of twists. No condition. -/
namespace Go.Proofs.Ythijfipjfdmoeaa
set_option linter.unusedVariables false
set_option linter.unusedSimpArgs false
open Go.RowKit

theorem tab_len (n : Int) (ls : List RCross) : (twistTab n ls).length ≤ 7 ∧ Square (twistTab n ls).length (twistTab n ls) ∧ ∀ i k, i < (twistTab n ls).length → k < (twistTab n ls).length → -40 ≤ ent (twistTab n ls) i k ∧ ent (twistTab n ls) i k ≤ 40 := by
  unfold twistTab
  by_cases h : crossOk n ls = true
  · rw [if_pos h]
    obtain ⟨h1, _, h3, _⟩ := ok_fits h
    have sq := tab_square h ls.length (Nat.le_refl _)
    refine ⟨by rw [sq.len]; omega, by rw [sq.len]; exact sq, fun i k hi hk => ?_⟩
    rw [sq.len] at hi hk
    have := tab_small h hi hk ls.length (Nat.le_refl _)
    omega
  · rw [if_neg h]
    exact ⟨by simp, ⟨rfl, fun i hi => absurd hi (by simp)⟩, fun i k hi => absurd hi (by simp)⟩
def twistOf (n : Int) (ls : List RCross) (i k : Int) : Int :=
  if inB i 0 (((twistTab n ls).length : Int) - 1) = true ∧ inB k 0 (((twistTab n ls).length : Int) - 1) = true then ent (twistTab n ls) i.toNat k.toNat else 0
def totTo (ls : List RCross) : Nat → Int
  | 0 => 0
  | k + 1 => totTo ls k + sgn (ls.getD k RCross.zero)
def totalTw (n : Int) (ls : List RCross) : Int := if crossOk n ls = true then totTo ls ls.length else 0
theorem tot_small (ls : List RCross) (k : Nat) : -(k : Int) ≤ totTo ls k ∧ totTo ls k ≤ (k : Int) := by
  induction k with
  | zero => rw [totTo]; omega
  | succ k ih => have := sgn_small (ls.getD k RCross.zero); rw [totTo]; omega
/-- The wound pairs of i with those from i + 1 to k. -/
def woundK (t : List (List Int)) (i : Nat) : Nat → List (List Int)
  | 0 => []
  | k + 1 => woundK t i k ++ if i < k ∧ ent t i k ≠ 0 then [[(i : Int), (k : Int)]] else []
def woundI (t : List (List Int)) : Nat → List (List Int)
  | 0 => []
  | i + 1 => woundI t i ++ woundK t i t.length
def woundPs (n : Int) (ls : List RCross) : List (List Int) := woundI (twistTab n ls) (twistTab n ls).length
theorem woundK_low (t : List (List Int)) (i k : Nat) (h : k ≤ i + 1) : woundK t i k = [] := by
  induction k with
  | zero => rfl
  | succ k ih => rw [woundK, ih (by omega), if_neg (by omega)]; rfl
theorem woundK_len (t : List (List Int)) (i k : Nat) : (woundK t i k).length ≤ k := by
  induction k with
  | zero => exact Nat.le_refl _
  | succ k ih => rw [woundK, List.length_append]; split <;> simp <;> omega
theorem woundI_len (t : List (List Int)) (i : Nat) : (woundI t i).length ≤ i * t.length := by
  induction i with
  | zero => simp [woundI]
  | succ i ih =>
    have := woundK_len t i t.length
    rw [woundI, List.length_append, Nat.succ_mul]
    omega
theorem woundPs_len (n : Int) (ls : List RCross) : (woundPs n ls).length ≤ 49 := by
  have h1 := woundI_len (twistTab n ls) (twistTab n ls).length
  have h2 := (tab_len n ls).1
  have h3 : (twistTab n ls).length * (twistTab n ls).length ≤ 7 * 7 := Nat.mul_le_mul h2 h2
  unfold woundPs
  omega
def absI (x : Int) : Int := if x < 0 then -x else x
def leastK (t : List (List Int)) (i : Nat) : Nat → Int
  | 0 => 0
  | k + 1 => leastK t i k + absI (ent t i k)
def leastI (t : List (List Int)) : Nat → Int
  | 0 => 0
  | i + 1 => leastI t i + leastK t i i
def leastUn (n : Int) (ls : List RCross) : Int := if crossOk n ls = true then leastI (twistTab n ls) n.toNat else -1
theorem leastK_small {t : List (List Int)} {i m : Nat} (h : ∀ k, k < m → -40 ≤ ent t i k ∧ ent t i k ≤ 40) : ∀ k, k ≤ m → 0 ≤ leastK t i k ∧ leastK t i k ≤ 40 * (k : Int) := by
  intro k
  induction k with
  | zero => intro _; rw [leastK]; omega
  | succ k ih =>
    intro hk
    have := ih (by omega)
    have := h k (by omega)
    rw [leastK]
    unfold absI
    split <;> omega
theorem leastI_small {t : List (List Int)} {m : Nat} (hm : m ≤ 7) (h : ∀ i k, i < m → k < m → -40 ≤ ent t i k ∧ ent t i k ≤ 40) : ∀ i, i ≤ m → 0 ≤ leastI t i ∧ leastI t i ≤ 280 * (i : Int) := by
  intro i
  induction i with
  | zero => intro _; rw [leastI]; omega
  | succ i ih =>
    intro hi
    have := ih (by omega)
    have := leastK_small (t := t) (i := i) (m := m) (fun k hk => h i k (by omega) hk) i (by omega)
    rw [leastI]
    omega
def untw (n : Int) (ls : List RCross) : Bool := crossOk n ls && (decide ((if orderOk (ordAfter n ls) = true then (invs (ordAfter n ls) : Int) else -1) = 0) && decide ((woundPs n ls).length = 0))
/-- A square table's row, as it lies. -/
theorem OwnR.entryR {w : World} {base n i k : Nat} {v : Value} {t : List (List Int)} (h : OwnR w base v t) (hs : Square n t) (hi : i < n) (hk : k < n) :
    ∃ g c ga ca, v = .slice (some ⟨g, 0, none⟩) n c ∧ w.cell? ⟨g, i, none⟩ = some (.slice (some ⟨ga, 0, none⟩) n ca) ∧ w.cell? ⟨ga, k, none⟩ = some (.int .i64 (ent t i k)) := by
  obtain ⟨vs, h⟩ := h
  obtain ⟨g, c, ga, ca, e1, _, e3, e4, _⟩ := h.entry hs hi hk
  exact ⟨g, c, ga, ca, e1, e3, e4⟩
theorem tab_row (n : Int) (ls : List RCross) (k : Nat) (h : k < (twistTab n ls).length) : (twistTab n ls)[k].length ≤ 7 := by
  obtain ⟨h1, h2, _⟩ := tab_len n ls
  rw [h2.row k h]
  exact h1
theorem tab_up (n : Int) (ls : List RCross) : upTo (twistTab n ls) (twistTab n ls).length ≤ 49 := by
  have h1 := up_le (tab_row n ls)
  have h2 := (tab_len n ls).1
  omega
theorem woundK_two (t : List (List Int)) (i : Nat) : ∀ k, ∀ z ∈ woundK t i k, z.length = 2 := by
  intro k
  induction k with
  | zero => exact fun z hz => by cases hz
  | succ k ih =>
    intro z hz
    rw [woundK] at hz
    rcases List.mem_append.1 hz with c | c
    · exact ih z c
    · split at c
      · rw [List.mem_singleton.1 c]; rfl
      · cases c
theorem woundI_two (t : List (List Int)) : ∀ i, ∀ z ∈ woundI t i, z.length = 2 := by
  intro i
  induction i with
  | zero => exact fun z hz => by cases hz
  | succ i ih =>
    intro z hz
    rw [woundI] at hz
    rcases List.mem_append.1 hz with c | c
    · exact ih z c
    · exact woundK_two t i _ z c
theorem woundPs_row (n : Int) (ls : List RCross) (k : Nat) (h : k < (woundPs n ls).length) : (woundPs n ls)[k].length ≤ 2 := Nat.le_of_eq (woundI_two _ _ _ (List.getElem_mem h))
theorem woundPs_up (n : Int) (ls : List RCross) : upTo (woundPs n ls) (woundPs n ls).length ≤ 98 := by
  have h1 := up_le (woundPs_row n ls)
  have h2 := woundPs_len n ls
  omega
end Go.Proofs.Ythijfipjfdmoeaa

/- What FullTurn and BringHome answer. No condition. -/
namespace Go.Proofs.Ythijfipjfdmoeaa
set_option linter.unusedVariables false
set_option linter.unusedSimpArgs false
open Go.RowKit

/-- A row of crossings of the call's own and a bool. -/
def CrossB (w : World) (r : List RCross × Bool) (e : Ending) (w' : World) : Prop := ∃ v, e = .returned (.tuple #[v, .bool r.2]) ∧ OwnCross w' w.heap.size v r.1 ∧ Below w.heap.size w w'
/-- m crossings from k - 1 down, behind. -/
def downL (k : Nat) : Nat → List RCross
  | 0 => []
  | m + 1 => downL k m ++ [⟨(k : Int) - 1 - (m : Int), false⟩]
/-- m crossings from i + 1 up, in front. -/
def upL (i : Nat) : Nat → List RCross
  | 0 => []
  | m + 1 => upL i m ++ [⟨(i : Int) + 1 + (m : Int), true⟩]
theorem downL_len (k m : Nat) : (downL k m).length = m := by
  induction m with
  | zero => rfl
  | succ m ih => rw [downL, List.length_append, ih]; rfl
theorem upL_len (i m : Nat) : (upL i m).length = m := by
  induction m with
  | zero => rfl
  | succ m ih => rw [upL, List.length_append, ih]; rfl
def turnL (i k : Nat) (f : Bool) : List RCross := downL k (k - 1 - i) ++ [⟨(i : Int), f⟩, ⟨(i : Int), f⟩] ++ upL i (k - 1 - i)
def fullTurn (n i k : Int) (f : Bool) : List RCross × Bool := if inB n 2 7 = true ∧ inB k 1 (n - 1) = true ∧ inB i 0 (k - 1) = true then (turnL i.toNat k.toNat f, true) else ([], false)
theorem turn_no {n i k : Int} {f : Bool} (h : inB n 2 7 = false ∨ inB k 1 (n - 1) = false ∨ inB i 0 (k - 1) = false) : fullTurn n i k f = ([], false) := by
  unfold fullTurn
  rw [if_neg (by rintro ⟨h1, h2, h3⟩; rcases h with h | h | h <;> simp_all)]
theorem fullTurn_len (n i k : Int) (f : Bool) : (fullTurn n i k f).1.length ≤ 14 := by
  unfold fullTurn
  split
  · next h =>
    have h1 : 2 ≤ n ∧ n ≤ 7 := by simpa [inB] using h.1
    have h2 : 1 ≤ k ∧ k ≤ n - 1 := by simpa [inB] using h.2.1
    simp only [turnL, List.length_append, downL_len, upL_len, List.length_cons, List.length_nil]
    omega
  · simp
def frontL (ss : List Int) : List RCross := ss.map fun s => ⟨s, true⟩
theorem frontL_more {ss : List Int} {k : Nat} (h : k < ss.length) : frontL (ss.take (k + 1)) = frontL (ss.take k) ++ [⟨ss[k], true⟩] := by
  unfold frontL
  rw [List.take_succ_eq_append_getElem h, List.map_append]
  rfl
def bringHome (n : Int) (ls : List RCross) : List RCross × Bool := if crossOk n ls = true then (frontL (sortSwaps (ordAfter n ls)), true) else ([], false)
theorem bringHome_len (n : Int) (ls : List RCross) : (bringHome n ls).1.length ≤ 49 := by
  unfold bringHome
  split
  · simp only [frontL, List.length_map]
    exact sortSwaps_len _
  · simp
def repL (x : List RCross) : Nat → List RCross
  | 0 => []
  | m + 1 => repL x m ++ x
theorem repL_len (x : List RCross) (m : Nat) : (repL x m).length = m * x.length := by
  induction m with
  | zero => simp [repL]
  | succ m ih => rw [repL, List.length_append, ih, Nat.succ_mul]
/-- How often a pair is turned back. -/
def halfOf (t : Int) : Nat := (absI t).toNat / 2
def unwAt (n : Int) (ls : List RCross) (z : List Int) : List RCross :=
  repL (fullTurn n (atI z 0) (atI z 1) (decide (twistOf n ls (atI z 0) (atI z 1) < 0))).1 (halfOf (twistOf n ls (atI z 0) (atI z 1)))
def unwTo (n : Int) (ls : List RCross) : Nat → List RCross
  | 0 => []
  | k + 1 => unwTo n ls k ++ unwAt n ls ((woundPs n ls).getD k [])
theorem twistOf_small (n : Int) (ls : List RCross) (i k : Int) : -40 ≤ twistOf n ls i k ∧ twistOf n ls i k ≤ 40 := by
  unfold twistOf
  split
  · next h =>
    have h1 : 0 ≤ i ∧ i ≤ ((twistTab n ls).length : Int) - 1 := by simpa [inB] using h.1
    have h2 : 0 ≤ k ∧ k ≤ ((twistTab n ls).length : Int) - 1 := by simpa [inB] using h.2
    exact (tab_len n ls).2.2 i.toNat k.toNat (by omega) (by omega)
  · omega
theorem half_small {t : Int} (h : -40 ≤ t ∧ t ≤ 40) : halfOf t ≤ 20 := by
  unfold halfOf absI
  split <;> omega
theorem unwAt_len (n : Int) (ls : List RCross) (z : List Int) : (unwAt n ls z).length ≤ 280 := by
  unfold unwAt
  rw [repL_len]
  have h1 := half_small (twistOf_small n ls (atI z 0) (atI z 1))
  have h2 := fullTurn_len n (atI z 0) (atI z 1) (decide (twistOf n ls (atI z 0) (atI z 1) < 0))
  exact Nat.le_trans (Nat.mul_le_mul h1 h2) (by decide)
theorem unwTo_len (n : Int) (ls : List RCross) (k : Nat) : (unwTo n ls k).length ≤ 280 * k := by
  induction k with
  | zero => exact Nat.le_refl _
  | succ k ih =>
    have := unwAt_len n ls ((woundPs n ls).getD k [])
    rw [unwTo, List.length_append]
    omega
def homeInv (n : Int) (ls : List RCross) : Int := if orderOk (ordAfter n ls) = true then (invs (ordAfter n ls) : Int) else -1
def unwindAll (n : Int) (ls : List RCross) : List RCross × Bool := if crossOk n ls = true ∧ homeInv n ls = 0 then (unwTo n ls (woundPs n ls).length, true) else ([], false)
theorem unwind_no {n : Int} {ls : List RCross} (h : crossOk n ls = false ∨ ¬ homeInv n ls = 0) : unwindAll n ls = ([], false) := by
  unfold unwindAll
  rw [if_neg (by rintro ⟨h1, h2⟩; rcases h with h | h; · rw [h] at h1; cases h1
                 · exact h h2)]
theorem unwindAll_len (n : Int) (ls : List RCross) : (unwindAll n ls).1.length ≤ 13720 := by
  unfold unwindAll
  split
  · have h1 := unwTo_len n ls (woundPs n ls).length
    have h2 := woundPs_len n ls
    simp only
    omega
  · simp
end Go.Proofs.Ythijfipjfdmoeaa

/- An own row of Cross behind another, and a row of one (made by gen_rec.py). Condition: the structs lie in rows of their own. -/
namespace Go.Proofs.Ythijfipjfdmoeaa
set_option linter.unusedVariables false
set_option linter.unusedSimpArgs false
open Go.RowKit

theorem flatCross_one (ls : List RCross) : ∀ u ∈ flatCross ls, u.oneCell' = true := by
  intro u hu
  unfold flatCross at hu
  rw [List.mem_flatMap] at hu
  obtain ⟨l, _, hu⟩ := hu
  simp only [RCross.cells, List.mem_cons, List.not_mem_nil, or_false] at hu
  rcases hu with rfl | rfl <;> rfl
theorem oneCross (w : World) (base : Nat) (l : RCross) (hb : base ≤ w.heap.size) : OwnCross (w.alloc (.cells #[.int .i64 l.f0, .bool l.f1] 56)) base (.slice (some ⟨w.heap.size, 0, none⟩) 1 1) [l] :=
  ⟨rfl, .inr ⟨w.heap.size, 1, #[.int .i64 l.f0, .bool l.f1], rfl, hb, heap_alloc_new w _, Nat.le_refl _, by simp only [maxLen]; omega, rfl, rfl⟩⟩
theorem mineCross {w w1 w2 : World} {base : Nat} {v : Value} {ls : List RCross} (hb : Below base w w1) (hs : base ≤ w1.heap.size) (h : OwnCross w1 base v ls) (hg : w1.grownBy w2 v.ownBlock) : Below base w w2 := hb.grown hg hs (fun k hk => (h.lt k hk).1)
theorem OwnCross.dr {w : World} {base : Nat} {v : Value} {ls : List RCross} (h : OwnCross w base v ls) : OwnCross w.drew base v ls := h.below ((Below.refl _ _).drew)
theorem flatCross_take (ls : List RCross) (k : Nat) : flatCross (ls.take k) = (flatCross ls).take (k * 2) := by
  induction ls generalizing k with
  | nil => simp [flatCross]
  | cons l ls ih =>
    cases k with
    | zero => simp [flatCross]
    | succ k =>
      rw [List.take_succ_cons, flatCross_cons, flatCross_cons, ih k, show (k + 1) * 2 = k * 2 + 1 + 1 by omega]
      simp only [List.take_succ_cons]
theorem lowCross {w : World} {base g n c k : Nat} {ls : List RCross} (h : OwnCross w base (.slice (some ⟨g, 0, none⟩) n c) ls) (hk : k ≤ ls.length) : OwnCross w base (.slice (some ⟨g, 0, none⟩) k c) (ls.take k) := by
  obtain ⟨h1, h2⟩ := h
  rcases h2 with ⟨h3, _⟩ | ⟨g', cap, cur, e, hb, hg, hnc, hcm, hcs, htake⟩
  · simp at h3
  · simp only [Value.slice.injEq, Option.some.injEq, Addr.mk.injEq, and_true, true_and] at e
    obtain ⟨rfl, hn, rfl⟩ := e
    have hl : (ls.take k).length = k := by rw [List.length_take]; omega
    refine ⟨by rw [flatCross_len], .inr ⟨g, c, cur, by rw [hl], hb, hg, by omega, hcm, hcs, ?_⟩⟩
    rw [hl, flatCross_take, ← htake, List.take_take]
    congr 1
    omega
theorem capCross {w : World} {base g n c : Nat} {ls : List RCross} (h : OwnCross w base (.slice (some ⟨g, 0, none⟩) n c) ls) : n ≤ c ∧ c ≤ maxLen := by
  obtain ⟨h1, h2⟩ := h
  rcases h2 with ⟨h3, _⟩ | ⟨g', cap, cur, e, hb, hg, hnc, hcm, hcs, htake⟩
  · simp at h3
  · simp only [Value.slice.injEq, Option.some.injEq, Addr.mk.injEq, and_true, true_and] at e
    obtain ⟨rfl, rfl, rfl⟩ := e
    exact ⟨hnc, hcm⟩
/-- One own row behind another: what came is nil, empty or holds limbs. -/
theorem run_rowsCross (w : World) (ty : TypeId) (base b2 : Nat) (v x : Value) (xs ys : List RCross) (h1 : OwnCross w base v xs) (h2 : OwnCross w b2 x ys) (hl : xs.length + ys.length ≤ 4000000) (hB : base ≤ w.heap.size) :
    ∃ v' w', (Builtin.append_ #[24, 24] ty #[v, x]).run Try.prog w = .ok v' w' ∧ OwnCross w' base v' (xs ++ ys) ∧ w.grownBy w' v.ownBlock ∧ (v'.ownBlock = v.ownBlock ∨ v'.ownBlock = some w.heap.size) := by
  obtain ⟨i, hi, hz, hs, hb⟩ := info_parts infoCross
  rcases id h2.2 with ⟨rfl, hn⟩ | ⟨g, cap, cur, rfl, _⟩
  · have hy : ys = [] := List.eq_nil_of_length_eq_zero hn
    subst hy
    refine ⟨v, w, ?_, by simpa using h1, World.grownBy.refl w _, .inl rfl⟩
    rcases h1.2 with ⟨rfl, _⟩ | ⟨g, cap, cur, rfl, _, _, hnc, _⟩
    · simp [Builtin.append_, run_underlying Try.underlying24, sizeOf, typeInfo, hi, Builtin.lenOf, Builtin.firstCells]
    · simp [Builtin.append_, run_underlying Try.underlying24, sizeOf, typeInfo, hi, Builtin.lenOf, Builtin.firstCells, hnc, storeCells]
  · obtain ⟨v', w', hr, o, g1, _, hat⟩ := run_append_own_at (P := Try.prog) w base 24 ty 56 i RCross.zero.val 2 16 Try.underlying24 hi hz hs hb rfl (by omega) v xs.length (flatCross xs) h1
      ⟨g, 0, none⟩ ys.length cap (flatCross ys) (flatCross_len ys) (World.ownsRow.cells h2 rfl) (flatCross_one ys) (by simp only [maxLen]; omega) (by omega) hB
    refine ⟨v', w', hr, ?_, g1, hat⟩
    unfold OwnCross
    rw [List.length_append, flatCross_append]
    exact o
section
variable {w : World} {o : Oper} {a : Act} {Q : Exit → Act → World → Prop}
theorem wp_rowsCross {K : Act → World → Prop} (s y : Operand) (ho : o.op = .call { callee := .builtin .append, args := #[s, y], argTypes := #[24, 24] })
    (base b2 : Nat) (v x : Value) (xs ys : List RCross) (hs : a.eval s = v) (hy : a.eval y = x) (h1 : OwnCross w base v xs) (h2 : OwnCross w b2 x ys) (hl : xs.length + ys.length ≤ 4000000) (hB : base ≤ w.heap.size)
    (h : ∀ v' w', OwnCross w' base v' (xs ++ ys) → w.grownBy w' v.ownBlock → (v'.ownBlock = v.ownBlock ∨ v'.ownBlock = some w.heap.size) → K (a.put o.dst v') w') : o.wp Try.prog a w K Q := by
  obtain ⟨v', w', hrun, e2, e3, e4⟩ := run_rowsCross w o.type base b2 v x xs ys h1 h2 hl hB
  unfold Oper.wp execOp
  simp only [ho, resolve, invoke, builtin, Sem.run_bind, Sem.run_pure, Result.andThen_ok, List.map_toArray, List.map_cons, List.map_nil, hs, hy, hrun]
  exact h v' w' e2 e3 e4
theorem wpList_rowsCross {ops : Array Oper} {rest : List Oper} (hgd : o.guard = none) (s y : Operand) (ho : o.op = .call { callee := .builtin .append, args := #[s, y], argTypes := #[24, 24] })
    (base b2 : Nat) (v x : Value) (xs ys : List RCross) (hs : a.eval s = v) (hy : a.eval y = x) (h1 : OwnCross w base v xs) (h2 : OwnCross w b2 x ys) (hl : xs.length + ys.length ≤ 4000000) (hB : base ≤ w.heap.size)
    (h : ∀ v' w', OwnCross w' base v' (xs ++ ys) → w.grownBy w' v.ownBlock → (v'.ownBlock = v.ownBlock ∨ v'.ownBlock = some w.heap.size) → wpList Try.prog ops Q rest (a.put o.dst v') w') : wpList Try.prog ops Q (o :: rest) a w :=
  wpList_plain hgd fun _ hK => wp_rowsCross s y ho base b2 v x xs ys hs hy h1 h2 hl hB fun v' w' e2 e3 e4 => hK _ _ (h v' w' e2 e3 e4)
theorem step_rowsCross {ops : Array Oper} {K : Act → World → Prop} {E : Prop} (hgd : o.guard = none) (s y : Operand) (ho : o.op = .call { callee := .builtin .append, args := #[s, y], argTypes := #[24, 24] })
    (base b2 : Nat) (v x : Value) (xs ys : List RCross) (hs : a.eval s = v) (hy : a.eval y = x) (h1 : OwnCross w base v xs) (h2 : OwnCross w b2 x ys) (hl : xs.length + ys.length ≤ 4000000) (hB : base ≤ w.heap.size)
    (h : ∀ v' w', OwnCross w' base v' (xs ++ ys) → w.grownBy w' v.ownBlock → (v'.ownBlock = v.ownBlock ∨ v'.ownBlock = some w.heap.size) → K (a.put o.dst v') w') :
    if Region.wanted o (yielded ops a.tmps) = true then Oper.wp Try.prog o a w K Q else E := by
  have hw : Region.wanted o (yielded ops a.tmps) = true := by simp [Region.wanted, hgd]
  rw [if_pos hw]
  exact wp_rowsCross s y ho base b2 v x xs ys hs hy h1 h2 hl hB h
end
end Go.Proofs.Ythijfipjfdmoeaa

/- The contracts of slices.Grow at nil and slices.Concat at two rows of crossings, and of the program's followedBy and leftInFront. Condition: the crossings lie in rows of their own. -/
namespace Go.Proofs.Ythijfipjfdmoeaa
set_option linter.unusedVariables false
set_option linter.unusedSimpArgs false
open Go.RowKit

theorem ownCross_none (w : World) (base : Nat) : OwnCross w base (.slice none 0 0) [] := ⟨rfl, .inl ⟨rfl, rfl⟩⟩

set_option maxRecDepth 100000 in
set_option maxHeartbeats 1600000 in
theorem growX (n : Nat) (w : World) (hn : n ≤ 4000000) :
    Calls Try.prog 69 #[.slice none 0 0, .int .i64 (n : Int)] w (CrossPost w []) := by
  rcases Nat.eq_zero_or_pos n with rfl | hp
  · go_enter Try.func69, Try.ntmps69
    go_wp2
    go_ret
    exact ⟨_, rfl, ownCross_none _ _, Below.refl _ _⟩
  obtain ⟨i, hi, hz, hs, hb⟩ := info_parts infoCross
  have hrz := fun ty => Lib.run_append_nil_zeros (P := Try.prog) w 24 3 ty 56 i RCross.zero.val .i64 .i64 Try.underlying24 Try.underlying3 hi hz n hp (by omega) (by omega) (by rw [hb]; omega)
  have hge : n ≤ grownCap w n 0 56 := grownCap_ge w _ _ _
  have hle : grownCap w n 0 56 ≤ maxLen := grownCap_le_maxLen w _ _ _ (by simp only [maxLen]; omega)
  generalize grownCap w n 0 56 = G at hrz hge hle
  have hcs : (Builtin.zeroCells RCross.zero.val.cells n ++ Builtin.zeroCells RCross.zero.val.cells (G - n)).size = G * 2 := by
    rw [Array.size_append, size_zeroCells, size_zeroCells, ← Nat.add_mul, show n + (G - n) = G by omega]; rfl
  generalize Builtin.zeroCells RCross.zero.val.cells n ++ Builtin.zeroCells RCross.zero.val.cells (G - n) = CS at hrz hcs
  have OWN := Lib.hid (show OwnCross (w.drew.alloc (.cells CS 56)) w.heap.size (.slice (some ⟨w.heap.size, 0, none⟩) 0 G) [] from
    ⟨rfl, .inr ⟨w.heap.size, G, CS, rfl, Nat.le_refl _, heap_alloc_new w.drew _, Nat.zero_le _, hle, hcs, by simp [flatCross]⟩⟩)
  have BEL := Lib.hid (((Below.refl w.heap.size w).drew).alloc (Nat.le_refl _) (.cells CS 56))
  have hn0 : ¬ (n : Int) < 0 := by omega
  have hn1 : (0 : Int) < (n : Int) := by omega
  have hG : G ≤ 9223372036854775807 := by simp only [maxLen] at hle; omega
  clear hs hb hi hz hcs
  go_enter Try.func69, Try.ntmps69
  go_wp2_with (at_builtin; refine Lib.wpList_append_run _ rfl _ _ _ _ rfl _ _ rfl rfl _ _ (hrz _) ?_)
  all_goals
    go_ret
    exact ⟨_, rfl, OWN.out, BEL.out⟩

/-- How many crossings stand in the first k of two rows. -/
def catN (a b : Nat) : Nat → Nat
  | 0 => 0
  | 1 => a
  | _ => a + b
def catL (xs ys : List RCross) : Nat → List RCross
  | 0 => []
  | 1 => xs
  | _ => xs ++ ys

set_option maxRecDepth 100000 in
set_option maxHeartbeats 1600000 in
theorem concatX (g : Nat) (v1 v2 : Value) (xs ys : List RCross) (b1 b2 : Nat) (w : World) (hg : g < w.heap.size) (c1 : w.cell? ⟨g, 0, none⟩ = some v1) (c2 : w.cell? ⟨g, 1, none⟩ = some v2)
    (h1 : OwnCross w b1 v1 xs) (h2 : OwnCross w b2 v2 ys) (hx : xs.length ≤ 2000000) (hy : ys.length ≤ 2000000) :
    Calls Try.prog 58 #[.slice (some ⟨g, 0, none⟩) 2 2] w (CrossPost w (xs ++ ys)) := by
  obtain ⟨A, c, rfl⟩ := h1.slice
  obtain ⟨P, p, rfl⟩ := h2.slice
  have O1 := Lib.hid h1
  have O2 := Lib.hid h2
  have X1 := Lib.hid (fun W (hb : Below w.heap.size w W) => (show W.cell? ⟨g, 0, none⟩ = some (.slice A xs.length c) from (hb.cell hg).trans c1))
  have X2 := Lib.hid (fun W (hb : Below w.heap.size w W) => (show W.cell? ⟨g, 1, none⟩ = some (.slice P ys.length p) from (hb.cell hg).trans c2))
  have GX := Lib.hid (fun W => growX (xs.length + ys.length) W (by omega))
  have e0 : IntKind.i64.wrap ((xs.length : Int)) = (xs.length : Int) := IntWalk.i64_in _ (by omega)
  have e1 : IntKind.i64.wrap ((xs.length : Int) + (ys.length : Int)) = ((xs.length + ys.length : Nat) : Int) := by rw [IntWalk.i64_in _ (by omega)]; omega
  have hx0 : ¬ (xs.length : Int) < 0 := by omega
  have hx1 : ¬ ((xs.length + ys.length : Nat) : Int) < 0 := by omega
  have HX := Lib.hid hx
  have HY := Lib.hid hy
  clear h1 h2
  go_enter Try.func58, Try.ntmps58
  go_wp2_with fail
  go_loopw [3, 11] (fun sv iv wr => w = wr ∧ ∃ k : Nat, k ≤ 2 ∧ iv = .int .i64 (k : Int) ∧ sv = .int .i64 ((catN xs.length ys.length k : Nat) : Int)) (fun _ iv _ => 2 - (intOf iv).toNat)
  case atStart => exact ⟨rfl, 0, by omega, rfl, rfl⟩
  case round =>
    obtain ⟨rfl, k, hk, rfl, rfl⟩ := hrel
    rcases (by omega : k = 0 ∨ k = 1 ∨ k = 2) with rfl | rfl | rfl
    · simp only [catN]
      go_wp2
      exact ⟨⟨trivial, 1, by omega, by go_num, by simp [catN]⟩, by simp [intOf]⟩
    · simp only [catN]
      go_wp2
      exact ⟨⟨trivial, 2, by omega, by go_num, by simp [catN]⟩, by simp [intOf]⟩
    · simp only [catN]
      clear c1 c2
      go_wp2_with (go_at_call 69; refine (GX.out _).mono ?_; rintro e w1 ⟨v0, rfl, o0, b0⟩; have O0 := Lib.hid o0; have B0 := Lib.hid b0; clear o0 b0)
      go_loopw [6, 27] (fun ov iv wr => ∃ (k : Nat) (vo : Value), vo = ov ∧ k ≤ 2 ∧ iv = .int .i64 (k : Int) ∧ Hid (OwnCross wr w.heap.size vo (catL xs ys k)) ∧ Hid (Below w.heap.size w wr)) (fun _ iv _ => 2 - (intOf iv).toNat)
      case atStart => exact ⟨0, _, rfl, by omega, rfl, O0, B0⟩
      case round =>
        clear O0 B0
        obtain ⟨k, vo, rfl, hk, rfl, OO, BW⟩ := hrel
        have d1 := X1.out _ BW.out
        have d2 := X2.out _ BW.out
        have hsz := BW.out.size
        have P1 := Lib.hid (O1.out.below BW.out)
        have P2 := Lib.hid (O2.out.below BW.out)
        rcases (by omega : k = 0 ∨ k = 1 ∨ k = 2) with rfl | rfl | rfl
        · simp only [catL] at OO
          go_wp2_with (at_builtin; refine wpList_rowsCross rfl (.tmp 31) (.tmp 32) rfl w.heap.size b1 vo (.slice A xs.length c) [] xs rfl rfl OO.out P1.out ?_ ?_ ?_; (have := HX.out; simp; omega); (exact hsz); intro v3 w3 o3 g3 hat3; have B3 := Lib.hid (mineCross BW.out hsz OO.out g3); have O3 := Lib.hid o3; clear o3 g3 hat3)
          exact ⟨⟨1, _, rfl, by omega, by go_num, O3, B3⟩, by simp [intOf]⟩
        · simp only [catL] at OO
          go_wp2_with (at_builtin; refine wpList_rowsCross rfl (.tmp 31) (.tmp 32) rfl w.heap.size b2 vo (.slice P ys.length p) xs ys rfl rfl OO.out P2.out ?_ ?_ ?_; (have := HX.out; have := HY.out; omega); (exact hsz); intro v3 w3 o3 g3 hat3; have B3 := Lib.hid (mineCross BW.out hsz OO.out g3); have O3 := Lib.hid o3; clear o3 g3 hat3)
          exact ⟨⟨2, _, rfl, by omega, by go_num, O3, B3⟩, by simp [intOf]⟩
        · simp only [catL] at OO
          go_wp2
          go_ret
          exact ⟨_, rfl, OO.out, BW.out⟩

set_option maxRecDepth 100000 in
set_option maxHeartbeats 1600000 in
theorem followX (v1 v2 : Value) (xs ys : List RCross) (b1 b2 : Nat) (w : World) (h1 : OwnCross w b1 v1 xs) (h2 : OwnCross w b2 v2 ys) (hx : xs.length ≤ 2000000) (hy : ys.length ≤ 2000000) :
    Calls Try.prog 35 #[v1, v2] w (CrossPost w (xs ++ ys)) := by
  have hnew : (w.alloc (.cells #[v1, v2] 24)).heap[w.heap.size]? = some (.cells [v1, v2].toArray 24 (0, 0)) := heap_alloc_new w _
  have CC := Lib.hid (concatX w.heap.size v1 v2 xs ys b1 b2 (w.alloc (.cells #[v1, v2] 24)) (by simp) (World.news_of_block hnew 0 v1 rfl) (World.news_of_block hnew 1 v2 rfl) (h1.alloc _) (h2.alloc _) hx hy)
  obtain ⟨A, c, rfl⟩ := h1.slice
  obtain ⟨P, p, rfl⟩ := h2.slice
  clear h1 h2 hnew
  go_enter Try.func35, Try.ntmps35
  go_wp2_with fail
  refine CC.out.mono ?_
  rintro e w1 ⟨v0, rfl, o0, b0⟩
  go_wp2
  go_ret
  exact ⟨_, rfl, o0.mono (by simp), ((Below.refl w.heap.size w).alloc (Nat.le_refl _) _).trans (b0.mono (by simp))⟩

set_option maxRecDepth 100000 in
set_option maxHeartbeats 1600000 in
theorem leftX (K I D : Nat) (hK : K = I + 1 + D) (h7 : K ≤ 7) (w : World) :
    Calls Try.prog 40 #[.int .i64 (K : Int), .int .i64 ((I : Int) + 1)] w (CrossPost w (downL K D)) := by
  have HK := Lib.hid hK
  have FX := Lib.hid (fun v2 b1 b2 v1 xs y W h1 h2 hx => followX v1 v2 xs [y] b1 b2 W h1 h2 hx (by simp))
  clear hK
  go_enter Try.func40, Try.ntmps40
  go_wp2_with fail
  go_loopw [5, 6] (fun ov iv wr => ∃ (m : Nat) (vo : Value), vo = ov ∧ m ≤ D ∧ iv = .int .i64 ((K : Int) - (m : Int)) ∧ Hid (OwnCross wr w.heap.size vo (downL K m)) ∧ Hid (Below w.heap.size w wr)) (fun _ iv _ => (intOf iv).toNat)
  case atStart => exact ⟨0, _, rfl, by omega, by simp, Lib.hid (ownCross_none _ _), Lib.hid (Below.refl _ _)⟩
  case round =>
    obtain ⟨m, vo, rfl, hm, rfl, OO, BW⟩ := hrel
    have hd := HK.out
    have hsz := BW.out.size
    by_cases hlt : m < D
    · have hp : (I : Int) + 1 < (K : Int) - (m : Int) := by omega
      have ew : IntKind.i64.wrap ((K : Int) - (m : Int) - 1) = (K : Int) - 1 - (m : Int) := by rw [IntWalk.i64_in _ (by omega)]; omega
      have hlen := downL_len K m
      have DM := Lib.hid (show downL K (m + 1) = downL K m ++ [⟨(K : Int) - 1 - (m : Int), false⟩] from rfl)
      have MZ : ((K : Int) - 1 - (m : Int)).toNat < ((K : Int) - (m : Int)).toNat := by omega
      have NX : (K : Int) - 1 - (m : Int) = (K : Int) - ((m + 1 : Nat) : Int) := by omega
      have HNX := Lib.hid NX
      have ONE := Lib.hid (oneCross wr w.heap.size ⟨(K : Int) - 1 - (m : Int), false⟩ hsz)
      have C := Lib.hid (FX.out _ w.heap.size w.heap.size vo (downL K m) ⟨(K : Int) - 1 - (m : Int), false⟩ _ (OO.out.alloc _) ONE.out (by omega))
      rw [← DM.out] at C
      generalize (K : Int) - (m : Int) = p at hp ew MZ ⊢
      generalize (K : Int) - 1 - (m : Int) = q at ew MZ C HNX ⊢
      clear hlen NX DM ONE hd
      go_wp2_with fail
      refine C.out.mono ?_
      rintro e w1 ⟨v1, rfl, o1, b1⟩
      have O1 := Lib.hid (o1.mono (b := w.heap.size) (by simp; omega))
      have B1 := Lib.hid ((BW.out.alloc hsz _).trans (b1.mono (by simp; omega)))
      clear o1 b1 OO BW
      go_wp2
      exact ⟨⟨m + 1, _, rfl, by omega, by rw [HNX.out], O1, B1⟩, by simpa [intOf] using MZ⟩
    · obtain rfl : m = D := by omega
      have hp : ¬ (I : Int) + 1 < (K : Int) - (m : Int) := by omega
      generalize (K : Int) - (m : Int) = p at hp ⊢
      clear hd
      go_wp2
      go_ret
      exact ⟨_, rfl, OO.out, BW.out⟩
end Go.Proofs.Ythijfipjfdmoeaa

/- The contracts of the program's undoing and UndoCrosses. Condition: the crossings lie in a row of their own. -/
namespace Go.Proofs.Ythijfipjfdmoeaa
set_option linter.unusedVariables false
set_option linter.unusedSimpArgs false
open Go.RowKit

theorem undoM (x : Int) (y : Bool) (w : World) :
    Calls Try.prog 61 #[.agg #[.int .i64 x, .bool y]] w fun e w' => e = .returned (.agg #[.int .i64 x, .bool (!y)]) ∧ Below w.heap.size w w' := by
  go_enter Try.func61, Try.ntmps61
  go_wp2
  go_returns
  exact ⟨rfl, (((Below.refl w.heap.size w).alloc (Nat.le_refl _) _).alloc (by simp) _)⟩

theorem set_back {α : Type} (d : α) (m : Nat) (L : List α) (x : α) : (List.replicate (m + 1) d ++ L).set m x = List.replicate m d ++ x :: L := by
  rw [List.replicate_succ', List.append_assoc, List.set_append_right _ _ (by simp), List.length_replicate, Nat.sub_self]
  rfl
theorem undo_take {ls : List RCross} {k : Nat} (h : k < ls.length) : undo (ls.take (k + 1)) = turned ls[k] :: undo (ls.take k) := by
  unfold undo
  rw [List.take_add_one, List.getElem?_eq_getElem h, Option.toList_some, List.map_append, List.map_singleton, List.reverse_append]
  rfl

set_option maxRecDepth 100000 in
set_option maxHeartbeats 1600000 in
theorem implUndo (v : Value) (ls : List RCross) (b : Nat) (w : World) (h : OwnCross w b v ls) (hl : ls.length ≤ 2000000) :
    Calls Try.prog 41 #[v] w (CrossPost w (undo ls)) := by
  obtain ⟨i, hi, hz, hs, hb⟩ := info_parts infoCross
  obtain ⟨A, c, rfl⟩ := h.slice
  have O := Lib.hid h
  clear h
  have e1 : IntKind.i64.wrap ((ls.length : Int) - 1) = (ls.length : Int) - 1 := IntWalk.i64_in _ (by omega)
  go_enter Try.func41, Try.ntmps41
  go_wp2_with (refine wpList_make_full _ rfl _ _ 24 rfl w.heap.size 56 i RCross.zero.val 2 Try.underlying24 hi hz hs .i64 .i64 _ _ ls.length rfl rfl rfl rfl (by rw [hb]; omega) (by simp only [maxLen]; omega) (by simp) ?_; intro w1 own1 grown1)
  have O1 : Hid (OwnCross w1 w.heap.size (.slice (some ⟨w.heap.size, 0, none⟩) ls.length ls.length) (List.replicate (ls.length - 0) RCross.zero ++ undo (ls.take 0))) := Lib.hid (by
    unfold OwnCross
    simpa [madeCross, undo] using own1)
  have B1 := Lib.hid (below_of_grown grown1)
  clear own1 grown1
  go_loopw [11] (fun iv wr => ∃ k : Nat, k ≤ ls.length ∧ iv = .int .i64 (k : Int) ∧ Hid (OwnCross wr w.heap.size (.slice (some ⟨w.heap.size, 0, none⟩) ls.length ls.length) (List.replicate (ls.length - k) RCross.zero ++ undo (ls.take k))) ∧ Hid (Below w.heap.size w wr)) (fun iv _ => ls.length - (intOf iv).toNat)
  case atStart => exact ⟨0, by omega, rfl, O1, B1⟩
  case round =>
    clear O1 B1
    obtain ⟨k, hk, rfl, OO, BW⟩ := hrel
    by_cases hlt : k < ls.length
    rotate_left
    · obtain rfl : k = ls.length := by omega
      have F := Lib.hid (show OwnCross wr w.heap.size (.slice (some ⟨w.heap.size, 0, none⟩) ls.length ls.length) (undo ls) by simpa using OO.out)
      go_wp2
      go_ret
      exact ⟨_, rfl, F.out, BW.out⟩
    have hk0 : (0 : Int) ≤ (k : Int) := by omega
    have hk1 : (k : Int) < (ls.length : Int) := by omega
    obtain ⟨g, _, f1, _, _, z0, _⟩ := (O.out.below BW.out).spot hlt
    simp only [Value.slice.injEq] at f1
    obtain ⟨rfl, -, rfl⟩ := f1
    have r0 : wr.cell? ⟨g, k * 2, none⟩ = some (.int .i64 ls[k].f0) := z0 0 _ rfl
    have r1 : wr.cell? ⟨g, k * 2 + 1, none⟩ = some (.bool ls[k].f1) := z0 1 _ rfl
    have UT := Lib.hid (show undo (ls.take (k + 1)) = ⟨ls[k].f0, !ls[k].f1⟩ :: undo (ls.take k) from undo_take hlt)
    generalize ls[k].f0 = x at r0 UT
    generalize ls[k].f1 = y at r1 UT
    obtain ⟨m, hm⟩ : ∃ m, ls.length = m + 1 + k := ⟨ls.length - 1 - k, by omega⟩
    have e2 : IntKind.i64.wrap ((ls.length : Int) - 1 - (k : Int)) = (m : Int) := by rw [IntWalk.i64_in _ (by omega)]; omega
    have hm0 : (0 : Int) ≤ (m : Int) := by omega
    have hm1 : (m : Int) < (ls.length : Int) := by omega
    have ek : ls.length - k = m + 1 := by omega
    have ek2 : ls.length - (k + 1) = m := by omega
    have hlen : (List.replicate (m + 1) RCross.zero ++ undo (ls.take k)).length = ls.length := by rw [List.length_append, undo_len, List.length_replicate, List.length_take]; omega
    rw [ek] at OO
    have hbs := BW.out.size
    have OA := Lib.hid (fun o => OO.out.alloc o)
    have BA := Lib.hid (fun o => BW.out.alloc hbs o)
    clear z0 hm ek
    go_wp2_with fail
    refine (undoM x y _).mono ?_
    rintro e w2 ⟨rfl, b2⟩
    have own2 := (OO.out.alloc _).below b2
    have B2 := Lib.hid ((BW.out.alloc hbs _).trans (b2.mono (by simp; omega)))
    obtain ⟨⟨y0, t0⟩, ⟨y1, t1⟩, f0, f1⟩ := thereCross (own2.there (k := m) (by rw [hlen]; omega))
    have st := own2.set hlen.symm m ⟨x, !y⟩
    rw [set_back, ← UT.out] at st
    have ST := Lib.hid st
    clear own2 st hlen b2
    go_wp2
    exact ⟨⟨k + 1, by omega, by go_num, Lib.hid (by rw [ek2]; exact ST.out.1), Lib.hid (B2.out.grown ST.out.2 B2.out.size (fun q hq => by have := Option.some.inj hq; omega))⟩, by simp [intOf]; omega⟩
end Go.Proofs.Ythijfipjfdmoeaa
