/- The program's table of twists as mathematics: forty-nine numbers in one row, seven for each puppet. No condition. -/
import Derived.Test.YtokgcchcjaimhaaTwsM
namespace Go.Proofs.Ytokgcchcjaimhaa
set_option linter.unusedVariables false
set_option linter.unusedSimpArgs false
open Go.RowKit

def addA (cs : List Int) (p : Nat) (s : Int) : List Int := cs.set p (atI cs p + s)
def aftTo (n : Int) (ls : List RCross) : Nat → List Int
  | 0 => List.replicate 49 0
  | k + 1 => addA (addA (aftTo n ls k) (pa ((pairsOf n ls).getD k []) * 7 + pb ((pairsOf n ls).getD k [])) (sgn (ls.getD k RCross.zero))) (pb ((pairsOf n ls).getD k []) * 7 + pa ((pairsOf n ls).getD k [])) (sgn (ls.getD k RCross.zero))
theorem addA_len (cs : List Int) (p : Nat) (s : Int) : (addA cs p s).length = cs.length := by simp [addA]
theorem addA_at {cs : List Int} {p q : Nat} {s : Int} (hp : p < cs.length) : atI (addA cs p s) q = if q = p then atI cs p + s else atI cs q := by
  unfold addA atI
  rw [List.getD_eq_getElem?_getD, List.getElem?_set]
  by_cases e : p = q
  · subst e
    rw [if_pos rfl, if_pos rfl, if_pos hp]
    rfl
  · rw [if_neg e, if_neg (fun x => e x.symm), List.getD_eq_getElem?_getD]
theorem aft_len (n : Int) (ls : List RCross) : ∀ k, (aftTo n ls k).length = 49 := by
  intro k
  induction k with
  | zero => simp [aftTo]
  | succ k ih => rw [aftTo, addA_len, addA_len, ih]
theorem aft_ent {n : Int} {ls : List RCross} (h : crossOk n ls = true) {i j : Nat} (hi : i < n.toNat) (hj : j < n.toNat) : ∀ k, k ≤ ls.length → atI (aftTo n ls k) (i * 7 + j) = ent (tabTo n ls k) i j := by
  obtain ⟨hn7, _, _, _⟩ := ok_fits h
  intro k
  induction k with
  | zero =>
    intro _
    rw [tabTo, ent_zero hi hj, aftTo]
    unfold atI
    rw [List.getD_eq_getElem?_getD, List.getElem?_replicate]
    split <;> rfl
  | succ k ih =>
    intro hk
    obtain ⟨a, b, e, hab, ha, hb⟩ := duo_at h (k := k) (by omega)
    have e1 : pa [(a : Int), (b : Int)] = a := by simp [pa, atI]
    have e2 : pb [(a : Int), (b : Int)] = b := by simp [pb, atI]
    have hl := aft_len n ls k
    rw [tabTo, aftTo, e, ent_step (tab_square h k (by omega)) hab ha hb hi hj, e1, e2, addA_at (by rw [addA_len]; omega), addA_at (by omega), addA_at (by omega), ← ih (by omega)]
    by_cases c1 : i = b ∧ j = a
    · obtain ⟨rfl, rfl⟩ := c1
      rw [if_pos rfl, if_neg (by omega), if_pos (.inr ⟨rfl, rfl⟩)]
    · rw [if_neg (by omega)]
      by_cases c2 : i = a ∧ j = b
      · obtain ⟨rfl, rfl⟩ := c2
        rw [if_pos rfl, if_pos (.inl ⟨rfl, rfl⟩)]
      · rw [if_neg (by omega), if_neg (fun x => by rcases x with x | x; exact c2 x; exact c1 x)]
        omega
end Go.Proofs.Ytokgcchcjaimhaa
