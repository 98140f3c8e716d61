/- When a body is one: as plain mathematics, in the order in which the model asks. -/
import Derived.Test.YtblbmppbbhibeaaInts
namespace Go.Proofs.Ytblbmppbbhibeaa
set_option linter.unusedVariables false
set_option linter.unusedSimpArgs false

/-- One limb more: both ends in two different parts, which become one. -/
def joinStep (J : Int) (P : List Int) (l : Lb) : Option (List Int) :=
  if (0 ≤ l.a ∧ l.a ≤ J - 1) ∧ (0 ≤ l.b ∧ l.b ≤ J - 1) ∧ (1 ≤ l.n ∧ l.n ≤ 100) then
    if P.getD l.a.toNat 0 = P.getD l.b.toNat 0 then none
    else some (P.map fun z => if z = P.getD l.b.toNat 0 then P.getD l.a.toNat 0 else z)
  else none
def joinRun (J : Int) : List Lb → List Int → Option (List Int)
  | [], P => some P
  | l :: ls, P => (joinStep J P l).bind (joinRun J ls)
/-- Every joint a part of its own. -/
def apart (m : Nat) : List Int := (List.range m).map fun j => ((j : Nat) : Int)
def bodyOk (J : Int) (ls : List Lb) : Bool :=
  decide (1 ≤ J ∧ J ≤ 12) && (decide ((ls.length : Int) = J - 1) && (joinRun J ls (apart J.toNat)).isSome)

theorem bodyOk_range {J : Int} {ls : List Lb} (h : ¬ (1 ≤ J ∧ J ≤ 12)) : bodyOk J ls = false := by simp [bodyOk, h]
theorem bodyOk_count {J : Int} {ls : List Lb} (h : ¬ (ls.length : Int) = J - 1) : bodyOk J ls = false := by simp [bodyOk, h]
theorem bodyOk_run {J : Int} {ls : List Lb} (h1 : 1 ≤ J ∧ J ≤ 12) (h2 : (ls.length : Int) = J - 1) : bodyOk J ls = (joinRun J ls (apart J.toNat)).isSome := by simp [bodyOk, h1, h2]
theorem bodyOk_true {J : Int} {ls : List Lb} (h : bodyOk J ls = true) : (1 ≤ J ∧ J ≤ 12) ∧ (ls.length : Int) = J - 1 ∧ ∃ P, joinRun J ls (apart J.toNat) = some P := by
  simp only [bodyOk, Bool.and_eq_true, decide_eq_true_eq] at h
  exact ⟨h.1, h.2.1, Option.isSome_iff_exists.1 h.2.2⟩
theorem joinStep_len {J : Int} {P Q : List Int} {l : Lb} (h : joinStep J P l = some Q) : Q.length = P.length := by
  unfold joinStep at h
  split at h
  · split at h
    · cases h
    · cases h
      simp
  · cases h
theorem run_drop {J : Int} {ls : List Lb} {P : List Int} {k : Nat} (h : k < ls.length) : joinRun J (ls.drop k) P = (joinStep J P ls[k]).bind (joinRun J (ls.drop (k + 1))) := by
  rw [List.drop_eq_getElem_cons h]
  rfl
/-- The first i parts renamed. -/
def renamed (x y : Int) (P : List Int) (i : Nat) : List Int := (P.take i).map (fun z => if z = y then x else z) ++ P.drop i
theorem renamed_len (x y : Int) (P : List Int) (i : Nat) : (renamed x y P i).length = P.length := by
  unfold renamed
  rw [List.length_append, List.length_map, List.length_take, List.length_drop]
  omega
theorem renamed_zero (x y : Int) (P : List Int) : renamed x y P 0 = P := by simp [renamed]
theorem renamed_all (x y : Int) (P : List Int) : renamed x y P P.length = P.map (fun z => if z = y then x else z) := by simp [renamed]
theorem renamed_at (x y : Int) (P : List Int) {i : Nat} (h : i < P.length) : (renamed x y P i)[i]'(by rw [renamed_len]; exact h) = P[i] := by
  unfold renamed
  rw [List.getElem_append_right (by simp; omega)]
  simp [Nat.min_eq_left (Nat.le_of_lt h)]
theorem renamed_next (x y : Int) (P : List Int) {i : Nat} (h : i < P.length) : renamed x y P (i + 1) = (renamed x y P i).set i (if P[i] = y then x else P[i]) := by
  have e : P.take (i + 1) = P.take i ++ [P[i]] := by rw [List.take_add_one, List.getElem?_eq_getElem h]; rfl
  unfold renamed
  rw [List.set_append_right _ _ (by rw [List.length_map, List.length_take]; omega), List.length_map, List.length_take, Nat.min_eq_left (Nat.le_of_lt h), Nat.sub_self, List.drop_eq_getElem_cons h, List.set_cons_zero, e, List.map_append, List.append_assoc]
  rfl
theorem renamed_hit {x y : Int} {P : List Int} {i : Nat} (h : i < P.length) (e : P[i] = y) : renamed x y P (i + 1) = (renamed x y P i).set i x := by rw [renamed_next x y P h, if_pos e]
theorem renamed_miss {x y : Int} {P : List Int} {i : Nat} (h : i < P.length) (e : ¬ P[i] = y) : renamed x y P (i + 1) = renamed x y P i := by
  rw [renamed_next x y P h, if_neg e]
  have := renamed_at x y P h
  conv => lhs; rw [← this]
  exact List.set_getElem_self _
theorem apart_set (m k : Nat) (h : k < m) : (apart k ++ List.replicate (m - k) (0 : Int)).set k (k : Int) = apart (k + 1) ++ List.replicate (m - (k + 1)) 0 := by
  have l : (apart k).length = k := by simp [apart]
  rw [List.set_append_right _ _ (by omega), l, Nat.sub_self, show m - k = (m - (k + 1)) + 1 by omega, List.replicate_succ, List.set_cons_zero]
  simp [apart, List.range_succ]
end Go.Proofs.Ytblbmppbbhibeaa
