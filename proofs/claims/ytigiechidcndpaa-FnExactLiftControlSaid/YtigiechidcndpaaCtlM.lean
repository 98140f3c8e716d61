/- Controls as plain mathematics: what the functions of the chapter answer. -/
import Derived.Test.YtigiechidcndpaaIn
namespace Go.Proofs.Ytigiechidcndpaa
set_option linter.unusedVariables false

theorem all_upto {α : Type} {p : α → Bool} {l : List α} {k : Nat} (h : k < l.length) : (l.take (k + 1)).all p = ((l.take k).all p && p l[k]) := by
  rw [List.take_add_one, List.getElem?_eq_getElem h, List.all_append]
  simp
theorem any_upto {α : Type} {p : α → Bool} {l : List α} {k : Nat} (h : k < l.length) : (l.take (k + 1)).any p = ((l.take k).any p || p l[k]) := by
  rw [List.take_add_one, List.getElem?_eq_getElem h, List.any_append]
  simp
theorem all_miss {α : Type} {p : α → Bool} {l : List α} {x : α} (hx : x ∈ l) (h : p x = false) : l.all p = false := by
  rw [List.all_eq_false]
  exact ⟨x, hx, by simp [h]⟩
def armB (z : Int) : Bool := inB z (-50) 50
/-- Is this cord right on n arms and for J joints? -/
def cordB (n J : Int) (c : Lb) : Bool := inB c.a 0 (n - 1) && (inB c.b 0 (J - 1) && inB c.n 0 500)
def apartFrom (b : Int) (c : Lb) : Bool := decide (¬ c.b = b)
/-- No joint has two of the first k cords. -/
def onceTo (cs : List Lb) : Nat → Bool
  | 0 => true
  | k + 1 => onceTo cs k && (cs.take k).all (apartFrom (cs.getD k Lb.zero).b)
def ctlHead (H : Int) (n m : Nat) : Bool := inB H 0 500 && (inB n 1 8 && decide (m ≤ 12))
/-- What ControlOk answers. -/
def ctlOk (H : Int) (zs : List Int) (cs : List Lb) (J : Int) : Bool := ctlHead H zs.length cs.length && (zs.all armB && (cs.all (cordB zs.length J) && onceTo cs cs.length))
theorem once_le {cs : List Lb} {k m : Nat} (h : k ≤ m) (h0 : onceTo cs k = false) : onceTo cs m = false := by
  induction m with
  | zero => rwa [show k = 0 by omega] at h0
  | succ m ih =>
    by_cases e : k = m + 1
    · rwa [e] at h0
    · unfold onceTo
      rw [ih (by omega)]
      rfl
theorem once_more {cs : List Lb} {k : Nat} (h : k < cs.length) : onceTo cs (k + 1) = (onceTo cs k && (cs.take k).all (apartFrom cs[k].b)) := by
  rw [onceTo, List.getD_eq_getElem?_getD, List.getElem?_eq_getElem h]
  rfl
theorem ctl_head_no {H : Int} {zs : List Int} {cs : List Lb} {J : Int} (h : ctlHead H zs.length cs.length = false) : ctlOk H zs cs J = false := by
  unfold ctlOk
  rw [h]
  rfl
theorem ctl_arm_no {H : Int} {zs : List Int} {cs : List Lb} {J : Int} {k : Nat} (hk : k < zs.length) (h : armB zs[k] = false) : ctlOk H zs cs J = false := by
  unfold ctlOk
  rw [all_miss (List.getElem_mem hk) h]
  simp
theorem ctl_cord_no {H : Int} {zs : List Int} {cs : List Lb} {J : Int} {k : Nat} (hk : k < cs.length) (h : cordB zs.length J cs[k] = false) : ctlOk H zs cs J = false := by
  unfold ctlOk
  rw [all_miss (List.getElem_mem hk) h]
  simp
theorem ctl_once_no {H : Int} {zs : List Int} {cs : List Lb} {J : Int} {k i : Nat} (hk : k < cs.length) (hi : i < k) (h : cs[i].b = cs[k].b) : ctlOk H zs cs J = false := by
  have hm : cs[i] ∈ cs.take k := by
    rw [List.mem_take_iff_getElem]
    exact ⟨i, by omega, rfl⟩
  have : onceTo cs cs.length = false := once_le (k := k + 1) hk (by rw [once_more hk, all_miss hm (by simp [apartFrom, h])]; simp)
  unfold ctlOk
  rw [this]
  simp
theorem ctl_yes {H : Int} {zs : List Int} {cs : List Lb} {J : Int} (h1 : ctlHead H zs.length cs.length = true) (h2 : (zs.take zs.length).all armB = true) (h3 : (cs.take cs.length).all (cordB zs.length J) = true) (h4 : onceTo cs cs.length = true) : ctlOk H zs cs J = true := by
  rw [List.take_length] at h2 h3
  unfold ctlOk
  rw [h1, h2, h3, h4]
  rfl
theorem ctl_parts {H : Int} {zs : List Int} {cs : List Lb} {J : Int} (h : ctlOk H zs cs J = true) :
    (0 ≤ H ∧ H ≤ 500) ∧ (1 ≤ zs.length ∧ zs.length ≤ 8) ∧ cs.length ≤ 12 ∧ (∀ k (hk : k < zs.length), -50 ≤ zs[k] ∧ zs[k] ≤ 50) ∧
      (∀ k (hk : k < cs.length), (0 ≤ cs[k].a ∧ cs[k].a < zs.length) ∧ (0 ≤ cs[k].b ∧ cs[k].b < J) ∧ (0 ≤ cs[k].n ∧ cs[k].n ≤ 500)) ∧ ∀ i k (hi : i < k) (hk : k < cs.length), cs[i].b ≠ cs[k].b := by
  refine ⟨?_, ?_, ?_, fun k hk => ?_, fun k hk => ?_, fun i k hi hk e => ?_⟩
  · unfold ctlOk ctlHead inB at h
    simp only [Bool.and_eq_true, decide_eq_true_eq] at h
    exact h.1.1
  · unfold ctlOk ctlHead inB at h
    simp only [Bool.and_eq_true, decide_eq_true_eq] at h
    have := h.1.2.1
    omega
  · unfold ctlOk ctlHead at h
    simp only [Bool.and_eq_true, decide_eq_true_eq] at h
    exact h.1.2.2
  · cases e : armB zs[k] with
    | false => rw [ctl_arm_no hk e] at h; cases h
    | true => simpa [armB, inB] using e
  · cases e : cordB zs.length J cs[k] with
    | false => rw [ctl_cord_no hk e] at h; cases h
    | true =>
      simp only [cordB, inB, Bool.and_eq_true, decide_eq_true_eq] at e
      omega
  · rw [ctl_once_no hk hi e] at h
    cases h

/-- The pulls behind the first k cords. -/
def pullsTo (H : Int) (zs : List Int) (cs : List Lb) (n : Nat) : Nat → List Int
  | 0 => List.replicate n (-1)
  | k + 1 => (pullsTo H zs cs n k).set (cs.getD k Lb.zero).b.toNat (max 0 (H + zs.getD (cs.getD k Lb.zero).a.toNat 0 - (cs.getD k Lb.zero).n))
/-- What PullsOf answers. -/
def pullsOf (H : Int) (zs : List Int) (cs : List Lb) (J : Int) : List Int := if ctlOk H zs cs J = true ∧ (1 ≤ J ∧ J ≤ 12) then pullsTo H zs cs J.toNat cs.length else []
theorem pullsTo_len (H : Int) (zs : List Int) (cs : List Lb) (n k : Nat) : (pullsTo H zs cs n k).length = n := by
  induction k with
  | zero => simp [pullsTo]
  | succ k ih => rw [pullsTo, List.length_set, ih]
theorem pullsTo_more {H : Int} {zs : List Int} {cs : List Lb} {n k p q : Nat} (hk : k < cs.length) (hq : cs[k].b = q) (hp : cs[k].a = p) (hz : p < zs.length) : pullsTo H zs cs n (k + 1) = (pullsTo H zs cs n k).set q (max 0 (H + zs[p] - cs[k].n)) := by
  rw [pullsTo, List.getD_eq_getElem?_getD, List.getElem?_eq_getElem hk]
  simp only [Option.getD_some]
  rw [hq, hp, Int.toNat_natCast, Int.toNat_natCast, List.getD_eq_getElem?_getD, List.getElem?_eq_getElem hz]
  rfl
theorem pullsOf_len (H : Int) (zs : List Int) (cs : List Lb) (J : Int) : (pullsOf H zs cs J).length ≤ 12 := by
  unfold pullsOf
  split
  · rw [pullsTo_len]; omega
  · simp

/-- What LiftControl answers: may it, and the height. -/
def liftOk (H n : Int) : Bool := inB H (-500) 500 && (inB n (-500) 500 && inB (H + n) 0 500)
def liftH (H n : Int) : Int := if liftOk H n = true then H + n else H
/-- What TiltArm answers: may it, and the arms. -/
def tiltHead (zs : List Int) (i n : Int) : Bool := decide (zs.length ≤ 8) && (inB i 0 ((zs.length : Int) - 1) && inB n (-50) 50)
def tiltSelf (zs : List Int) (i : Int) : Bool := decide ((zs.length : Int) - 1 - i = i)
def tiltFits (zs : List Int) (i n : Int) : Bool := inB (zs.getD i.toNat 0 + n) (-50) 50 && inB (zs.getD ((zs.length : Int) - 1 - i).toNat 0 - n) (-50) 50
def tiltOk (zs : List Int) (i n : Int) : Bool := tiltHead zs i n && (zs.all armB && (tiltSelf zs i || tiltFits zs i n))
def tiltZs (zs : List Int) (i n : Int) : List Int :=
  if tiltOk zs i n = true ∧ tiltSelf zs i = false then (zs.set i.toNat (zs.getD i.toNat 0 + n)).set ((zs.length : Int) - 1 - i).toNat (zs.getD ((zs.length : Int) - 1 - i).toNat 0 - n) else zs
theorem tiltZs_len (zs : List Int) (i n : Int) : (tiltZs zs i n).length = zs.length := by
  unfold tiltZs
  split <;> simp
/-- What JointsHeld answers. -/
def heldB (cs : List Lb) (j : Nat) : Bool := cs.any fun c => decide (c.b = (j : Int))
def heldTo (cs : List Lb) : Nat → List Int
  | 0 => []
  | j + 1 => heldTo cs j ++ if heldB cs j = true then [(j : Int)] else []
def jointsHeld (cs : List Lb) : List Int := heldTo cs 12
theorem heldTo_len (cs : List Lb) (j : Nat) : (heldTo cs j).length ≤ j := by
  induction j with
  | zero => simp [heldTo]
  | succ j ih =>
    rw [heldTo, List.length_append]
    split <;> simp <;> omega
theorem jointsHeld_len (cs : List Lb) : (jointsHeld cs).length ≤ 12 := heldTo_len cs 12
end Go.Proofs.Ytigiechidcndpaa
