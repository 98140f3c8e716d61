/- A walk along all limbs from one joint, as plain mathematics: which joints it has come to, and what it knows of each: the joint before it and its distance. Condition: the body is valid. -/
import Derived.Test.YtblbmppbbhibeaaDistM
namespace Go.Proofs.Ytblbmppbbhibeaa
set_option linter.unusedVariables false
set_option linter.unusedSimpArgs false

/-- The joint before the last one of a way; b where the way has no limb. -/
def prevOn (ls : List Lb) : Nat → Int → List Nat → Int
  | _, b, [] => b
  | x, _, t :: es => prevOn ls (other (limbAt ls t) x) (x : Int) es
theorem prevOn_snoc {ls : List Lb} {x u t : Nat} {b : Int} {xs : List Nat} (h : isWay ls x xs u) : prevOn ls x b (xs ++ [t]) = (u : Int) := by
  induction xs generalizing x b with
  | nil =>
    obtain rfl : x = u := h
    rfl
  | cons s xs ih => exact ih h.2.2
theorem incs_mem {ls : List Lb} {i k : Nat} {z : Int} : z ∈ incs ls i k ↔ ∃ t : Nat, z = t ∧ t < k ∧ touches (limbAt ls t) i := by
  induction k with
  | zero => exact ⟨fun h => (by cases h), fun ⟨t, _, h, _⟩ => (by omega)⟩
  | succ k ih =>
    have e : incs ls i (k + 1) = incs ls i k ++ if (limbAt ls k).a = (i : Int) ∨ (limbAt ls k).b = (i : Int) then [(k : Int)] else [] := rfl
    rw [e, List.mem_append, ih]
    constructor
    · rintro (⟨t, h1, h2, h3⟩ | h)
      · exact ⟨t, h1, by omega, h3⟩
      · by_cases c : (limbAt ls k).a = (i : Int) ∨ (limbAt ls k).b = (i : Int)
        · rw [if_pos c] at h
          exact ⟨k, by simpa using h, by omega, c⟩
        · rw [if_neg c] at h
          cases h
    · rintro ⟨t, h1, h2, h3⟩
      by_cases e : t = k
      · subst e
        right
        have c : (limbAt ls t).a = (i : Int) ∨ (limbAt ls t).b = (i : Int) := h3
        rw [if_pos c]
        simp [h1]
      · exact .inl ⟨t, h1, by omega, h3⟩

section
variable {m : Nat} {ls : List Lb}
theorem way_rev (hf : Fits m ls) {es : List Nat} {x z : Nat} (h : isWay ls x es z) : isWay ls z es.reverse x := by
  induction es generalizing x with
  | nil =>
    obtain rfl : x = z := h
    rfl
  | cons t es ih =>
    obtain ⟨ht, hx, hw⟩ := h
    have o := other_spec hf ht hx
    rw [List.reverse_cons]
    exact way_split.2 ⟨_, ih hw, ht, o.2.2.2.1, by rw [o.2.2.2.2.1]; rfl⟩
theorem noTurn_rev {es : List Nat} (h : noTurn es) : noTurn es.reverse := by
  induction es with
  | nil => trivial
  | cons t es ih =>
    obtain ⟨h1, h2⟩ := noTurn_cons.1 h
    rw [List.reverse_cons]
    exact noTurn_snoc (ih h2) (by rw [List.getLast?_reverse]; exact h1)

/-- What a row holds behind a walk that has come by the ways S: at each such way's end the joint before it and its length, all else as before. -/
def Res (ls : List Lb) (G : Int → Int → Int) (i : Nat) (f d0 : Int) (S : Nat → List Nat → Prop) (zs zs' : List Int) : Prop :=
  (∀ z es, S z es → zs'.getD z 0 = G (prevOn ls i f es) (d0 + wayLen ls es)) ∧ ∀ z, (∀ es, ¬ S z es) → zs'.getD z 0 = zs.getD z 0
/-- The whole walk from i, not back by e0. -/
def Roamed (ls : List Lb) (G : Int → Int → Int) (i : Nat) (e0 : Option Nat) (f d0 : Int) (zs zs' : List Int) : Prop := Res ls G i f d0 (fun z es => Goes ls i z e0 es) zs zs'
/-- The walk by the first q limbs at i. -/
def Roaming (ls : List Lb) (G : Int → Int → Int) (i : Nat) (e0 : Option Nat) (f d0 : Int) (q : Nat) (zs zs' : List Int) : Prop :=
  Res ls G i f d0 (fun z es => Goes ls i z e0 es ∧ ∀ t, es.head? = some t → (t : Int) ∈ (incs ls i ls.length).take q) zs zs'
theorem roam_start {G : Int → Int → Int} {i : Nat} {e0 : Option Nat} {f d0 : Int} {zs : List Int} (hi : i < zs.length) : Roaming ls G i e0 f d0 0 zs (zs.set i (G f d0)) := by
  refine ⟨fun z es ⟨h1, h2⟩ => ?_, fun z h => ?_⟩
  · cases es with
    | cons t es => exact absurd (h2 t rfl) (by simp)
    | nil =>
      obtain rfl : i = z := h1.1
      simp [hi, prevOn, wayLen]
  · have hne : i ≠ z := by
      rintro rfl
      refine h [] ⟨⟨rfl, ?_⟩, by simp⟩
      cases e0 with
      | none => trivial
      | some t => trivial
    simp [List.getD_eq_getElem?_getD, List.getElem?_set_ne hne]
theorem roam_skip {G : Int → Int → Int} {i q t : Nat} {f d0 : Int} {zs zs' : List Int} (hq : q < (incs ls i ls.length).length) (ht : (incs ls i ls.length)[q] = (t : Int)) (h : Roaming ls G i (some t) f d0 q zs zs') : Roaming ls G i (some t) f d0 (q + 1) zs zs' := by
  have key : ∀ z es, Goes ls i z (some t) es → ∀ s, es.head? = some s → (s : Int) ∈ (incs ls i ls.length).take (q + 1) → (s : Int) ∈ (incs ls i ls.length).take q := by
    intro z es hg s hs hm
    rw [List.take_succ_eq_append_getElem hq, ht, List.mem_append] at hm
    rcases hm with hm | hm
    · exact hm
    · have e : s = t := (by have e1 : (s : Int) = t := (by simpa using hm); omega)
      cases es with
      | nil => cases hs
      | cons u es =>
        obtain rfl : u = s := by simpa using hs
        subst e
        exact absurd rfl (goes_cons.1 hg).1.2.2
  refine ⟨fun z es ⟨h1, h2⟩ => h.1 z es ⟨h1, fun s hs => key z es h1 s hs (h2 s hs)⟩, fun z hz => h.2 z fun es ⟨h1, h2⟩ => hz es ⟨h1, fun s hs => ?_⟩⟩
  exact List.mem_of_mem_take (l := (incs ls i ls.length).take (q + 1)) (i := q) (by rw [List.take_take]; rw [show min q (q + 1) = q by omega]; exact h2 s hs)
theorem roam_step (hf : Fits m ls) (hl : ls.length + 1 = m) (hr : (joinRun m ls (apart m)).isSome = true) {G : Int → Int → Int} {i q t : Nat} {e0 : Option Nat} {f d0 : Int} {zs zs1 zs2 : List Int} (hq : q < (incs ls i ls.length).length)
    (ht : (incs ls i ls.length)[q] = (t : Int)) (hne : e0 ≠ some t) (h : Roaming ls G i e0 f d0 q zs zs1) (h' : Roamed ls G (other (limbAt ls t) i) (some t) (i : Int) (d0 + (limbAt ls t).n) zs1 zs2) : Roaming ls G i e0 f d0 (q + 1) zs zs2 := by
  have hm : (t : Int) ∈ incs ls i ls.length := by rw [← ht]; exact List.getElem_mem hq
  obtain ⟨t', e, htl, htt⟩ := incs_mem.1 hm
  obtain rfl : t = t' := by omega
  have up : ∀ s : Nat, (s : Int) ∈ (incs ls i ls.length).take q → (s : Int) ∈ (incs ls i ls.length).take (q + 1) := fun s hs =>
    List.mem_of_mem_take (l := (incs ls i ls.length).take (q + 1)) (i := q) (by rw [List.take_take]; rw [show min q (q + 1) = q by omega]; exact hs)
  have tin : (t : Int) ∈ (incs ls i ls.length).take (q + 1) := by
    rw [List.take_succ_eq_append_getElem hq, ht]
    simp
  refine ⟨fun z es ⟨h1, h2⟩ => ?_, fun z hz => ?_⟩
  · by_cases c : ∃ es', Goes ls (other (limbAt ls t) i) z (some t) es'
    · obtain ⟨es', hc⟩ := c
      have g : Goes ls i z e0 (t :: es') := goes_cons.2 ⟨⟨htl, htt, hne⟩, hc⟩
      have e : es = t :: es' := way_one hf hl hr h1.1 (noTurn_right h1.2) g.1 (noTurn_right g.2)
      subst e
      rw [h'.1 z es' hc]
      show G _ _ = G (prevOn ls (other (limbAt ls t) i) (i : Int) es') (d0 + ((limbAt ls t).n + wayLen ls es'))
      rw [Int.add_assoc]
    · rw [h'.2 z fun es' hc => c ⟨es', hc⟩]
      refine h.1 z es ⟨h1, fun s hs => ?_⟩
      have := h2 s hs
      rw [List.take_succ_eq_append_getElem hq, ht, List.mem_append] at this
      rcases this with a | a
      · exact a
      · have e : s = t := (by have e1 : (s : Int) = t := (by simpa using a); omega)
        cases es with
        | nil => cases hs
        | cons u es =>
          obtain rfl : u = s := by simpa using hs
          subst e
          exact absurd ⟨es, (goes_cons.1 h1).2⟩ c
  · rw [h'.2 z fun es' hc => hz (t :: es') ⟨goes_cons.2 ⟨⟨htl, htt, hne⟩, hc⟩, fun s hs => (by
      have e : t = s := (by simpa using hs)
      rw [← e]
      exact tin)⟩]
    exact h.2 z fun es ⟨h1, h2⟩ => hz es ⟨h1, fun s hs => up s (h2 s hs)⟩
theorem roam_end {G : Int → Int → Int} {i : Nat} {e0 : Option Nat} {f d0 : Int} {zs zs' : List Int} (h : Roaming ls G i e0 f d0 (incs ls i ls.length).length zs zs') : Roamed ls G i e0 f d0 zs zs' := by
  have key : ∀ z es, Goes ls i z e0 es → ∀ t, es.head? = some t → (t : Int) ∈ (incs ls i ls.length).take (incs ls i ls.length).length := by
    intro z es hg t ht
    rw [List.take_length]
    cases es with
    | nil => cases ht
    | cons u es =>
      obtain rfl : u = t := by simpa using ht
      obtain ⟨⟨a, b, _⟩, _⟩ := goes_cons.1 hg
      exact incs_mem.2 ⟨u, rfl, a, b⟩
  exact ⟨fun z es hg => h.1 z es ⟨hg, key z es hg⟩, fun z hz => h.2 z fun es ⟨hg, _⟩ => hz es hg⟩

/-- The walk from joint i comes to every joint. -/
theorem roamed_at (hf : Fits m ls) (hl : ls.length + 1 = m) (hr : (joinRun m ls (apart m)).isSome = true) {G : Int → Int → Int} {i z : Nat} {zs zs' : List Int} (h : Roamed ls G i none (-1) 0 zs zs') (hi : i < m) (hz : z < m) :
    ∃ es, isWay ls i es z ∧ noTurn es ∧ zs'.getD z 0 = G (prevOn ls i (-1) es) (dist m ls i z) := by
  obtain ⟨es, h1, h2⟩ := way_some hf hl hr hi hz
  refine ⟨es, h1, h2, ?_⟩
  rw [h.1 z es ⟨h1, h2⟩, dist_way hf hl hr h1 h2, Int.zero_add]
/-- The distances that a walk leaves in a row. -/
theorem roamed_dists (hf : Fits m ls) (hl : ls.length + 1 = m) (hr : (joinRun m ls (apart m)).isSome = true) {i : Nat} {zs zs' : List Int} (h : Roamed ls (fun _ d => d) i none (-1) 0 zs zs') (hi : i < m) (hz : zs'.length = m) : zs' = distsTo m ls i m := by
  refine List.ext_getElem (by rw [hz, distsTo_len]) fun k h1 h2 => ?_
  obtain ⟨_, _, _, e⟩ := roamed_at hf hl hr h hi (z := k) (by omega)
  rw [distsTo_at, ← e, List.getD_eq_getElem?_getD, List.getElem?_eq_getElem h1]
  rfl
/-- The joint that is next on the way from z to j; -1 where the way has no limb. -/
def nextOn (ls : List Lb) (z : Nat) : List Nat → Int
  | [] => -1
  | t :: _ => (other (limbAt ls t) z : Nat)
/-- What a walk from j leaves at z: the joint next on the way from z to j. -/
theorem roamed_next (hf : Fits m ls) {j z : Nat} {zs zs' : List Int} (h : Roamed ls (fun f _ => f) j none (-1) 0 zs zs') {es : List Nat} (hw : isWay ls z es j) (hn : noTurn es) : zs'.getD z 0 = nextOn ls z es := by
  have w := way_rev hf hw
  rw [h.1 z es.reverse ⟨w, noTurn_rev hn⟩]
  cases es with
  | nil => rfl
  | cons t es =>
    rw [List.reverse_cons]
    exact prevOn_snoc (way_rev hf hw.2.2)
end
end Go.Proofs.Ytblbmppbbhibeaa
