/- The fields of a line, joined by single spaces, have the same fields: as plain mathematics. -/
import Derived.Test.YtmcdjppppnmomaaDoorSpM
namespace Go.Proofs.YtmcdjppppnmomaaDoor

/-- A field: not empty, printable, without spaces, not longer than a line. -/
def FieldB (f : List UInt8) : Prop := f ≠ [] ∧ (∀ c ∈ f, PrintB c ∧ c ≠ 32) ∧ f.length ≤ 600
def joinL (fs : List (List UInt8)) : List UInt8 := fs.flatMap fun f => f ++ [32]
theorem joinL_snoc (fs : List (List UInt8)) (f : List UInt8) : joinL (fs ++ [f]) = joinL fs ++ f ++ [32] := by simp [joinL]

theorem getD_app_right (a b : List UInt8) (k : Nat) : (a ++ b).getD (a.length + k) 0 = b.getD k 0 := by
  simp [List.getD_eq_getElem?_getD, List.getElem?_append_right]
theorem getD_app_left (a b : List UInt8) (k : Nat) (h : k < a.length) : (a ++ b).getD k 0 = a.getD k 0 := by
  simp [List.getD_eq_getElem?_getD, List.getElem?_append_left h]

/-- The scan of the first k bytes looks at those alone. -/
theorem scan_app (a b : List UInt8) (k : Nat) (h : k ≤ a.length) : scan (a ++ b) k = scan a k := by
  induction k with
  | zero => rfl
  | succ k ih =>
    have ih := ih (by omega)
    have hle := scan_le a k
    simp only [scan]
    rw [ih, getD_app_left a b k (by omega)]
    have hc : cut (a ++ b) (scan a k).2 k = cut a (scan a k).2 k := by
      unfold cut
      rw [List.drop_append_of_le_length (by omega), List.take_append_of_le_length (by simp; omega)]
    rw [hc]

/-- Scanning on over bytes that are no spaces finds no field. -/
theorem scan_over (a f : List UInt8) (hf : ∀ c ∈ f, c ≠ 32) (k : Nat) (hk : k ≤ f.length) : scan (a ++ f) (a.length + k) = scan a a.length := by
  induction k with
  | zero => exact scan_app a f a.length (Nat.le_refl _)
  | succ k ih =>
    have hne : (a ++ f).getD (a.length + k) 0 ≠ 32 := by
      rw [getD_app_right]
      rw [List.getD_eq_getElem?_getD, List.getElem?_eq_getElem (by omega)]
      exact hf _ (List.getElem_mem _)
    rw [show a.length + (k + 1) = a.length + k + 1 by omega, scan_other hne]
    exact ih (by omega)

theorem join_take (fs : List (List UInt8)) (k : Nat) (h : k < fs.length) : joinL (fs.take (k + 1)) = joinL (fs.take k) ++ fs[k] ++ [32] := by
  rw [List.take_succ_eq_append_getElem h, joinL_snoc]
theorem scan_join_take (fs : List (List UInt8)) (h : ∀ f ∈ fs, FieldB f) (k : Nat) (hk : k ≤ fs.length) : scan (joinL (fs.take k)) (joinL (fs.take k)).length = (fs.take k, (joinL (fs.take k)).length) := by
  induction k with
  | zero => rfl
  | succ k ih =>
    have ih := ih (by omega)
    obtain ⟨hne, hno, _⟩ := h fs[k] (List.getElem_mem _)
    have hfl : 0 < fs[k].length := by
      cases hf : fs[k] with
      | nil => exact absurd hf hne
      | cons _ _ => simp
    rw [join_take fs k (by omega), List.take_succ_eq_append_getElem (by omega)]
    generalize joinL (fs.take k) = a at ih
    generalize fs[k] = f at *
    have h1 : scan (a ++ f ++ [32]) (a.length + f.length) = (fs.take k, a.length) := by
      have h2 := scan_over a f (fun c hc => (hno c hc).2) f.length (Nat.le_refl _)
      rw [ih] at h2
      rw [← h2]
      exact scan_app (a ++ f) [32] _ (by simp)
    have h32 : (a ++ f ++ [32]).getD (a.length + f.length) 0 = 32 := by
      simp
    have hlen : (a ++ f ++ [32]).length = a.length + f.length + 1 := by simp; omega
    rw [hlen, scan_space h32 (by rw [h1]; show a.length < _; omega), h1]
    have hc : cut (a ++ f ++ [32]) a.length (a.length + f.length) = f := by
      unfold cut
      rw [List.append_assoc, List.drop_left, show a.length + f.length - a.length = f.length by omega, List.take_left]
    simp only
    rw [hc]
theorem scan_join (fs : List (List UInt8)) (h : ∀ f ∈ fs, FieldB f) : scan (joinL fs) (joinL fs).length = (fs, (joinL fs).length) := by
  have := scan_join_take fs h fs.length (Nat.le_refl _)
  rwa [List.take_length] at this

theorem fields_join (fs : List (List UInt8)) (h : ∀ f ∈ fs, FieldB f) : fieldsOf (joinL fs) = fs := by
  unfold fieldsOf
  rw [scan_join fs h]
  simp
theorem join_print (fs : List (List UInt8)) (h : ∀ f ∈ fs, FieldB f) : ∀ c ∈ joinL fs, PrintB c := by
  intro c hc
  unfold joinL at hc
  rw [List.mem_flatMap] at hc
  obtain ⟨f, hf, hc⟩ := hc
  rw [List.mem_append] at hc
  rcases hc with hc | hc
  · exact ((h f hf).2.1 c hc).1
  · simp only [List.mem_singleton] at hc
    subst hc
    unfold PrintB
    decide
theorem split_join (fs : List (List UInt8)) (h : ∀ f ∈ fs, FieldB f) (h24 : fs.length ≤ 24) (hl : (joinL fs).length ≤ 600) : splitR (joinL fs) = (fs, true) := by
  have e := fields_join fs h
  have := splitR_good (joinL fs) hl (join_print fs h) (by rw [e]; exact h24)
  rw [e] at this
  exact this
theorem join_len (fs : List (List UInt8)) (h : ∀ f ∈ fs, FieldB f) : (joinL fs).length ≤ 601 * fs.length := by
  induction fs with
  | nil => simp [joinL]
  | cons f fs ih =>
    have ih := ih (fun x hx => h x (by simp [hx]))
    have h1 := (h f (by simp)).2.2
    simp only [joinL, List.flatMap_cons, List.length_append, List.length_cons, List.length_nil] at ih ⊢
    omega
theorem cut_field (s : List UInt8) (hp : ∀ c ∈ s, PrintB c) (hs : s.length ≤ 600) (b k : Nat) (hb : b < k) (hk : k ≤ s.length) (h : ∀ j, b ≤ j → j < k → s.getD j 0 ≠ 32) : FieldB (cut s b k) := by
  refine ⟨fun e => ?_, fun c hc => ?_, ?_⟩
  · have := congrArg List.length e
    simp [cut] at this
    omega
  · unfold cut at hc
    obtain ⟨j, hj, rfl⟩ := List.getElem_of_mem hc
    simp only [List.length_take, List.length_drop] at hj
    have hm : ((s.drop b).take (k - b))[j] = s[b + j]'(by omega) := by simp
    refine ⟨hp _ (by rw [hm]; exact List.getElem_mem _), ?_⟩
    have := h (b + j) (by omega) (by omega)
    rw [List.getD_eq_getElem?_getD, List.getElem?_eq_getElem (by omega)] at this
    rw [hm]
    exact this
  · unfold cut
    simp
    omega

/-- What a scan has found are fields, and no space stands behind where the next one begins. -/
theorem scan_fields (s : List UInt8) (hp : ∀ c ∈ s, PrintB c) (hs : s.length ≤ 600) (k : Nat) (hk : k ≤ s.length) :
    (∀ f ∈ (scan s k).1, FieldB f) ∧ (∀ j, (scan s k).2 ≤ j → j < k → s.getD j 0 ≠ 32) := by
  induction k with
  | zero => exact ⟨by simp [scan], by omega⟩
  | succ k ih =>
    obtain ⟨h1, h2⟩ := ih (by omega)
    have hle := scan_le s k
    by_cases hc : s.getD k 0 = 32
    · by_cases hb : (scan s k).2 < k
      · rw [scan_space hc hb]
        refine ⟨fun f hf => ?_, fun j a b => by simp only at a; omega⟩
        simp only [List.mem_append, List.mem_singleton] at hf
        rcases hf with hf | rfl
        · exact h1 f hf
        · exact cut_field s hp hs _ k hb (by omega) h2
      · rw [scan_empty hc hb]
        exact ⟨h1, fun j a b => by simp only at a; omega⟩
    · rw [scan_other hc]
      refine ⟨h1, fun j a b => ?_⟩
      by_cases hj : j = k
      · subst hj; exact hc
      · exact h2 j a (by omega)
theorem fields_field (s : List UInt8) (hp : ∀ c ∈ s, PrintB c) (hs : s.length ≤ 600) : ∀ f ∈ fieldsOf s, FieldB f := by
  obtain ⟨h1, h2⟩ := scan_fields s hp hs s.length (Nat.le_refl _)
  unfold fieldsOf
  split
  · rename_i hb
    intro f hf
    rw [List.mem_append] at hf
    rcases hf with hf | hf
    · exact h1 f hf
    · simp only [List.mem_singleton] at hf
      subst hf
      exact cut_field s hp hs _ _ hb (Nat.le_refl _) h2
  · exact h1
theorem splitR_fields (s : List UInt8) : ∀ f ∈ (splitR s).1, FieldB f := by
  unfold splitR
  split
  · rename_i h
    exact fields_field s h.2.1 h.1
  · intro f hf
    simp at hf
theorem splitR_none (s : List UInt8) (h : (splitR s).2 = false) : (splitR s).1 = [] := by
  unfold splitR at *
  split
  · rename_i hc
    rw [if_pos hc] at h
    cases h
  · rfl
end Go.Proofs.YtmcdjppppnmomaaDoor
