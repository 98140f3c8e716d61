/- A way's joints one by one, and its length piece by piece; all distances from a joint, the greatest of them, the span and the center, as plain mathematics. -/
import Derived.Test.YtblbmppbbhibeaaWalkM
namespace Go.Proofs.Ytblbmppbbhibeaa
set_option linter.unusedVariables false
set_option linter.unusedSimpArgs false

/-- The r-th joint of a way. -/
def vert (ls : List Lb) (x : Nat) : List Nat → Nat → Nat
  | _, 0 => x
  | [], _ + 1 => x
  | t :: es, r + 1 => vert ls (other (limbAt ls t) x) es r
theorem verts_at {ls : List Lb} {x r : Nat} {es : List Nat} (h : r < (verts ls x es).length) : (verts ls x es)[r] = ((vert ls x es r : Nat) : Int) := by
  induction es generalizing x r with
  | nil =>
    have : r = 0 := by rw [verts_len] at h; simpa using h
    subst this
    rfl
  | cons t es ih =>
    cases r with
    | zero => rfl
    | succ r => exact ih (by rw [verts_len] at h ⊢; simpa using h)
theorem way_piece {ls : List Lb} {x z r : Nat} {es : List Nat} (h : isWay ls x es z) (hr : r < es.length) : es[r] < ls.length ∧ touches (limbAt ls es[r]) (vert ls x es r) ∧ other (limbAt ls es[r]) (vert ls x es r) = vert ls x es (r + 1) := by
  induction es generalizing x r with
  | nil => simp at hr
  | cons t es ih =>
    obtain ⟨h1, h2, h3⟩ := h
    cases r with
    | zero =>
      refine ⟨h1, h2, ?_⟩
      show other (limbAt ls t) x = vert ls (other (limbAt ls t) x) es 0
      cases es <;> rfl
    | succ r => exact ih h3 (by simpa using hr)
theorem wayLen_take {ls : List Lb} {es : List Nat} {r : Nat} (hr : r < es.length) : wayLen ls (es.take (r + 1)) = wayLen ls (es.take r) + (limbAt ls es[r]).n := by
  induction es generalizing r with
  | nil => simp at hr
  | cons t es ih =>
    cases r with
    | zero => simp [wayLen]
    | succ r =>
      have := ih (r := r) (by simpa using hr)
      show (limbAt ls t).n + wayLen ls (es.take (r + 1)) = ((limbAt ls t).n + wayLen ls (es.take r)) + _
      rw [this]
      simp only [List.getElem_cons_succ]
      omega
theorem wayLen_range {m : Nat} {ls : List Lb} (hf : Fits m ls) {es : List Nat} (h : ∀ t ∈ es, t < ls.length) : 0 ≤ wayLen ls es ∧ wayLen ls es ≤ 100 * (es.length : Int) := by
  induction es with
  | nil => exact ⟨by simp [wayLen], by simp [wayLen]⟩
  | cons t es ih =>
    have h1 := ih (fun s hs => h s (List.mem_cons_of_mem _ hs))
    have h2 := limb_pos hf (h t (by simp))
    show 0 ≤ (limbAt ls t).n + wayLen ls es ∧ _
    rw [List.length_cons]
    show _ ∧ (limbAt ls t).n + wayLen ls es ≤ _
    omega

/-- The distances from joint i to the first k joints. -/
def distsTo (m : Nat) (ls : List Lb) (i : Nat) : Nat → List Int
  | 0 => []
  | k + 1 => distsTo m ls i k ++ [dist m ls i k]
theorem distsTo_len (m : Nat) (ls : List Lb) (i k : Nat) : (distsTo m ls i k).length = k := by
  induction k with
  | zero => rfl
  | succ k ih => show (distsTo m ls i k ++ [_]).length = _; rw [List.length_append, ih]; rfl
theorem distsTo_at {m : Nat} {ls : List Lb} {i k r : Nat} (h : r < (distsTo m ls i k).length) : (distsTo m ls i k)[r] = dist m ls i r := by
  induction k with
  | zero => simp [distsTo] at h
  | succ k ih =>
    have hk := distsTo_len m ls i k
    rw [distsTo_len] at h
    show (distsTo m ls i k ++ [dist m ls i k])[r]'(by rw [List.length_append, hk]; exact h) = _
    by_cases e : r < k
    · rw [List.getElem_append_left (by omega)]
      exact ih (by omega)
    · obtain rfl : r = k := by omega
      rw [List.getElem_append_right (by omega)]
      simp [hk]
/-- The greatest distance from joint i to one of the first k joints. -/
def farTo (m : Nat) (ls : List Lb) (i : Nat) : Nat → Int
  | 0 => 0
  | k + 1 => max (farTo m ls i k) (dist m ls i k)
def far (m : Nat) (ls : List Lb) (i : Nat) : Int := farTo m ls i m
/-- The greatest of the first k joints' greatest distances. -/
def spanTo (m : Nat) (ls : List Lb) : Nat → Int
  | 0 => 0
  | k + 1 => max (spanTo m ls k) (far m ls k)
theorem farTo_range {m : Nat} {ls : List Lb} (hf : Fits m ls) (i k : Nat) : 0 ≤ farTo m ls i k ∧ farTo m ls i k ≤ 100 * (ls.length : Int) := by
  induction k with
  | zero => exact ⟨by simp [farTo], by simp [farTo]; omega⟩
  | succ k ih =>
    have := dist_range hf i k
    show 0 ≤ max _ _ ∧ max _ _ ≤ _
    omega
theorem spanTo_range {m : Nat} {ls : List Lb} (hf : Fits m ls) (k : Nat) : 0 ≤ spanTo m ls k ∧ spanTo m ls k ≤ 100 * (ls.length : Int) := by
  induction k with
  | zero => exact ⟨by simp [spanTo], by simp [spanTo]; omega⟩
  | succ k ih =>
    have : 0 ≤ far m ls k ∧ far m ls k ≤ 100 * (ls.length : Int) := farTo_range hf k m
    show 0 ≤ max _ _ ∧ max _ _ ≤ _
    omega
/-- The first joint among the first k whose greatest distance is the least, and that distance. -/
def centerTo (m : Nat) (ls : List Lb) : Nat → Int × Int
  | 0 => (-1, 0)
  | k + 1 => if (centerTo m ls k).1 < 0 ∨ far m ls k < (centerTo m ls k).2 then ((k : Int), far m ls k) else centerTo m ls k
theorem farTo_le {m : Nat} {ls : List Lb} {i j k : Nat} (h : j < k) : dist m ls i j ≤ farTo m ls i k := by
  induction k with
  | zero => omega
  | succ k ih =>
    show _ ≤ max _ _
    by_cases e : j < k
    · have := ih e
      omega
    · obtain rfl : j = k := by omega
      omega
theorem spanTo_le {m : Nat} {ls : List Lb} {i k : Nat} (h : i < k) : far m ls i ≤ spanTo m ls k := by
  induction k with
  | zero => omega
  | succ k ih =>
    show _ ≤ max _ _
    by_cases e : i < k
    · have := ih e
      omega
    · obtain rfl : i = k := by omega
      omega
/-- The greatest distance is one. -/
theorem farTo_is {m : Nat} {ls : List Lb} {i k : Nat} (hk : 0 < k) (h0 : ∀ j, 0 ≤ dist m ls i j) : ∃ j, j < k ∧ farTo m ls i k = dist m ls i j := by
  induction k with
  | zero => omega
  | succ k ih =>
    by_cases e : farTo m ls i k ≤ dist m ls i k
    · exact ⟨k, by omega, by show max _ _ = _; omega⟩
    · by_cases hz : 0 < k
      · obtain ⟨j, hj, hd⟩ := ih hz
        exact ⟨j, by omega, by show max _ _ = _; omega⟩
      · obtain rfl : k = 0 := by omega
        have := h0 0
        have e' : ¬ (0 : Int) ≤ dist m ls i 0 := e
        omega
theorem spanTo_is {m : Nat} {ls : List Lb} {k : Nat} (hk : 0 < k) (h0 : ∀ i, 0 ≤ far m ls i) : ∃ i, i < k ∧ spanTo m ls k = far m ls i := by
  induction k with
  | zero => omega
  | succ k ih =>
    by_cases e : spanTo m ls k ≤ far m ls k
    · exact ⟨k, by omega, by show max _ _ = _; omega⟩
    · by_cases hz : 0 < k
      · obtain ⟨i, hi, hd⟩ := ih hz
        exact ⟨i, by omega, by show max _ _ = _; omega⟩
      · obtain rfl : k = 0 := by omega
        have := h0 0
        have e' : ¬ (0 : Int) ≤ far m ls 0 := e
        omega
theorem centerTo_is {m : Nat} {ls : List Lb} {k : Nat} (hk : 0 < k) : ∃ c : Nat, c < k ∧ (centerTo m ls k).1 = c ∧ (centerTo m ls k).2 = far m ls c := by
  induction k with
  | zero => omega
  | succ k ih =>
    have hs : centerTo m ls (k + 1) = if (centerTo m ls k).1 < 0 ∨ far m ls k < (centerTo m ls k).2 then ((k : Int), far m ls k) else centerTo m ls k := rfl
    rw [hs]
    by_cases e : (centerTo m ls k).1 < 0 ∨ far m ls k < (centerTo m ls k).2
    · rw [if_pos e]
      exact ⟨k, by omega, rfl, rfl⟩
    · rw [if_neg e]
      by_cases hz : 0 < k
      · obtain ⟨c, h1, h2⟩ := ih hz
        exact ⟨c, by omega, h2⟩
      · obtain rfl : k = 0 := by omega
        exact absurd (.inl (by show (-1 : Int) < 0; omega)) e
/-- No two joints are farther apart than twice the center's greatest distance. -/
theorem span_twice {m : Nat} {ls : List Lb} (hf : Fits m ls) (hm : 0 < m) {c : Nat} (_ : c < m) : spanTo m ls m ≤ 2 * far m ls c := by
  obtain ⟨i, hi, hs⟩ := spanTo_is (k := m) (ls := ls) (m := m) hm (fun i => (farTo_range hf i m).1)
  obtain ⟨j, hj, hd⟩ := farTo_is (i := i) (k := m) (ls := ls) (m := m) hm (fun j => (dist_range hf i j).1)
  have h1 := dist_three hf (m := m) i c j
  have h2 : dist m ls c i ≤ far m ls c := farTo_le hi
  have h3 : dist m ls c j ≤ far m ls c := farTo_le hj
  rw [dist_comm] at h2
  rw [hs]
  show farTo m ls i m ≤ _
  omega
end Go.Proofs.Ytblbmppbbhibeaa
