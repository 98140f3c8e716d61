/- Which joints are connected: joined parts counted, and what is said of everything that is the same at both ends of each limb. Plain mathematics; no condition. -/
import Derived.Test.YtblbmppbbhibeaaOkM
namespace Go.Proofs.Ytblbmppbbhibeaa
set_option linter.unusedVariables false
set_option linter.unusedSimpArgs false

/-- How many of the first m numbers P holds. -/
def held (p : Nat → Bool) (m : Nat) : Nat := ((List.range m).filter p).length
theorem held_succ (p : Nat → Bool) (m : Nat) : held p (m + 1) = held p m + if p m = true then 1 else 0 := by
  unfold held
  rw [List.range_succ, List.filter_append, List.length_append]
  by_cases h : p m = true <;> simp [h]
theorem held_le (p : Nat → Bool) (m : Nat) : held p m ≤ m := by
  induction m with
  | zero => simp [held]
  | succ m ih => rw [held_succ]; split <;> omega
theorem held_same {p q : Nat → Bool} {m : Nat} (h : ∀ i, i < m → p i = q i) : held p m = held q m := by
  induction m with
  | zero => rfl
  | succ m ih => rw [held_succ, held_succ, ih (fun i hi => h i (by omega)), h m (by omega)]
theorem held_mono {p q : Nat → Bool} {m : Nat} (h : ∀ i, i < m → p i = true → q i = true) : held p m ≤ held q m := by
  induction m with
  | zero => simp [held]
  | succ m ih =>
    rw [held_succ, held_succ]
    have := ih (fun i hi => h i (by omega))
    by_cases hp : p m = true
    · rw [if_pos hp, if_pos (h m (by omega) hp)]; omega
    · rw [if_neg hp]; split <;> omega
/-- One more. -/
theorem held_more {p q : Nat → Bool} {m i : Nat} (hi : i < m) (h0 : p i = false) (h1 : q i = true) (h : ∀ j, j < m → j ≠ i → p j = q j) : held p m + 1 = held q m := by
  induction m with
  | zero => omega
  | succ m ih =>
    rw [held_succ, held_succ]
    by_cases e : i = m
    · subst e
      rw [h0, h1, held_same (fun j hj => h j (by omega) (by omega))]
      simp
    · have := ih (by omega) (fun j hj hne => h j (by omega) hne)
      rw [h m (by omega) (fun x => e x.symm)]
      omega
theorem held_all {p : Nat → Bool} {m : Nat} : held p m = m ↔ ∀ i, i < m → p i = true := by
  constructor
  · intro h
    induction m with
    | zero => intro i hi; omega
    | succ m ih =>
      rw [held_succ] at h
      have hl := held_le p m
      have hm : p m = true := by
        by_cases hp : p m = true
        · exact hp
        · rw [if_neg hp] at h; omega
      rw [if_pos hm] at h
      intro i hi
      by_cases e : i = m
      · exact e ▸ hm
      · exact ih (by omega) i (by omega)
  · intro h
    induction m with
    | zero => rfl
    | succ m ih => rw [held_succ, ih (fun i hi => h i (by omega)), if_pos (h m (by omega))]

/-- Limbs whose ends are joints, two different ones, and whose length is from 1 to 100. -/
def Fits (J : Int) (ls : List Lb) : Prop := ∀ l ∈ ls, (0 ≤ l.a ∧ l.a ≤ J - 1) ∧ (0 ≤ l.b ∧ l.b ≤ J - 1) ∧ l.a ≠ l.b ∧ (1 ≤ l.n ∧ l.n ≤ 100)

/-- Both parts become one, whether they are two or not. -/
def merge (P : List Int) (l : Lb) : List Int := P.map fun z => if z = P.getD l.b.toNat 0 then P.getD l.a.toNat 0 else z
def mergeAll (ls : List Lb) (P : List Int) : List Int := ls.foldl merge P
theorem merge_len (P : List Int) (l : Lb) : (merge P l).length = P.length := by simp [merge]
theorem mergeAll_len (ls : List Lb) (P : List Int) : (mergeAll ls P).length = P.length := by
  induction ls generalizing P with
  | nil => rfl
  | cons l ls ih => show (mergeAll ls (merge P l)).length = _; rw [ih, merge_len]
theorem getD_merge {P : List Int} {l : Lb} {i : Nat} (h : i < P.length) : (merge P l).getD i 0 = if P.getD i 0 = P.getD l.b.toNat 0 then P.getD l.a.toNat 0 else P.getD i 0 := by
  unfold merge
  rw [List.getD_eq_getElem?_getD, List.getElem?_map, List.getD_eq_getElem?_getD (l := P) (i := i), List.getElem?_eq_getElem h]
  rfl
/-- Labels are numbers below m. -/
def Labels (m : Nat) (P : List Int) : Prop := P.length = m ∧ ∀ z ∈ P, 0 ≤ z ∧ z < m
theorem labels_getD {m : Nat} {P : List Int} (h : Labels m P) {i : Nat} (hi : i < m) : P.getD i 0 ∈ P := by
  rw [List.getD_eq_getElem?_getD, List.getElem?_eq_getElem (by rw [h.1]; exact hi)]
  exact List.getElem_mem _
theorem labels_merge {m : Nat} {P : List Int} {l : Lb} (h : Labels m P) (ha : l.a.toNat < m) : Labels m (merge P l) := by
  refine ⟨by rw [merge_len, h.1], fun z hz => ?_⟩
  unfold merge at hz
  rw [List.mem_map] at hz
  obtain ⟨u, hu, rfl⟩ := hz
  split
  · exact h.2 _ (labels_getD h ha)
  · exact h.2 _ hu
def has (P : List Int) (v : Nat) : Bool := decide ((v : Int) ∈ P)
theorem held_merge {m : Nat} {P : List Int} {l : Lb} (h : Labels m P) (ha : l.a.toNat < m) (hb : l.b.toNat < m) :
    held (has (merge P l)) m + (if P.getD l.a.toNat 0 = P.getD l.b.toNat 0 then 0 else 1) = held (has P) m := by
  by_cases e : P.getD l.a.toNat 0 = P.getD l.b.toNat 0
  · have : merge P l = P := by
      unfold merge
      rw [e]
      have : (fun z => if z = P.getD l.b.toNat 0 then P.getD l.b.toNat 0 else z) = id := by
        funext z
        show (if z = P.getD l.b.toNat 0 then P.getD l.b.toNat 0 else z) = z
        by_cases hz : z = P.getD l.b.toNat 0
        · rw [if_pos hz, hz]
        · rw [if_neg hz]
      rw [this, List.map_id]
    rw [this, if_pos e]
    rfl
  · rw [if_neg e]
    have hym := labels_getD h hb
    have hxm := labels_getD h ha
    obtain ⟨hy0, hy1⟩ := h.2 _ hym
    obtain ⟨y, hy⟩ := Int.eq_ofNat_of_zero_le hy0
    have hmem : ∀ z : Int, z ∈ merge P l ↔ z ∈ P ∧ z ≠ P.getD l.b.toNat 0 := by
      intro z
      unfold merge
      rw [List.mem_map]
      constructor
      · rintro ⟨u, hu, rfl⟩
        by_cases hz : u = P.getD l.b.toNat 0
        · rw [if_pos hz]; exact ⟨hxm, e⟩
        · rw [if_neg hz]; exact ⟨hu, hz⟩
      · rintro ⟨hz, hne⟩
        exact ⟨z, hz, by rw [if_neg hne]⟩
    refine held_more (i := y) (by omega) ?_ ?_ ?_
    · unfold has
      rw [decide_eq_false_iff_not, hmem, hy]
      exact fun x => x.2 rfl
    · unfold has
      rw [decide_eq_true_iff, ← hy]
      exact hym
    · intro j _ hj
      unfold has
      rw [Bool.eq_iff_iff, decide_eq_true_iff, decide_eq_true_iff, hmem, hy]
      exact ⟨fun x => x.1, fun x => ⟨x, by omega⟩⟩

theorem fits_ends {m : Nat} {ls : List Lb} (hf : Fits m ls) {l : Lb} (h : l ∈ ls) : l.a.toNat < m ∧ l.b.toNat < m := by
  obtain ⟨⟨a0, a1⟩, ⟨b0, b1⟩, _, _⟩ := hf l h
  omega
theorem step_fits {m : Nat} {l : Lb} {P : List Int} (hf : (0 ≤ l.a ∧ l.a ≤ (m : Int) - 1) ∧ (0 ≤ l.b ∧ l.b ≤ (m : Int) - 1) ∧ l.a ≠ l.b ∧ (1 ≤ l.n ∧ l.n ≤ 100)) :
    joinStep m P l = if P.getD l.a.toNat 0 = P.getD l.b.toNat 0 then none else some (merge P l) := by
  unfold joinStep
  rw [if_pos ⟨hf.1, hf.2.1, hf.2.2.2⟩]
  rfl
/-- Each step that joins two parts leaves one part less; where one does not, more are left. -/
theorem run_count {m : Nat} (ls : List Lb) (hf : Fits m ls) (P : List Int) (h : Labels m P) :
    (∀ Q, joinRun m ls P = some Q → Q = mergeAll ls P ∧ held (has Q) m + ls.length = held (has P) m) ∧
    (joinRun m ls P = none → held (has P) m + 1 ≤ held (has (mergeAll ls P)) m + ls.length) ∧ held (has P) m ≤ held (has (mergeAll ls P)) m + ls.length := by
  induction ls generalizing P with
  | nil =>
    refine ⟨fun Q hQ => ?_, fun hn => ?_, by simp [mergeAll]⟩
    · cases hQ
      exact ⟨rfl, rfl⟩
    · cases hn
  | cons l ls ih =>
    have hl := hf l (by simp)
    obtain ⟨ha, hb⟩ := fits_ends hf (l := l) (by simp)
    have hm := held_merge h ha hb
    obtain ⟨i1, i2, i3⟩ := ih (fun x hx => hf x (List.mem_cons_of_mem _ hx)) (merge P l) (labels_merge h ha)
    have hall : mergeAll (l :: ls) P = mergeAll ls (merge P l) := rfl
    have hrun : joinRun m (l :: ls) P = (joinStep m P l).bind (joinRun m ls) := rfl
    rw [hall, List.length_cons, hrun, step_fits hl]
    by_cases e : P.getD l.a.toNat 0 = P.getD l.b.toNat 0
    · rw [if_pos e] at hm ⊢
      exact ⟨fun Q hQ => (by cases hQ), fun _ => (by omega), by omega⟩
    · rw [if_neg e] at hm ⊢
      refine ⟨fun Q hQ => ?_, fun hn => ?_, by omega⟩
      · obtain ⟨q1, q2⟩ := i1 Q hQ
        exact ⟨q1, by omega⟩
      · have := i2 hn
        omega
theorem labels_apart (m : Nat) : Labels m (apart m) := by
  refine ⟨by simp [apart], fun z hz => ?_⟩
  unfold apart at hz
  rw [List.mem_map] at hz
  obtain ⟨j, hj, rfl⟩ := hz
  rw [List.mem_range] at hj
  omega
theorem held_apart (m : Nat) : held (has (apart m)) m = m := by
  rw [held_all]
  intro i hi
  unfold has apart
  rw [decide_eq_true_iff, List.mem_map]
  exact ⟨i, List.mem_range.2 hi, rfl⟩
theorem getD_apart {m i : Nat} (h : i < m) : (apart m).getD i 0 = i := by
  unfold apart
  rw [List.getD_eq_getElem?_getD, List.getElem?_map, List.getElem?_range h]
  rfl
theorem labels_all {m : Nat} (ls : List Lb) (hf : Fits m ls) (P : List Int) (h : Labels m P) : Labels m (mergeAll ls P) := by
  induction ls generalizing P with
  | nil => exact h
  | cons l ls ih => exact ih (fun x hx => hf x (List.mem_cons_of_mem _ hx)) _ (labels_merge h (fits_ends hf (l := l) (by simp)).1)

/-- What is the same at both ends of each limb is the same throughout a part. -/
theorem same_part {α : Type} {m : Nat} (f : Nat → α) (ls : List Lb) (hf : Fits m ls) (hs : ∀ l ∈ ls, f l.a.toNat = f l.b.toNat) (P : List Int) (h : Labels m P)
    (hp : ∀ i j, i < m → j < m → P.getD i 0 = P.getD j 0 → f i = f j) : ∀ i j, i < m → j < m → (mergeAll ls P).getD i 0 = (mergeAll ls P).getD j 0 → f i = f j := by
  induction ls generalizing P with
  | nil => exact hp
  | cons l ls ih =>
    obtain ⟨ha, hb⟩ := fits_ends hf (l := l) (by simp)
    refine ih (fun x hx => hf x (List.mem_cons_of_mem _ hx)) (fun x hx => hs x (List.mem_cons_of_mem _ hx)) (merge P l) (labels_merge h ha) ?_
    intro i j hi hj hij
    rw [getD_merge (by rw [h.1]; exact hi), getD_merge (by rw [h.1]; exact hj)] at hij
    have hl := hs l (by simp)
    by_cases e1 : P.getD i 0 = P.getD l.b.toNat 0
    · have f1 := hp i _ hi hb e1
      by_cases e2 : P.getD j 0 = P.getD l.b.toNat 0
      · rw [f1, hp j _ hj hb e2]
      · rw [if_pos e1, if_neg e2] at hij
        rw [f1, ← hl, hp j _ hj ha hij.symm]
    · by_cases e2 : P.getD j 0 = P.getD l.b.toNat 0
      · rw [if_neg e1, if_pos e2] at hij
        rw [hp i _ hi ha hij, hl, hp j _ hj hb e2]
      · rw [if_neg e1, if_neg e2] at hij
        exact hp i j hi hj hij
/-- Two joints of one part stay so. -/
theorem part_stays {m : Nat} (ls : List Lb) (hf : Fits m ls) (P : List Int) (h : Labels m P) {i j : Nat} (hi : i < m) (hj : j < m) (e : P.getD i 0 = P.getD j 0) : (mergeAll ls P).getD i 0 = (mergeAll ls P).getD j 0 := by
  induction ls generalizing P with
  | nil => exact e
  | cons l ls ih =>
    refine ih (fun x hx => hf x (List.mem_cons_of_mem _ hx)) _ (labels_merge h (fits_ends hf (l := l) (by simp)).1) ?_
    rw [getD_merge (by rw [h.1]; exact hi), getD_merge (by rw [h.1]; exact hj), e]
/-- At the end both ends of each limb are in one part. -/
theorem ends_joined {m : Nat} (ls : List Lb) (hf : Fits m ls) (P : List Int) (h : Labels m P) : ∀ l ∈ ls, (mergeAll ls P).getD l.a.toNat 0 = (mergeAll ls P).getD l.b.toNat 0 := by
  induction ls generalizing P with
  | nil => intro l hl; cases hl
  | cons x ls ih =>
    obtain ⟨ha, hb⟩ := fits_ends hf (l := x) (by simp)
    have hf' : Fits m ls := fun y hy => hf y (List.mem_cons_of_mem _ hy)
    intro l hl
    rcases List.mem_cons.1 hl with rfl | hl
    · refine part_stays ls hf' (merge P l) (labels_merge h ha) ha hb ?_
      rw [getD_merge (by rw [h.1]; exact ha), getD_merge (by rw [h.1]; exact hb), if_pos rfl]
      split <;> rfl
    · exact ih hf' _ (labels_merge h ha) l hl

/-- m - 1 limbs that join parts each time: what is the same at both ends of each limb is the same everywhere. -/
theorem joined_same {α : Type} {m : Nat} {ls : List Lb} (hf : Fits m ls) (hl : ls.length + 1 = m) (hr : (joinRun m ls (apart m)).isSome = true) (f : Nat → α) (hs : ∀ l ∈ ls, f l.a.toNat = f l.b.toNat) :
    ∀ i j, i < m → j < m → f i = f j := by
  obtain ⟨Q, hQ⟩ := Option.isSome_iff_exists.1 hr
  obtain ⟨e, hc⟩ := (run_count ls hf (apart m) (labels_apart m)).1 Q hQ
  rw [held_apart] at hc
  have hlq := labels_all ls hf (apart m) (labels_apart m)
  rw [← e] at hlq
  intro i j hi hj
  refine same_part f ls hf hs (apart m) (labels_apart m) ?_ i j hi hj ?_
  · intro a b ha hb hab
    rw [getD_apart ha, getD_apart hb] at hab
    rw [show a = b by omega]
  · rw [← e]
    refine Classical.byContradiction fun hne => ?_
    have h1 := labels_getD hlq hi
    have h2 := labels_getD hlq hj
    obtain ⟨u0, u1⟩ := hlq.2 _ h1
    obtain ⟨v0, v1⟩ := hlq.2 _ h2
    obtain ⟨u, hu⟩ := Int.eq_ofNat_of_zero_le u0
    obtain ⟨v, hv⟩ := Int.eq_ofNat_of_zero_le v0
    have a0 : held (fun _ => false) m = 0 := by unfold held; simp
    have a1 := held_more (p := fun _ => false) (q := fun x => decide (x = u)) (m := m) (i := u) (by omega) rfl (by simp) (fun y _ hy => by simp [hy])
    have a2 := held_more (p := fun x => decide (x = u)) (q := fun x => decide (x = u ∨ x = v)) (m := m) (i := v) (by omega) (by simp; omega) (by simp) (fun y _ hy => by simp [hy])
    have a3 : held (fun x => decide (x = u ∨ x = v)) m ≤ held (has Q) m := held_mono fun x _ hx => by
      unfold has
      rw [decide_eq_true_iff] at hx ⊢
      rcases hx with rfl | rfl
      · rw [← hu]; exact h1
      · rw [← hv]; exact h2
    omega
/-- Where a limb joins nothing, something is the same at both ends of each limb and not everywhere. -/
theorem unjoined {m : Nat} {ls : List Lb} (hf : Fits m ls) (hl : ls.length + 1 = m) (hr : (joinRun m ls (apart m)).isSome = false) :
    ∃ f : Nat → Int, (∀ l ∈ ls, f l.a.toNat = f l.b.toNat) ∧ ∃ j, j < m ∧ f j ≠ f 0 := by
  have hn : joinRun m ls (apart m) = none := by simpa using hr
  have hc := (run_count ls hf (apart m) (labels_apart m)).2.1 hn
  rw [held_apart] at hc
  have hlq := labels_all ls hf (apart m) (labels_apart m)
  refine ⟨fun i => (mergeAll ls (apart m)).getD i 0, ends_joined ls hf (apart m) (labels_apart m), ?_⟩
  refine Classical.byContradiction fun hno => ?_
  have hall : ∀ j, j < m → (mergeAll ls (apart m)).getD j 0 = (mergeAll ls (apart m)).getD 0 0 := fun j hj => Classical.byContradiction fun h => hno ⟨j, hj, h⟩
  generalize mergeAll ls (apart m) = Q at hc hlq hall
  obtain ⟨u0, u1⟩ := hlq.2 _ (labels_getD hlq (i := 0) (by omega))
  obtain ⟨u, hu⟩ := Int.eq_ofNat_of_zero_le u0
  have a0 : held (fun _ => false) m = 0 := by unfold held; simp
  have a1 := held_more (p := fun _ => false) (q := fun x => decide (x = u)) (m := m) (i := u) (by omega) rfl (by simp) (fun y _ hy => by simp [hy])
  have a3 : held (has Q) m ≤ held (fun x => decide (x = u)) m := held_mono fun x _ hx => by
    unfold has at hx
    rw [decide_eq_true_iff] at hx ⊢
    obtain ⟨k, hk, hx⟩ := List.mem_iff_getElem.1 hx
    have := hall k (by rw [← hlq.1]; exact hk)
    rw [List.getD_eq_getElem?_getD, List.getElem?_eq_getElem hk, hu] at this
    simp only [Option.getD_some] at this
    omega
  omega

/-- The k-th limb; behind the last one a limb of zeros. -/
def limbAt (ls : List Lb) (k : Nat) : Lb := (ls[k]?).getD ⟨0, 0, 0⟩
theorem limbAt_lt {ls : List Lb} {k : Nat} (h : k < ls.length) : limbAt ls k = ls[k] := by
  unfold limbAt
  rw [List.getElem?_eq_getElem h]
  rfl
/-- Which of the first k limbs end at joint i. -/
def incs (ls : List Lb) (i : Nat) : Nat → List Int
  | 0 => []
  | k + 1 => incs ls i k ++ if (limbAt ls k).a = (i : Int) ∨ (limbAt ls k).b = (i : Int) then [(k : Int)] else []
/-- The joints at the other ends of the first k limbs. -/
def nbrs (ls : List Lb) (i : Nat) : Nat → List Nat
  | 0 => []
  | k + 1 => nbrs ls i k ++ if (limbAt ls k).a = (i : Int) then [(limbAt ls k).b.toNat] else if (limbAt ls k).b = (i : Int) then [(limbAt ls k).a.toNat] else []
theorem incs_len (ls : List Lb) (i k : Nat) : (incs ls i k).length ≤ k := by
  induction k with
  | zero => simp [incs]
  | succ k ih =>
    unfold incs
    split <;> simp <;> omega
theorem nbrs_len (ls : List Lb) (i k : Nat) : (nbrs ls i k).length ≤ k := by
  induction k with
  | zero => simp [nbrs]
  | succ k ih =>
    unfold nbrs
    split
    · simp; omega
    · split <;> simp <;> omega
theorem nbrs_mem {ls : List Lb} {i k x : Nat} (hk : k ≤ ls.length) (h : x ∈ nbrs ls i k) : ∃ l ∈ ls, (l.a = (i : Int) ∧ l.b.toNat = x) ∨ (l.b = (i : Int) ∧ l.a.toNat = x) := by
  induction k with
  | zero => cases h
  | succ k ih =>
    unfold nbrs at h
    rcases List.mem_append.1 h with h | h
    · exact ih (by omega) h
    · have hl : limbAt ls k ∈ ls := by rw [limbAt_lt (by omega)]; exact List.getElem_mem _
      refine ⟨_, hl, ?_⟩
      by_cases h1 : (limbAt ls k).a = (i : Int)
      · rw [if_pos h1] at h
        exact .inl ⟨h1, (List.mem_singleton.1 h).symm⟩
      · rw [if_neg h1] at h
        by_cases h2 : (limbAt ls k).b = (i : Int)
        · rw [if_pos h2] at h
          exact .inr ⟨h2, (List.mem_singleton.1 h).symm⟩
        · rw [if_neg h2] at h
          cases h
theorem nbrs_lt {m : Nat} {ls : List Lb} (hf : Fits m ls) {i k x : Nat} (hk : k ≤ ls.length) (h : x ∈ nbrs ls i k) : x < m := by
  obtain ⟨l, hl, h⟩ := nbrs_mem hk h
  obtain ⟨ha, hb⟩ := fits_ends hf hl
  rcases h with ⟨_, rfl⟩ | ⟨_, rfl⟩
  · exact hb
  · exact ha
theorem nbrs_grow {ls : List Lb} {i j k x : Nat} (hjk : j ≤ k) (h : x ∈ nbrs ls i j) : x ∈ nbrs ls i k := by
  induction k with
  | zero =>
    obtain rfl : j = 0 := by omega
    exact h
  | succ k ih =>
    by_cases e : j = k + 1
    · exact e ▸ h
    · unfold nbrs
      exact List.mem_append_left _ (ih (by omega))
theorem nbrs_ends {m : Nat} {ls : List Lb} (hf : Fits m ls) {l : Lb} (h : l ∈ ls) : l.b.toNat ∈ nbrs ls l.a.toNat ls.length ∧ l.a.toNat ∈ nbrs ls l.b.toNat ls.length := by
  obtain ⟨⟨a0, a1⟩, ⟨b0, b1⟩, hne, _⟩ := hf l h
  obtain ⟨k, hk, rfl⟩ := List.mem_iff_getElem.1 h
  refine ⟨nbrs_grow (show k + 1 ≤ ls.length by omega) ?_, nbrs_grow (show k + 1 ≤ ls.length by omega) ?_⟩
  · unfold nbrs
    refine List.mem_append_right _ ?_
    rw [limbAt_lt hk, if_pos (by omega)]
    exact List.mem_singleton.2 rfl
  · unfold nbrs
    refine List.mem_append_right _ ?_
    rw [limbAt_lt hk, if_neg (by omega), if_pos (by omega)]
    exact List.mem_singleton.2 rfl

/-- What a walk from joint i has marked: n joints more, each of which is connected with i; and with a joint all beside it. -/
def Walked (m : Nat) (N : Nat → List Nat) (R : Nat → Bool) (i n : Nat) (R' : Nat → Bool) : Prop :=
  n + held R m = held R' m ∧ (∀ x, x < m → R x = true → R' x = true) ∧ R' i = true ∧
  (∀ x, x < m → R' x = true → R x = true ∨ ∀ f : Nat → Int, (∀ y, y < m → ∀ z ∈ N y, f y = f z) → f x = f i) ∧
  (∀ x, x < m → R' x = true → R x = true ∨ ∀ y ∈ N x, R' y = true)
/-- The same on the way, when the first q joints beside i have been walked to. -/
def Walking (m : Nat) (N : Nat → List Nat) (R : Nat → Bool) (i q n : Nat) (R' : Nat → Bool) : Prop :=
  n + held R m = held R' m ∧ (∀ x, x < m → R x = true → R' x = true) ∧ R' i = true ∧
  (∀ x, x < m → R' x = true → R x = true ∨ ∀ f : Nat → Int, (∀ y, y < m → ∀ z ∈ N y, f y = f z) → f x = f i) ∧
  (∀ x, x < m → R' x = true → R x = true ∨ x = i ∨ ∀ y ∈ N x, R' y = true) ∧ ∀ y ∈ (N i).take q, R' y = true
def upd {α : Type} (f : Nat → α) (i : Nat) (x : α) : Nat → α := fun j => if j = i then x else f j
theorem upd_same {α : Type} (f : Nat → α) (i : Nat) (x : α) : upd f i x i = x := by simp [upd]
theorem upd_other {α : Type} (f : Nat → α) {i j : Nat} (h : j ≠ i) (x : α) : upd f i x j = f j := by simp [upd, h]
theorem walked_none {m : Nat} {N : Nat → List Nat} {R : Nat → Bool} {i : Nat} (h : R i = true) : Walked m N R i 0 R :=
  ⟨by omega, fun _ _ h => h, h, fun _ _ h => .inl h, fun _ _ h => .inl h⟩
theorem walking_start {m : Nat} {N : Nat → List Nat} {R : Nat → Bool} {i : Nat} (hi : i < m) (h : R i = false) : Walking m N R i 0 1 (upd R i true) := by
  refine ⟨?_, fun x _ hx => ?_, upd_same _ _ _, fun x _ hx => ?_, fun x _ hx => ?_, fun y hy => by simp at hy⟩
  · have := held_more (p := R) (q := upd R i true) hi h (upd_same _ _ _) (fun j _ hj => (upd_other R hj true).symm)
    omega
  · by_cases e : x = i
    · rw [e]; exact upd_same _ _ _
    · rw [upd_other R e]; exact hx
  · by_cases e : x = i
    · exact .inr fun f _ => by rw [e]
    · rw [upd_other R e] at hx
      exact .inl hx
  · by_cases e : x = i
    · exact .inr (.inl e)
    · rw [upd_other R e] at hx
      exact .inl hx
theorem walking_step {m : Nat} {N : Nat → List Nat} {R R1 R2 : Nat → Bool} {i q n n' : Nat} (hN : ∀ x, x < m → ∀ y ∈ N x, y < m) (hi : i < m) (hq : q < (N i).length) (h : Walking m N R i q n R1) (h' : Walked m N R1 (N i)[q] n' R2) :
    Walking m N R i (q + 1) (n + n') R2 := by
  obtain ⟨c1, s1, i1, f1, d1, t1⟩ := h
  obtain ⟨c2, s2, i2, f2, d2⟩ := h'
  refine ⟨by omega, fun x hx hr => s2 x hx (s1 x hx hr), s2 i hi i1, fun x hx hr => ?_, fun x hx hr => ?_, fun y hy => ?_⟩
  · rcases f2 x hx hr with hr | hf
    · exact f1 x hx hr
    · exact .inr fun f hc => by rw [hf f hc, ← hc i hi _ (List.getElem_mem hq)]
  · rcases d2 x hx hr with hr | hd
    · rcases d1 x hx hr with h | h | h
      · exact .inl h
      · exact .inr (.inl h)
      · exact .inr (.inr fun y hy => s2 y (hN x hx y hy) (h y hy))
    · exact .inr (.inr hd)
  · rw [List.take_add_one, List.getElem?_eq_getElem hq] at hy
    rcases List.mem_append.1 hy with hy | hy
    · exact s2 y (hN i hi y (List.mem_of_mem_take hy)) (t1 y hy)
    · obtain rfl : y = (N i)[q] := by simpa using hy
      exact i2
theorem walking_end {m : Nat} {N : Nat → List Nat} {R R1 : Nat → Bool} {i n : Nat} (h : Walking m N R i (N i).length n R1) : Walked m N R i n R1 := by
  obtain ⟨c1, s1, i1, f1, d1, t1⟩ := h
  rw [List.take_length] at t1
  refine ⟨c1, s1, i1, f1, fun x hx hr => ?_⟩
  rcases d1 x hx hr with h | rfl | h
  · exact .inl h
  · exact .inr t1
  · exact .inr h
/-- The joints that can be reached from joint 0 are as many as there are just if each limb joins two parts. -/
theorem reached_all {m : Nat} {ls : List Lb} (hf : Fits m ls) (hl : ls.length + 1 = m) {n : Nat} {R' : Nat → Bool} (h : Walked m (fun i => nbrs ls i ls.length) (fun _ => false) 0 n R') :
    decide ((n : Int) = (m : Int)) = (joinRun m ls (apart m)).isSome := by
  obtain ⟨c1, _, i1, f1, d1⟩ := h
  have hz : held (fun _ => false) m = 0 := by unfold held; simp
  rw [hz] at c1
  cases hr : (joinRun m ls (apart m)).isSome with
  | true =>
    rw [decide_eq_true_iff]
    have hs : ∀ l ∈ ls, R' l.a.toNat = R' l.b.toNat := fun l hl' => by
      obtain ⟨ha, hb⟩ := fits_ends hf hl'
      obtain ⟨e1, e2⟩ := nbrs_ends hf hl'
      rw [Bool.eq_iff_iff]
      refine ⟨fun x => ?_, fun x => ?_⟩
      · rcases d1 _ ha x with h | h
        · cases h
        · exact h _ e1
      · rcases d1 _ hb x with h | h
        · cases h
        · exact h _ e2
    have hall := joined_same hf hl hr R' hs
    have := (held_all (p := R') (m := m)).2 fun i hi => by rw [hall i 0 hi (by omega), i1]
    omega
  | false =>
    rw [decide_eq_false_iff_not]
    intro hn
    obtain ⟨f, hs, j, hj, hne⟩ := unjoined hf hl hr
    have hall := (held_all (p := R') (m := m)).1 (by omega)
    rcases f1 j hj (hall j hj) with h | h
    · cases h
    · refine hne (h f fun y _ z hz => ?_)
      obtain ⟨l, hl', h⟩ := nbrs_mem (Nat.le_refl _) hz
      have := hs l hl'
      rcases h with ⟨e1, e2⟩ | ⟨e1, e2⟩
      · rw [e1, e2] at this
        simpa using this
      · rw [e1, e2] at this
        simpa using this.symm
end Go.Proofs.Ytblbmppbbhibeaa
