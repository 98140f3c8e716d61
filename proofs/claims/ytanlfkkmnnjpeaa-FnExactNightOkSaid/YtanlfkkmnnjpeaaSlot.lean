/- Rows of cells of the call's own that hold numbers, truths and rows of numbers (each such row in a block of its own, no two of them in one): structs with slices, one behind the other. No condition. -/
import Derived.Test.YtanlfkkmnnjpeaaRowB
namespace Go.Proofs.Ytanlfkkmnnjpeaa
set_option linter.unusedVariables false
set_option linter.unusedSimpArgs false
open Go.RowKit

inductive Slot where
  | num (z : Int)
  | tru (t : Bool)
  | row (zs : List Int)
/-- The value u holds what the slot says. -/
def SlotOk (w : World) (base : Nat) (u : Value) : Slot → Prop
  | .num z => u = .int .i64 z
  | .tru t => u = .bool t
  | .row zs => OwnI w base u zs
section
variable {w w' : World} {base b : Nat} {u : Value} {s : Slot} {row : Option Nat}
theorem SlotOk.kept (h : SlotOk w base u s) (hg : w.grownBy w' row) (hne : u.ownBlock = none ∨ u.ownBlock ≠ row) : SlotOk w' base u s := by
  cases s with
  | num z => exact h
  | tru t => exact h
  | row zs => exact OwnI.kept h hg hne
theorem SlotOk.below (h : SlotOk w base u s) (hb : Below w.heap.size w w') : SlotOk w' base u s := h.kept (grown_of_below hb none) (by cases u.ownBlock <;> simp)
theorem SlotOk.mono (h : SlotOk w base u s) (hb : b ≤ base) : SlotOk w b u s := by
  cases s with
  | num z => exact h
  | tru t => exact h
  | row zs => exact OwnI.mono h hb
theorem SlotOk.lt (h : SlotOk w base u s) : ∀ k, u.ownBlock = some k → base ≤ k ∧ k < w.heap.size := by
  cases s with
  | num z => intro k hk; rw [show u = .int .i64 z from h] at hk; cases hk
  | tru t => intro k hk; rw [show u = .bool t from h] at hk; cases hk
  | row zs => exact OwnI.lt h
end
theorem sep_flip {a r : Option Nat} (h : r = none ∨ r ≠ a) : a = none ∨ a ≠ r := by
  rcases h with rfl | h
  · cases a <;> simp
  · exact .inr (Ne.symm h)
theorem sep_none_r {a b : Option Nat} (h : b = none) : a = none ∨ a ≠ b := by
  subst h
  cases a <;> simp
theorem ne_of_sep {a : Option Nat} {g : Nat} (h : a = none ∨ a ≠ some g) : some g ≠ a := by
  rcases h with rfl | h
  · simp
  · exact Ne.symm h
theorem add_pos (x : Addr) (j : Nat) (hj : 0 < j) : x.add j = { block := x.block, off := x.off + j } := by
  unfold Addr.add
  rw [if_neg (by omega)]
theorem add_zero (x : Addr) : x.add 0 = x := by
  unfold Addr.add
  rw [if_pos rfl]
/-- The list with the xs written from place k on. -/
def putAt {α : Type} (ls : List α) (k : Nat) : List α → List α
  | [] => ls
  | x :: xs => putAt (ls.set k x) (k + 1) xs
theorem putAt_len {α : Type} (xs : List α) : ∀ (ls : List α) (k : Nat), (putAt ls k xs).length = ls.length := by
  induction xs with
  | nil => exact fun _ _ => rfl
  | cons x xs ih => intro ls k; rw [putAt, ih, List.length_set]

/-- n elements of K cells each; vs: the cells' values. -/
structure OwnVV (e : TypeId) (K : Nat) (w : World) (base : Nat) (v : Value) (n : Nat) (vs : List Value) (ss : List Slot) : Prop where
  row : w.ownsRow base e K v n vs
  len : vs.length = ss.length
  each : ∀ t (h : t < vs.length) (h' : t < ss.length), SlotOk w base vs[t] ss[t]
  off : ∀ t (h : t < vs.length), vs[t].ownBlock = none ∨ vs[t].ownBlock ≠ v.ownBlock
  apart : ∀ i j (hi : i < vs.length) (hj : j < vs.length), i ≠ j → vs[i].ownBlock = none ∨ vs[i].ownBlock ≠ vs[j].ownBlock
def OwnV (e : TypeId) (K : Nat) (w : World) (base : Nat) (v : Value) (n : Nat) (ss : List Slot) : Prop := ∃ vs, OwnVV e K w base v n vs ss
section
variable {e : TypeId} {K : Nat} {w w' : World} {base b n : Nat} {v : Value} {vs : List Value} {ss : List Slot}
theorem OwnVV.kept {row : Option Nat} (h : OwnVV e K w base v n vs ss) (hg : w.grownBy w' row) (h1 : v.ownBlock = none ∨ v.ownBlock ≠ row) (h2 : ∀ t (ht : t < vs.length), vs[t].ownBlock = none ∨ vs[t].ownBlock ≠ row) : OwnVV e K w' base v n vs ss :=
  ⟨World.ownsRow.kept h.row hg h1, h.len, fun t ht ht' => (h.each t ht ht').kept hg (h2 t ht), h.off, h.apart⟩
theorem OwnVV.below (h : OwnVV e K w base v n vs ss) (hb : Below w.heap.size w w') : OwnVV e K w' base v n vs ss :=
  h.kept (grown_of_below hb none) (by cases v.ownBlock <;> simp) (fun t ht => by cases vs[t].ownBlock <;> simp)
theorem OwnV.below (h : OwnV e K w base v n ss) (hb : Below w.heap.size w w') : OwnV e K w' base v n ss := let ⟨vs, x⟩ := h; ⟨vs, x.below hb⟩
theorem OwnV.alloc (h : OwnV e K w base v n ss) (o : Obj) : OwnV e K (w.alloc o) base v n ss := h.below ((Below.refl _ _).alloc (Nat.le_refl _) _)
theorem OwnVV.lt (h : OwnVV e K w base v n vs ss) : ∀ k, v.ownBlock = some k → base ≤ k ∧ k < w.heap.size := World.ownsRow.lt h.row
theorem OwnV.lt (h : OwnV e K w base v n ss) : ∀ k, v.ownBlock = some k → base ≤ k ∧ k < w.heap.size := let ⟨_, x⟩ := h; x.lt
theorem OwnVV.eachLt (h : OwnVV e K w base v n vs ss) : ∀ t (ht : t < vs.length) k, vs[t].ownBlock = some k → base ≤ k ∧ k < w.heap.size := fun t ht => (h.each t ht (by rw [← h.len]; exact ht)).lt
/-- A write into a block that is older than all of them. -/
theorem OwnV.older {row : Option Nat} (h : OwnV e K w base v n ss) (hg : w.grownBy w' row) (hr : ∀ k, row = some k → k < base) : OwnV e K w' base v n ss := by
  obtain ⟨vs, h⟩ := h
  exact ⟨vs, h.kept hg (sep_of fun b e1 e2 => by have := (h.lt b e1).1; have := hr b e2; omega) (fun t ht => sep_of fun b e1 e2 => by have := (h.eachLt t ht b e1).1; have := hr b e2; omega)⟩
theorem OwnVV.mono (h : OwnVV e K w base v n vs ss) (hb : b ≤ base) : OwnVV e K w b v n vs ss := by
  refine ⟨?_, h.len, fun t ht ht' => (h.each t ht ht').mono hb, h.off, h.apart⟩
  obtain ⟨h1, h2⟩ := h.row
  refine ⟨h1, ?_⟩
  rcases h2 with h2 | ⟨g, cap, cur, e, hg, rest⟩
  · exact .inl h2
  · exact .inr ⟨g, cap, cur, e, Nat.le_trans hb hg, rest⟩
theorem OwnV.mono (h : OwnV e K w base v n ss) (hb : b ≤ base) : OwnV e K w b v n ss := let ⟨vs, x⟩ := h; ⟨vs, x.mono hb⟩
theorem OwnV.slice (h : OwnV e K w base v n ss) : ∃ A c, v = .slice A n c := by
  obtain ⟨vs, h⟩ := h
  rcases h.row.2 with ⟨rfl, hn⟩ | ⟨g, cap, _, rfl, _⟩
  · exact ⟨none, 0, by rw [hn]⟩
  · exact ⟨_, _, rfl⟩
/-- One cell. -/
theorem OwnVV.cell (h : OwnVV e K w base v n vs ss) {t : Nat} (ht : t < vs.length) :
    ∃ g c, v = .slice (some ⟨g, 0, none⟩) n c ∧ (base ≤ g ∧ g < w.heap.size) ∧ w.cell? ⟨g, t, none⟩ = some vs[t] ∧ w.frozen? ⟨g, t, none⟩ = false := by
  have hl := h.row.1
  have hlt := h.lt
  rcases h.row.2 with ⟨_, hn⟩ | ⟨g, cap, cur, rfl, hb, hg, _⟩
  · rw [hn] at hl; omega
  · refine ⟨g, cap, rfl, hlt g rfl, ?_, World.ownsRow.frozenAt h.row t⟩
    rw [World.ownsRow.cellAt h.row t (by omega), List.getElem?_eq_getElem ht]
/-- A cell is written: what it holds now lies apart from all else. -/
theorem OwnVV.put {g c t : Nat} {u : Value} {x : Slot} (h : OwnVV e K w base (.slice (some ⟨g, 0, none⟩) n c) n vs ss) (ht : t < vs.length) (hu : SlotOk w base u x) (ho : u.ownBlock = none ∨ u.ownBlock ≠ some g)
    (ha : ∀ i (hi : i < vs.length), i ≠ t → u.ownBlock = none ∨ u.ownBlock ≠ vs[i].ownBlock) :
    OwnVV e K (w.setCell ⟨g, t, none⟩ u) base (.slice (some ⟨g, 0, none⟩) n c) n (vs.set t u) (ss.set t x) ∧ w.grownBy (w.setCell ⟨g, t, none⟩ u) (some g) := by
  obtain ⟨s1, g1⟩ := World.ownsRow.stored h.row t u
  refine ⟨⟨s1, by simp [h.len], fun i hi hi' => ?_, fun i hi => ?_, fun i j hi hj hij => ?_⟩, g1⟩
  · simp only [List.length_set] at hi hi'
    by_cases q : t = i
    · subst q
      simp only [List.getElem_set_self]
      exact hu.kept g1 ho
    · simp only [List.getElem_set_ne q]
      exact (h.each i hi hi').kept g1 (h.off i hi)
  · simp only [List.length_set] at hi
    by_cases q : t = i
    · subst q
      simp only [List.getElem_set_self]
      exact ho
    · simp only [List.getElem_set_ne q]
      exact h.off i hi
  · simp only [List.length_set] at hi hj
    by_cases q : t = i
    · subst q
      simp only [List.getElem_set_self, List.getElem_set_ne hij]
      exact ha j hj (fun e => hij e.symm)
    · simp only [List.getElem_set_ne q]
      by_cases q2 : t = j
      · subst q2
        simp only [List.getElem_set_self]
        exact sep_flip (ha i hi (fun e => q e.symm))
      · simp only [List.getElem_set_ne q2]
        exact h.apart i j hi hj hij
/-- Some cells are written, one behind the other: what they hold now lies apart from all that was there, and from one another. -/
theorem OwnVV.puts {g c : Nat} (us : List Value) : ∀ (xs : List Slot) {w : World} {vs : List Value} {ss : List Slot} (t : Nat), OwnVV e K w base (.slice (some ⟨g, 0, none⟩) n c) n vs ss → t + us.length ≤ vs.length → us.length = xs.length →
    (∀ j (h : j < us.length) (h' : j < xs.length), SlotOk w base us[j] xs[j]) → (∀ j (h : j < us.length), us[j].ownBlock = none ∨ us[j].ownBlock ≠ some g) →
    (∀ j (h : j < us.length) i (hi : i < vs.length), us[j].ownBlock = none ∨ us[j].ownBlock ≠ vs[i].ownBlock) → (∀ i j (hi : i < us.length) (hj : j < us.length), i ≠ j → us[i].ownBlock = none ∨ us[i].ownBlock ≠ us[j].ownBlock) →
    OwnVV e K (w.setCells g t us) base (.slice (some ⟨g, 0, none⟩) n c) n (putAt vs t us) (putAt ss t xs) ∧ w.grownBy (w.setCells g t us) (some g) := by
  induction us with
  | nil =>
    intro xs w vs ss t h _ hl _ _ _ _
    obtain rfl : xs = [] := List.eq_nil_of_length_eq_zero (by simpa using hl.symm)
    exact ⟨h, World.grownBy.refl _ _⟩
  | cons u us ih =>
    intro xs w vs ss t h ht hl h1 h2 h3 h4
    obtain ⟨x, xs, rfl⟩ : ∃ x ys, xs = x :: ys := by
      cases xs with
      | nil => simp at hl
      | cons x ys => exact ⟨x, ys, rfl⟩
    rw [List.length_cons] at ht
    obtain ⟨p1, g1⟩ := h.put (t := t) (by omega) (h1 0 (by simp) (by simp)) (h2 0 (by simp)) (fun i hi _ => h3 0 (by simp) i hi)
    obtain ⟨p2, g2⟩ := ih xs (t + 1) p1 (by rw [List.length_set]; omega) (by simpa using hl)
      (fun j hj hj' => (h1 (j + 1) (by simp; omega) (by simp; omega)).kept g1 (h2 (j + 1) (by simp; omega))) (fun j hj => h2 (j + 1) (by simp; omega))
      (fun j hj i hi => by
        simp only [List.length_set] at hi
        by_cases q : t = i
        · subst q
          simp only [List.getElem_set_self]
          exact h4 (j + 1) 0 (by simp; omega) (by simp) (by omega)
        · simp only [List.getElem_set_ne q]
          exact h3 (j + 1) (by simp; omega) i hi)
      (fun i j hi hj hij => h4 (i + 1) (j + 1) (by simp; omega) (by simp; omega) (by omega))
    exact ⟨p2, grown_then g1 g2⟩
/-- The numbers of one inner row change in place. -/
theorem OwnVV.turn {t : Nat} {x : Slot} (h : OwnVV e K w base v n vs ss) (ht : t < vs.length) (hu : SlotOk w' base vs[t] x) (hg : w.grownBy w' vs[t].ownBlock) : OwnVV e K w' base v n vs (ss.set t x) := by
  refine ⟨World.ownsRow.kept h.row hg (sep_flip (h.off t ht)), by rw [List.length_set]; exact h.len, fun i hi hi' => ?_, h.off, h.apart⟩
  rw [List.length_set] at hi'
  by_cases q : t = i
  · subst q
    rw [List.getElem_set_self]
    exact hu
  · rw [List.getElem_set_ne q]
    exact (h.each i hi hi').kept hg (h.apart i t hi ht (Ne.symm q))
/-- Whatever holds no inner row. -/
theorem ownV_plain (h : w.ownsRow base e K v n vs) (hl : vs.length = ss.length) (he : ∀ t (h : t < vs.length) (h' : t < ss.length), SlotOk w base vs[t] ss[t]) (hn : ∀ t (h : t < vs.length), vs[t].ownBlock = none) : OwnV e K w base v n ss :=
  ⟨vs, h, hl, he, fun t ht => .inl (hn t ht), fun i j hi _ _ => .inl (hn i hi)⟩
end

/-- The cell that a slot speaks of. -/
theorem OwnVV.at {e : TypeId} {K : Nat} {w : World} {base n : Nat} {v : Value} {vs : List Value} {ss : List Slot} (h : OwnVV e K w base v n vs ss) {t : Nat} {s : Slot} (hs : ss[t]? = some s) :
    ∃ g c, v = .slice (some ⟨g, 0, none⟩) n c ∧ (base ≤ g ∧ g < w.heap.size) ∧ ∃ u, vs[t]? = some u ∧ w.cell? ⟨g, t, none⟩ = some u ∧ w.frozen? ⟨g, t, none⟩ = false ∧ SlotOk w base u s := by
  obtain ⟨ht, e1⟩ := List.getElem?_eq_some_iff.1 hs
  have hv : t < vs.length := by rw [h.len]; exact ht
  obtain ⟨g, c, e2, e3, e4, e5⟩ := h.cell hv
  exact ⟨g, c, e2, e3, vs[t], List.getElem?_eq_getElem hv, e4, e5, e1 ▸ h.each t hv ht⟩
section
variable {α : Type} {f : α → List Slot} {K : Nat}
theorem fm_len (hK : ∀ l, (f l).length = K) (ls : List α) : (ls.flatMap f).length = ls.length * K := by
  induction ls with
  | nil => simp
  | cons l ls ih => rw [List.flatMap_cons, List.length_append, hK, ih, List.length_cons, Nat.succ_mul]; omega
theorem fm_at (hK : ∀ l, (f l).length = K) (ls : List α) (k j : Nat) (hj : j < K) (hk : k < ls.length) : (ls.flatMap f)[k * K + j]? = (f ls[k])[j]? := by
  induction ls generalizing k with
  | nil => simp at hk
  | cons l ls ih =>
    rw [List.flatMap_cons]
    cases k with
    | zero => rw [List.getElem?_append_left (by rw [hK]; omega), Nat.zero_mul, Nat.zero_add]; rfl
    | succ k =>
      rw [List.getElem?_append_right (by rw [hK, Nat.succ_mul]; omega), hK, show (k + 1) * K + j - K = k * K + j by rw [Nat.succ_mul]; omega]
      exact ih k (by simpa using hk)
theorem fm_setj (hK : ∀ l, (f l).length = K) (ls : List α) (k j : Nat) (hj : j < K) (hk : k < ls.length) (s : Slot) (l : α) (hl : f l = (f ls[k]).set j s) : (ls.flatMap f).set (k * K + j) s = (ls.set k l).flatMap f := by
  induction ls generalizing k with
  | nil => simp at hk
  | cons x ls ih =>
    rw [List.flatMap_cons]
    cases k with
    | zero =>
      rw [List.set_append_left _ _ (by rw [hK]; omega), Nat.zero_mul, Nat.zero_add, List.set_cons_zero, List.flatMap_cons, hl]
      rfl
    | succ k =>
      rw [List.set_append_right _ _ (by rw [hK, Nat.succ_mul]; omega), hK, show (k + 1) * K + j - K = k * K + j by rw [Nat.succ_mul]; omega, ih k (by simpa using hk) (by simpa using hl), List.set_cons_succ, List.flatMap_cons]
theorem putAt_right {α : Type} (xs : List α) : ∀ (a b : List α) (m : Nat), putAt (a ++ b) (a.length + m) xs = a ++ putAt b m xs := by
  induction xs with
  | nil => exact fun _ _ _ => rfl
  | cons x xs ih =>
    intro a b m
    rw [putAt, putAt, List.set_append_right _ _ (by omega), Nat.add_sub_cancel_left, Nat.add_assoc, ih]
theorem putAt_left {α : Type} (xs : List α) : ∀ (a b : List α), a.length = xs.length → putAt (a ++ b) 0 xs = xs ++ b := by
  induction xs with
  | nil =>
    intro a b h
    obtain rfl : a = [] := List.eq_nil_of_length_eq_zero (by simpa using h)
    rfl
  | cons x xs ih =>
    intro a b h
    cases a with
    | nil => simp at h
    | cons y a =>
      rw [putAt, List.cons_append, List.set_cons_zero]
      have e := putAt_right xs [x] (a ++ b) 0
      rw [show ([x] : List α).length + 0 = 0 + 1 by rfl] at e
      rw [show x :: (a ++ b) = [x] ++ (a ++ b) from rfl, e, ih a b (by simpa using h)]
      rfl
theorem fm_put (hK : ∀ l, (f l).length = K) (ls : List α) (k : Nat) (hk : k < ls.length) (l : α) : putAt (ls.flatMap f) (k * K) (f l) = (ls.set k l).flatMap f := by
  induction ls generalizing k with
  | nil => simp at hk
  | cons x ls ih =>
    rw [List.flatMap_cons]
    cases k with
    | zero => rw [Nat.zero_mul, putAt_left _ _ _ (by rw [hK, hK]), List.set_cons_zero, List.flatMap_cons]
    | succ k =>
      rw [show (k + 1) * K = (f x).length + k * K by rw [hK, Nat.succ_mul]; omega, putAt_right, ih k (by simpa using hk), List.set_cons_succ, List.flatMap_cons]
end
end Go.Proofs.Ytanlfkkmnnjpeaa
