/- Limbs as the walks see them: their cells, a row of limbs that a call owns, and the contract of the function that copies one limb. No condition. -/
import Derived.Test.YtadbdceghnpopaaBase
import Derived.Handy
import Derived.Deep.MidRow
import Derived.Deep.OwnRows
import Derived.DataElems
namespace Go.Proofs.Ytadbdceghnpopaa
open Go.RowKit

/-- A limb: its two ends and its length. -/
structure Lb where
  a : Int
  b : Int
  n : Int
def Lb.val (l : Lb) : Value := .agg #[.int .i64 l.a, .int .i64 l.b, .int .i64 l.n]
def Lb.cells (l : Lb) : List Value := [.int .i64 l.a, .int .i64 l.b, .int .i64 l.n]
def Lb.zero : Lb := ⟨0, 0, 0⟩ 
theorem Lb.val_cells (l : Lb) : l.val = .agg l.cells.toArray := rfl
def flatL (ls : List Lb) : List Value := ls.flatMap Lb.cells
theorem flatL_cons (l : Lb) (ls : List Lb) : flatL (l :: ls) = .int .i64 l.a :: .int .i64 l.b :: .int .i64 l.n :: flatL ls := rfl
theorem flatL_append (xs ys : List Lb) : flatL (xs ++ ys) = flatL xs ++ flatL ys := List.flatMap_append
theorem flatL_len (ls : List Lb) : (flatL ls).length = ls.length * 3 := by
  induction ls with
  | nil => rfl
  | cons l ls ih => rw [flatL_cons, List.length_cons, List.length_cons, List.length_cons, ih, List.length_cons]; omega
theorem flatL_at (ls : List Lb) (k j : Nat) (hj : j < 3) (hk : k < ls.length) : (flatL ls)[k * 3 + j]? = ls[k].cells[j]? := by
  induction ls generalizing k with
  | nil => simp at hk
  | cons l ls ih =>
    rw [flatL_cons]
    cases k with
    | zero =>
      rcases (by omega : j = 0 ∨ j = 1 ∨ j = 2) with rfl | rfl | rfl <;> rfl
    | succ k =>
      rw [show (k + 1) * 3 + j = (k * 3 + j) + 1 + 1 + 1 by omega]
      simpa using ih k (by simpa using hk)
theorem flatL_set (ls : List Lb) (k : Nat) (l : Lb) : flatL (ls.set k l) = (((flatL ls).set (k * 3) (.int .i64 l.a)).set (k * 3 + 1) (.int .i64 l.b)).set (k * 3 + 2) (.int .i64 l.n) := by
  induction ls generalizing k with
  | nil => rfl
  | cons x ls ih =>
    cases k with
    | zero => rfl
    | succ k =>
      rw [List.set_cons_succ, flatL_cons, flatL_cons, ih k]
      rw [show (k + 1) * 3 = k * 3 + 1 + 1 + 1 by omega]
      rw [show k * 3 + 1 + 1 + 1 + 1 = (k * 3 + 1) + 1 + 1 + 1 by omega]
      rw [show k * 3 + 1 + 1 + 1 + 2 = (k * 3 + 2) + 1 + 1 + 1 by omega]
      simp only [List.set_cons_succ]

/-- A slice value that owns the limbs ls. -/
def OwnL (w : World) (base : Nat) (v : Value) (ls : List Lb) : Prop := w.ownsRow base 57 3 v ls.length (flatL ls)
section
variable {w w' : World} {base : Nat} {v : Value} {ls : List Lb}
theorem OwnL.alloc (h : OwnL w base v ls) (o : Obj) : OwnL (w.alloc o) base v ls := World.ownsRow.alloc h o
theorem OwnL.lt (h : OwnL w base v ls) : ∀ k, v.ownBlock = some k → base ≤ k ∧ k < w.heap.size := World.ownsRow.lt h
theorem OwnL.kept {row : Option Nat} (h : OwnL w base v ls) (hg : w.grownBy w' row) (hne : v.ownBlock = none ∨ v.ownBlock ≠ row) : OwnL w' base v ls := World.ownsRow.kept h hg hne
theorem OwnL.slice (h : OwnL w base v ls) : ∃ A c, v = .slice A ls.length c := by
  rcases h.2 with ⟨rfl, hn⟩ | ⟨g, cap, _, rfl, _⟩
  · exact ⟨none, 0, by rw [hn]⟩
  · exact ⟨_, _, rfl⟩
/-- Where limb k lies. -/
theorem OwnL.spot (h : OwnL w base v ls) {k : Nat} (hk : k < ls.length) :
    ∃ g c, v = .slice (some ⟨g, 0, none⟩) ls.length c ∧ base ≤ g ∧ g < w.heap.size ∧ w.rangeAt g (k * 3) ls[k].cells ∧ w.there g (k * 3) 3 := by
  rcases h.2 with ⟨_, hn⟩ | ⟨g, cap, cur, hv, hb, hg, _⟩
  · omega
  · subst hv
    have hat : ∀ j, j < 3 → w.cell? ⟨g, k * 3 + j, none⟩ = ls[k].cells[j]? := fun j hj => by
      rw [World.ownsRow.cellAt h _ (by omega), flatL_at ls k j hj hk]
    refine ⟨g, cap, rfl, hb, (Array.getElem?_eq_some_iff.1 hg).1, fun j x hx => ?_, fun j hj => ⟨?_, World.ownsRow.frozenAt h _⟩⟩
    · have hj : j < 3 := (List.getElem?_eq_some_iff.1 hx).1
      rw [hat j hj, hx]
    · rw [hat j hj]
      rcases (by omega : j = 0 ∨ j = 1 ∨ j = 2) with rfl | rfl | rfl <;> rfl
theorem OwnL.there {g c n : Nat} (h : OwnL w base (.slice (some ⟨g, 0, none⟩) n c) ls) {k : Nat} (hk : k < ls.length) : w.there g (k * 3) 3 := by
  obtain ⟨g', c', e, _, _, _, t⟩ := h.spot hk
  simp only [Value.slice.injEq, Option.some.injEq, Addr.mk.injEq] at e
  obtain ⟨⟨rfl, _⟩, _⟩ := e
  exact t
theorem _root_.Go.World.there.three {g o : Nat} (h : w.there g o 3) : (∃ v, w.cell? ⟨g, o, none⟩ = some v) ∧ (∃ v, w.cell? ⟨g, o + 1, none⟩ = some v) ∧ (∃ v, w.cell? ⟨g, o + 2, none⟩ = some v) ∧
    w.frozen? ⟨g, o, none⟩ = false ∧ w.frozen? ⟨g, o + 1, none⟩ = false ∧ w.frozen? ⟨g, o + 2, none⟩ = false :=
  ⟨Option.isSome_iff_exists.1 (h 0 (by omega)).1, Option.isSome_iff_exists.1 (h 1 (by omega)).1, Option.isSome_iff_exists.1 (h 2 (by omega)).1, (h 0 (by omega)).2, (h 1 (by omega)).2, (h 2 (by omega)).2⟩
theorem OwnL.set {g c n : Nat} (h : OwnL w base (.slice (some ⟨g, 0, none⟩) n c) ls) (hn : n = ls.length) (k : Nat) (l : Lb) :
    OwnL (w.setCells g (k * 3) l.cells) base (.slice (some ⟨g, 0, none⟩) n c) (ls.set k l) ∧ w.grownBy (w.setCells g (k * 3) l.cells) (some g) := by
  subst hn
  unfold OwnL at *
  obtain ⟨h1, g1⟩ := World.ownsRow.stored h (k * 3) (.int .i64 l.a)
  obtain ⟨h2, g2⟩ := World.ownsRow.stored h1 (k * 3 + 1) (.int .i64 l.b)
  obtain ⟨h3, g3⟩ := World.ownsRow.stored h2 (k * 3 + 2) (.int .i64 l.n)
  rw [flatL_set, List.length_set]
  have trans : ∀ {a b c : World} {row : Option Nat}, a.grownBy b row → b.grownBy c row → a.grownBy c row := fun h k => ⟨k.os.trans h.os, k.tape.trans h.tape, k.output.trans h.output, Nat.le_trans h.size k.size, fun i hi hne => (k.block i (Nat.lt_of_lt_of_le hi h.size) hne).trans (h.block i hi hne)⟩
  exact ⟨h3, trans (trans g1 g2) g3⟩
end

/-- The limbs of an argument: nil, or they lie one behind the other. -/
def ArgL (w : World) (a : Option Addr) (ls : List Lb) : Prop :=
  (a = none ∧ ls = []) ∨ ∃ x, a = some x ∧ ∀ k (h : k < ls.length) j v, ls[k].cells[j]? = some v → w.cell? (x.add (k * 3 + j)) = some v

theorem toLimb_walk (a b n : Int) (w : World) :
    Calls Try.prog 57 #[.agg #[.int .i64 a, .int .i64 b, .int .i64 n]] w fun e w' => e = .returned (.agg #[.int .i64 a, .int .i64 b, .int .i64 n]) ∧ Below w.heap.size w w' := by
  go_enter Try.func57, Try.ntmps57
  go_wp2
  go_returns
  exact ⟨rfl, ((((Below.refl w.heap.size w).alloc (Nat.le_refl _) _).alloc (by simp) _).alloc (by simp; omega) _)⟩

theorem info_limb : (Try.prog.info? 57).map (fun i => (i.zero, i.size, i.bytes)) = some (some Lb.zero.val, 3, 24) := by kernel_rfl
theorem size_limb : (Try.prog.info? 57).map (·.size) = some 3 := by kernel_rfl
theorem size_limbA : (Try.prog.info? 80).map (·.size) = some 3 := by kernel_rfl

/-- The cells of limb k of an argument. -/
theorem argL_cells {w : World} {x : Addr} {ls : List Lb} (hx : ∀ k (h : k < ls.length) j v, ls[k].cells[j]? = some v → w.cell? (x.add (k * 3 + j)) = some v) {k : Nat} (h : k < ls.length) :
    w.cell? (x.add (k * 3)) = some (.int .i64 ls[k].a) ∧ w.cell? { block := (x.add (k * 3)).block, off := (x.add (k * 3)).off + 1 } = some (.int .i64 ls[k].b) ∧ w.cell? { block := (x.add (k * 3)).block, off := (x.add (k * 3)).off + 2 } = some (.int .i64 ls[k].n) := by
  have e : ∀ j, 0 < j → x.add (k * 3 + j) = { block := (x.add (k * 3)).block, off := (x.add (k * 3)).off + j } := fun j hj => by
    rw [← Addr.add_add]
    generalize x.add (k * 3) = y
    unfold Addr.add
    rw [if_neg (by omega)]
  refine ⟨hx k h 0 _ rfl, ?_, ?_⟩
  · rw [← e 1 (by omega)]
    exact hx k h 1 _ rfl
  · rw [← e 2 (by omega)]
    exact hx k h 2 _ rfl

theorem made_zero (n : Nat) : (madeCells Lb.zero.val.cells (n * 3)).toList = flatL (List.replicate n Lb.zero) := by
  have hz : ∀ v ∈ flatL (List.replicate n Lb.zero), v = .int .i64 0 := by
    induction n with
    | zero => intro v hv; cases hv
    | succ n ih =>
      intro v hv
      rw [List.replicate_succ, flatL_cons] at hv
      rcases hv with _ | ⟨_, _ | ⟨_, _ | ⟨_, hv⟩⟩⟩
      · rfl
      · rfl
      · rfl
      · exact ih v hv
  have hm : ∀ v ∈ (madeCells Lb.zero.val.cells (n * 3)).toList, v = .int .i64 0 := by
    intro v hv
    unfold madeCells at hv
    simp only [Array.toList_map, List.mem_map] at hv
    obtain ⟨j, _, rfl⟩ := hv
    have h3 : j % 3 < 3 := Nat.mod_lt _ (by omega)
    show (#[Value.int .i64 0, Value.int .i64 0, Value.int .i64 0])[j % 3]! = _
    rcases (by omega : j % 3 = 0 ∨ j % 3 = 1 ∨ j % 3 = 2) with h | h | h <;> rw [h] <;> rfl
  rw [List.eq_replicate_of_mem hz, List.eq_replicate_of_mem hm, flatL_len, List.length_replicate, Array.length_toList, size_madeCells]
theorem below_of_grown {w w' : World} (h : w.grownBy w' none) : Below w.heap.size w w' := ⟨h.os, h.tape, h.output, h.size, fun k hk => h.block k hk (by simp)⟩
theorem grown_of_below {w w' : World} (h : Below w.heap.size w w') (row : Option Nat) : w.grownBy w' row := ⟨h.os, h.tape, h.output, h.size, fun k hk _ => h.block k hk⟩
theorem copied_set (ls : List Lb) (k : Nat) (h : k < ls.length) : (ls.take k ++ List.replicate (ls.length - k) Lb.zero).set k ls[k] = ls.take (k + 1) ++ List.replicate (ls.length - (k + 1)) Lb.zero := by
  have e : ls.take (k + 1) = ls.take k ++ [ls[k]] := by rw [List.take_add_one, List.getElem?_eq_getElem h]; rfl
  rw [List.set_append_right _ _ (by rw [List.length_take]; omega), List.length_take, Nat.min_eq_left (by omega), Nat.sub_self, show ls.length - k = (ls.length - (k + 1)) + 1 by omega, List.replicate_succ, List.set_cons_zero, e, List.append_assoc]
  rfl

set_option maxHeartbeats 400000 in
theorem toLimbS_walk (a : Option Addr) (cap : Nat) (ls : List Lb) (w : World) (ha : ArgL w a ls) (hl : ls.length ≤ 1048576) :
    Calls Try.prog 44 #[.slice a ls.length cap] w fun e w' => ∃ v, e = .returned v ∧ OwnL w' w.heap.size v ls ∧ Below w.heap.size w w' := by
  obtain ⟨i, hi, hz, hs, hb⟩ := info_parts info_limb
  have HA := Lib.hid ha
  clear ha
  go_enter Try.func44, Try.ntmps44
  go_wp2_with (refine wpList_make_full _ rfl _ _ 24 rfl w.heap.size 57 i Lb.zero.val 3 Try.underlying24 hi hz hs .i64 .i64 _ _ ls.length rfl rfl rfl rfl (by rw [hb]; omega) (by simp only [maxLen]; omega) (by simp) ?_; intro w1 own1 grown1)
  have own0 : OwnL w1 w.heap.size (.slice (some ⟨w.heap.size, 0, none⟩) ls.length ls.length) (ls.take 0 ++ List.replicate (ls.length - 0) Lb.zero) := by
    unfold OwnL
    simpa [made_zero] using own1
  have b1 : Below w.heap.size w w1 := below_of_grown grown1
  clear own1 grown1
  go_loopw [4] (fun i wr => ∃ k : Nat, k ≤ ls.length ∧ i = .int .i64 k ∧ OwnL wr w.heap.size (.slice (some ⟨w.heap.size, 0, none⟩) ls.length ls.length) (ls.take k ++ List.replicate (ls.length - k) Lb.zero) ∧ Below w.heap.size w wr) (fun i _ => ls.length - (intOf i).toNat)
  case atStart => exact ⟨0, by omega, rfl, own0, b1⟩
  case round =>
    obtain ⟨k, hk, rfl, hown, hbel⟩ := hrel
    by_cases hlt : k < ls.length
    · have hk0 : (0 : Int) ≤ (k : Int) := by omega
      have hk1 : (k : Int) < (ls.length : Int) := by omega
      obtain ⟨x, rfl, hx⟩ : ∃ x, a = some x ∧ ∀ k (h : k < ls.length) j v, ls[k].cells[j]? = some v → w.cell? (x.add (k * 3 + j)) = some v := by
        rcases HA.out with ⟨_, h0⟩ | h1
        · rw [h0] at hlt
          simp at hlt
        · exact h1
      obtain ⟨c0, c1, c2⟩ := argL_cells hx hlt
      have c0 := (hbel.cell (World.block_lt_of_cell? w _ c0)).trans c0
      have c1 := (hbel.cell (World.block_lt_of_cell? w _ c1)).trans c1
      have c2 := (hbel.cell (World.block_lt_of_cell? w _ c2)).trans c2
      have hlen : (ls.take k ++ List.replicate (ls.length - k) Lb.zero).length = ls.length := by simp; omega
      have OWN := Lib.hid hown
      have hbs := hbel.size
      clear hown
      go_wp2_with fail
      refine (toLimb_walk _ _ _ _).mono ?_
      rintro e w2 ⟨rfl, b2⟩
      have own2 := OWN.out.kept (grown_of_below b2 none) (.inr (by simp [Value.ownBlock]))
      obtain ⟨⟨x0, t0⟩, ⟨x1, t1⟩, ⟨x2, t2⟩, f0, f1, f2⟩ := (own2.there (k := k) (by rw [hlen]; exact hlt)).three
      have st := own2.set hlen.symm k ls[k]
      rw [copied_set ls k hlt] at st
      have ST := Lib.hid st
      clear own2 st OWN hlen
      go_wp2
      exact ⟨⟨k + 1, by omega, by go_num, ST.out.1, (hbel.trans (b2.mono hbs)).grown ST.out.2 (by have := b2.size; omega) (by simp)⟩, by simp [intOf]; omega⟩
    · have hke : k = ls.length := by omega
      subst hke
      have hfin : OwnL wr w.heap.size (.slice (some ⟨w.heap.size, 0, none⟩) ls.length ls.length) ls := by simpa using hown
      go_wp2
      go_ret
      exact ⟨_, rfl, hfin, hbel⟩
end Go.Proofs.Ytadbdceghnpopaa
