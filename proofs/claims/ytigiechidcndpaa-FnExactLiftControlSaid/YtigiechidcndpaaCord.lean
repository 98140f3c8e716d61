/- Cords as the walks see them: a row of cords that a call owns, and the contracts of the functions of the exact laws that copy, compare, mark and look at them; the cords of an argument. Condition: the rows are the call's own. -/
import Derived.Test.YtigiechidcndpaaThree
import Derived.Test.YtigiechidcndpaaFrame
import Derived.Deep.Slices
import Derived.Lib.SmallJoins
import Derived.ChangeSame
namespace Go.Proofs.Ytigiechidcndpaa
set_option linter.unusedVariables false
open Go.RowKit Go.ChangeShapes Go.WideShapes Go.ChangeAt Go.Deep Go.Joins

/-- A slice value that owns the cords ls. -/
def OwnC (w : World) (base : Nat) (v : Value) (ls : List Lb) : Prop := w.ownsRow base 55 3 v ls.length (flatL ls)
section
variable {w w' : World} {base : Nat} {v : Value} {ls : List Lb}
theorem OwnC.alloc (h : OwnC w base v ls) (o : Obj) : OwnC (w.alloc o) base v ls := World.ownsRow.alloc h o
theorem OwnC.lt (h : OwnC w base v ls) : ∀ k, v.ownBlock = some k → base ≤ k ∧ k < w.heap.size := World.ownsRow.lt h
theorem OwnC.kept {row : Option Nat} (h : OwnC w base v ls) (hg : w.grownBy w' row) (hne : v.ownBlock = none ∨ v.ownBlock ≠ row) : OwnC w' base v ls := World.ownsRow.kept h hg hne
theorem OwnC.slice (h : OwnC w base v ls) : ∃ A c, v = .slice A ls.length c := by
  rcases h.2 with ⟨rfl, hn⟩ | ⟨g, cap, _, rfl, _⟩
  · exact ⟨none, 0, by rw [hn]⟩
  · exact ⟨_, _, rfl⟩
/-- Where cord k lies. -/
theorem OwnC.spot (h : OwnC w base v ls) {k : Nat} (hk : k < ls.length) :
    ∃ g c, v = .slice (some ⟨g, 0, none⟩) ls.length c ∧ base ≤ g ∧ g < w.heap.size ∧ w.rangeAt g (k * 3) ls[k].cells ∧ w.there g (k * 3) 3 := by
  rcases h.2 with ⟨_, hn⟩ | ⟨g, cap, cur, hv, hb, hg, _⟩
  · omega
  · subst hv
    have hat : ∀ j, j < 3 → w.cell? ⟨g, k * 3 + j, none⟩ = ls[k].cells[j]? := fun j hj => by
      rw [World.ownsRow.cellAt h _ (by omega), flatL_at ls k j hj hk]
    refine ⟨g, cap, rfl, hb, (Array.getElem?_eq_some_iff.1 hg).1, fun j x hx => ?_, fun j hj => ⟨?_, World.ownsRow.frozenAt h _⟩⟩
    · have hj : j < 3 := (List.getElem?_eq_some_iff.1 hx).1
      rw [hat j hj, hx]
    · rw [hat j hj]
      rcases (by omega : j = 0 ∨ j = 1 ∨ j = 2) with rfl | rfl | rfl <;> rfl
theorem OwnC.there {g c n : Nat} (h : OwnC w base (.slice (some ⟨g, 0, none⟩) n c) ls) {k : Nat} (hk : k < ls.length) : w.there g (k * 3) 3 := by
  obtain ⟨g', c', e, _, _, _, t⟩ := h.spot hk
  simp only [Value.slice.injEq, Option.some.injEq, Addr.mk.injEq] at e
  obtain ⟨⟨rfl, _⟩, _⟩ := e
  exact t
theorem OwnC.set {g c n : Nat} (h : OwnC w base (.slice (some ⟨g, 0, none⟩) n c) ls) (hn : n = ls.length) (k : Nat) (l : Lb) :
    OwnC (w.setCells g (k * 3) l.cells) base (.slice (some ⟨g, 0, none⟩) n c) (ls.set k l) ∧ w.grownBy (w.setCells g (k * 3) l.cells) (some g) := by
  subst hn
  unfold OwnC at *
  obtain ⟨h1, g1⟩ := World.ownsRow.stored h (k * 3) (.int .i64 l.a)
  obtain ⟨h2, g2⟩ := World.ownsRow.stored h1 (k * 3 + 1) (.int .i64 l.b)
  obtain ⟨h3, g3⟩ := World.ownsRow.stored h2 (k * 3 + 2) (.int .i64 l.n)
  rw [flatL_set, List.length_set]
  have trans : ∀ {a b c : World} {row : Option Nat}, a.grownBy b row → b.grownBy c row → a.grownBy c row := fun h k => ⟨k.os.trans h.os, k.tape.trans h.tape, k.output.trans h.output, Nat.le_trans h.size k.size, fun i hi hne => (k.block i (Nat.lt_of_lt_of_le hi h.size) hne).trans (h.block i hi hne)⟩
  exact ⟨h3, trans (trans g1 g2) g3⟩
end

theorem toCord_walk (a b n : Int) (w : World) :
    Calls Try.prog 56 #[.agg #[.int .i64 a, .int .i64 b, .int .i64 n]] w fun e w' => e = .returned (.agg #[.int .i64 a, .int .i64 b, .int .i64 n]) ∧ Below w.heap.size w w' := by
  go_enter Try.func56, Try.ntmps56
  go_wp2
  go_returns
  exact ⟨rfl, ((((Below.refl w.heap.size w).alloc (Nat.le_refl _) _).alloc (by simp) _).alloc (by simp; omega) _)⟩

theorem info_cord : (Try.prog.info? 55).map (fun i => (i.zero, i.size, i.bytes)) = some (some Lb.zero.val, 3, 24) := by kernel_rfl
theorem size_cord : (Try.prog.info? 55).map (·.size) = some 3 := by kernel_rfl
theorem size_cordA : (Try.prog.info? 75).map (·.size) = some 3 := by kernel_rfl

set_option maxHeartbeats 400000 in
theorem toCordS_walk (a : Option Addr) (cap : Nat) (ls : List Lb) (w : World) (ha : ArgL w a ls) (hl : ls.length ≤ 1048576) :
    Calls Try.prog 46 #[.slice a ls.length cap] w fun e w' => ∃ v, e = .returned v ∧ OwnC w' w.heap.size v ls ∧ Below w.heap.size w w' := by
  obtain ⟨i, hi, hz, hs, hb⟩ := info_parts info_cord
  have HA := Lib.hid ha
  clear ha
  go_enter Try.func46, Try.ntmps46
  go_wp2_with (refine wpList_make_full _ rfl _ _ 25 rfl w.heap.size 55 i Lb.zero.val 3 Try.underlying25 hi hz hs .i64 .i64 _ _ ls.length rfl rfl rfl rfl (by rw [hb]; omega) (by simp only [maxLen]; omega) (by simp) ?_; intro w1 own1 grown1)
  have own0 : OwnC w1 w.heap.size (.slice (some ⟨w.heap.size, 0, none⟩) ls.length ls.length) (ls.take 0 ++ List.replicate (ls.length - 0) Lb.zero) := by
    unfold OwnC
    simpa [made_zero] using own1
  have b1 : Below w.heap.size w w1 := below_of_grown grown1
  clear own1 grown1
  go_loopw [4] (fun i wr => ∃ k : Nat, k ≤ ls.length ∧ i = .int .i64 k ∧ OwnC wr w.heap.size (.slice (some ⟨w.heap.size, 0, none⟩) ls.length ls.length) (ls.take k ++ List.replicate (ls.length - k) Lb.zero) ∧ Below w.heap.size w wr) (fun i _ => ls.length - (intOf i).toNat)
  case atStart => exact ⟨0, by omega, rfl, own0, b1⟩
  case round =>
    obtain ⟨k, hk, rfl, hown, hbel⟩ := hrel
    by_cases hlt : k < ls.length
    · have hk0 : (0 : Int) ≤ (k : Int) := by omega
      have hk1 : (k : Int) < (ls.length : Int) := by omega
      obtain ⟨x, rfl, hx⟩ : ∃ x, a = some x ∧ ∀ k (h : k < ls.length) j v, ls[k].cells[j]? = some v → w.cell? (x.add (k * 3 + j)) = some v := by
        rcases HA.out with ⟨_, h0⟩ | h1
        · rw [h0] at hlt
          simp at hlt
        · exact h1
      obtain ⟨c0, c1, c2⟩ := argL_cells hx hlt
      have c0 := (hbel.cell (World.block_lt_of_cell? w _ c0)).trans c0
      have c1 := (hbel.cell (World.block_lt_of_cell? w _ c1)).trans c1
      have c2 := (hbel.cell (World.block_lt_of_cell? w _ c2)).trans c2
      have hlen : (ls.take k ++ List.replicate (ls.length - k) Lb.zero).length = ls.length := by simp; omega
      have OWN := Lib.hid hown
      have hbs := hbel.size
      clear hown
      go_wp2_with fail
      refine (toCord_walk _ _ _ _).mono ?_
      rintro e w2 ⟨rfl, b2⟩
      have own2 := OWN.out.kept (grown_of_below b2 none) (.inr (by simp [Value.ownBlock]))
      obtain ⟨⟨x0, t0⟩, ⟨x1, t1⟩, ⟨x2, t2⟩, f0, f1, f2⟩ := (own2.there (k := k) (by rw [hlen]; exact hlt)).three
      have st := own2.set hlen.symm k ls[k]
      rw [copied_set ls k hlt] at st
      have ST := Lib.hid st
      clear own2 st OWN hlen
      go_wp2
      exact ⟨⟨k + 1, by omega, by go_num, ST.out.1, (hbel.trans (b2.mono hbs)).grown ST.out.2 (by have := b2.size; omega) (by simp)⟩, by simp [intOf]; omega⟩
    · have hke : k = ls.length := by omega
      subst hke
      have hfin : OwnC wr w.heap.size (.slice (some ⟨w.heap.size, 0, none⟩) ls.length ls.length) ls := by simpa using hown
      go_wp2
      go_ret
      exact ⟨_, rfl, hfin, hbel⟩
theorem OwnC.mono {w : World} {base b : Nat} {v : Value} {ls : List Lb} (h : OwnC w base v ls) (hb : b ≤ base) : OwnC w b v ls := by
  refine ⟨h.1, ?_⟩
  rcases h.2 with h0 | ⟨g, cap, cur, e, hg, r⟩
  · exact .inl h0
  · exact .inr ⟨g, cap, cur, e, Nat.le_trans hb hg, r⟩
theorem OwnC.setCell_below {w : World} {base : Nat} {v : Value} {ls : List Lb} (h : OwnC w base v ls) {a : Addr} (ha : a.block < base) (u : Value) : OwnC (w.setCell a u) base v ls := ownsRow_setCell_below h ha u

theorem OwnC.below {w w' : World} {base : Nat} {v : Value} {ls : List Lb} (h : OwnC w base v ls) (hb : Below w.heap.size w w') : OwnC w' base v ls := h.kept (grown_of_below hb none) (by cases v.ownBlock <;> simp)


theorem eqCord_same (a b n : Int) (w : World) :
    Calls Try.prog 57 #[.agg #[.int .i64 a, .int .i64 b, .int .i64 n], .agg #[.int .i64 a, .int .i64 b, .int .i64 n]] w fun e w' => e = .returned (.bool true) ∧ Below w.heap.size w w' := by
  go_enter Try.func57, Try.ntmps57
  go_wp2
  go_ret
  exact ⟨rfl, ((Below.refl w.heap.size w).alloc (Nat.le_refl _) _).alloc (by simp) _⟩

set_option maxHeartbeats 400000 in
theorem eqCordS_same (v1 v2 : Value) (ls : List Lb) (b1 b2 : Nat) (w : World) (h1 : OwnC w b1 v1 ls) (h2 : OwnC w b2 v2 ls) (hl : ls.length ≤ 2000000) :
    Calls Try.prog 47 #[v1, v2] w fun e w' => e = .returned (.bool true) ∧ Below w.heap.size w w' := by
  obtain ⟨A1, c1, e1⟩ := h1.slice
  obtain ⟨A2, c2, e2⟩ := h2.slice
  subst e1 e2
  have H1 := Lib.hid h1
  have H2 := Lib.hid h2
  clear h1 h2
  go_enter Try.func47, Try.ntmps47
  go_wp2
  go_loopw [5] (fun i wr => ∃ (k : Nat), k ≤ ls.length ∧ i = .int .i64 k ∧ Below w.heap.size w wr) (fun i _ => ls.length - (intOf i).toNat)
  case atStart => exact ⟨0, by omega, rfl, Below.refl _ _⟩
  case round =>
    obtain ⟨k, hk, rfl, hb⟩ := hrel
    by_cases hlt : k < ls.length
    · obtain ⟨g1, d1, e1, _, l1, r1, _⟩ := H1.out.spot hlt
      obtain ⟨g2, d2, e2, _, l2, r2, _⟩ := H2.out.spot hlt
      simp only [Value.slice.injEq] at e1 e2
      obtain ⟨rfl, _, rfl⟩ := e1
      obtain ⟨rfl, _, rfl⟩ := e2
      have hk0 : (0 : Int) ≤ (k : Int) := by omega
      have hk1 : (k : Int) < (ls.length : Int) := by omega
      have r1 := r1.below hb l1
      have r2 := r2.below hb l2
      have C := Lib.hid (fun W => eqCord_same ls[k].a ls[k].b ls[k].n W)
      have lw := hb.size
      go_wp2_with fail
      have six := six_cells r1 r2
      go_region_held3 (fun w' => w'.cell? ⟨g1, k * 3, none⟩ = some (.int .i64 ls[k].a) ∧ w'.cell? ⟨g1, k * 3 + 1, none⟩ = some (.int .i64 ls[k].b) ∧ w'.cell? ⟨g1, k * 3 + 2, none⟩ = some (.int .i64 ls[k].n) ∧ w'.cell? ⟨g2, k * 3, none⟩ = some (.int .i64 ls[k].a) ∧ w'.cell? ⟨g2, k * 3 + 1, none⟩ = some (.int .i64 ls[k].b) ∧ w'.cell? ⟨g2, k * 3 + 2, none⟩ = some (.int .i64 ls[k].n)) (first | exact six | assumption | exact six_below (by assumption) hbq) (first | (go_at_call 57; refine (C.out _).mono ?_; rintro e w' ⟨rfl, hbq⟩))
      go_wp2
      exact ⟨⟨k + 1, by omega, by go_num, hb.drew.trans (hbq.mono hb.size)⟩, by simp [intOf]; omega⟩
    · go_wp2
      go_ret
      exact ⟨rfl, hb⟩

set_option maxHeartbeats 400000 in
theorem markCordS_any (v : Value) (ls : List Lb) (base : Nat) (w : World) (hown : OwnC w base v ls) (hl : ls.length ≤ 2000000) (u : Nat) (h1 : u ≤ 10000000) :
    Calls Try.prog 48 #[v, .int .i64 (u : Int)] w fun e w' => e = .returned (.int .i64 ((u + 3 * ls.length : Nat) : Int)) ∧ OwnC w' base v (marksL u ls.length) ∧ w.grownBy w' v.ownBlock := by
  obtain ⟨A, c, e⟩ := hown.slice
  subst e
  have H := Lib.hid hown
  clear hown
  go_enter Try.func48, Try.ntmps48
  go_wp2
  go_loopw [1, 5] (fun kv i wr => ∃ k : Nat, k ≤ ls.length ∧ i = .int .i64 k ∧ kv = .int .i64 ((u + 3 * k : Nat) : Int) ∧ OwnC wr base (.slice A ls.length c) (marksL u k ++ ls.drop k) ∧ w.grownBy wr (Value.slice A ls.length c).ownBlock) (fun _ i _ => ls.length - (intOf i).toNat)
  case atStart => exact ⟨0, by omega, rfl, rfl, (by simpa [marksL] using H.out), World.grownBy.refl w _⟩
  case round =>
    obtain ⟨k, hk, rfl, rfl, hown, hg⟩ := hrel
    have hlen : (marksL u k ++ ls.drop k).length = ls.length := by simp [marksL_len]; omega
    by_cases hlt : k < ls.length
    · obtain ⟨g, c', e1, _, _, rg, th⟩ := hown.spot (k := k) (by rw [hlen]; exact hlt)
      simp only [Value.slice.injEq] at e1
      obtain ⟨rfl, hloop, rfl⟩ := e1
      clear hloop
      obtain ⟨⟨x0, t0⟩, ⟨x1, t1⟩, ⟨x2, t2⟩, f0, f1, f2⟩ := th.three
      have st := hown.set hlen.symm k ⟨((u + 3 * k : Nat) : Int), ((u + 3 * k + 1 : Nat) : Int), ((u + 3 * k + 2 : Nat) : Int)⟩
      rw [marksL_set u ls k hlt] at st
      have ST := Lib.hid st
      have hk0 : (0 : Int) ≤ (k : Int) := by omega
      have hk1 : (k : Int) < (ls.length : Int) := by omega
      clear rg st hown hlen th
      go_wp2
      exact ⟨⟨k + 1, by omega, by go_num, by go_num, ST.out.1, grown_then hg ST.out.2⟩, by simp [intOf]; omega⟩
    · have hke : k = ls.length := by omega
      subst hke
      have hfin : OwnC wr base (.slice A ls.length c) (marksL u ls.length) := by simpa using hown
      go_wp2
      go_ret
      exact ⟨rfl, hfin, hg⟩

set_option maxHeartbeats 400000 in
theorem heldCordS_any (v : Value) (n : Nat) (base : Nat) (w : World) (u : Nat) (hown : OwnC w base v (marksL u n)) (hl : n ≤ 2000000) (h1 : u ≤ 10000000) :
    Calls Try.prog 50 #[v, .int .i64 (u : Int)] w fun e w' => e = .returned (.int .i64 ((u + 3 * n : Nat) : Int)) ∧ Below w.heap.size w w' := by
  obtain ⟨A, c, e⟩ := hown.slice
  rw [marksL_len] at e
  subst e
  have H := Lib.hid hown
  clear hown
  go_enter Try.func50, Try.ntmps50
  go_wp2
  go_loopw [1, 5] (fun kv i wr => ∃ k : Nat, k ≤ n ∧ i = .int .i64 k ∧ kv = .int .i64 ((u + 3 * k : Nat) : Int) ∧ Below w.heap.size w wr) (fun _ i _ => n - (intOf i).toNat)
  case atStart => exact ⟨0, by omega, rfl, rfl, Below.refl _ _⟩
  case round =>
    obtain ⟨k, hk, rfl, rfl, hb⟩ := hrel
    by_cases hlt : k < n
    · obtain ⟨g, c', e1, _, l1, rg, _⟩ := H.out.spot (k := k) (by rw [marksL_len]; exact hlt)
      rw [marksL_at u n k hlt] at rg
      simp only [Value.slice.injEq] at e1
      obtain ⟨rfl, hloop, rfl⟩ := e1
      clear hloop
      replace rg := rg.below hb l1
      have r0 : wr.cell? ⟨g, k * 3, none⟩ = some (.int .i64 ((u + 3 * k : Nat) : Int)) := rg 0 _ rfl
      have r1 := rg 1 _ rfl
      have r2 := rg 2 _ rfl
      have hk0 : (0 : Int) ≤ (k : Int) := by omega
      have hk1 : (k : Int) < (n : Int) := by omega
      clear rg
      go_wp2
      exact ⟨⟨k + 1, by omega, by go_num, by go_num, hb⟩, by simp [intOf]; omega⟩
    · have hke : k = n := by omega
      subst hke
      go_wp2
      go_ret
      exact ⟨rfl, hb⟩

section
variable {H : Type} {enc : TypeId × Value → H} {W : World}
/-- A slice of cords that came in. -/
theorem argC_of {d : DataW H × List MemPlace} {fuel : Nat} {v : Value} (h : DataW.trod enc Try.prog W 0 (fun _ => true) true fuel 38 [v] = some d) :
    ∃ a cap ls, v = .slice a (List.length ls) cap ∧ ArgL W a ls ∧ ls.length ≤ maxLen := by
  have hC : (Try.prog).cellsOf 75 = 3 := by kernel_rfl
  rcases open_slice Try.underlying38 h with ⟨h0, _⟩ | ⟨a, len, cap, m, n, D, Pl, hcs, _, hl, hm, hmm, _, hi⟩
  · simp only [List.cons.injEq, and_true] at h0
    exact ⟨none, 0, [], h0, .inl ⟨rfl, rfl⟩, by simp⟩
  · simp only [List.cons.injEq, and_true] at hcs
    have hlm : len ≤ m := by rw [hmm]; split <;> omega
    rw [hC] at hi
    have cell : ∀ i, i < len → ∃ l : Lb, ∀ j v, l.cells[j]? = some v → W.cell? (a.add (i * 3 + j)) = some v := by
      intro i hi'
      obtain ⟨cs', hc, ht⟩ := hi i (by omega)
      obtain ⟨_, hcl, hat⟩ := World.cells?_some hc
      obtain ⟨xs, n', _, _, _, hxl, hf⟩ := DataW.trod_struct Try.underlying75 ht
      have h1 : (Try.prog).cellsOf 3 = 1 := by kernel_rfl
      match cs', hcl with
      | [c0, c1, c2], _ =>
        have g0 : DataW.trod enc Try.prog W 0 (fun _ => true) true n' 3 (List.take ((Try.prog).cellsOf 3) [c0, c1, c2]) = xs[0]? := hf 0 _ rfl
        have g1 : DataW.trod enc Try.prog W 0 (fun _ => true) true n' 3 (List.take ((Try.prog).cellsOf 3) [c1, c2]) = xs[1]? := hf 1 _ rfl
        have g2 : DataW.trod enc Try.prog W 0 (fun _ => true) true n' 3 (List.take ((Try.prog).cellsOf 3) [c2]) = xs[2]? := hf 2 _ rfl
        rw [List.getElem?_eq_getElem (by rw [hxl]; decide)] at g0 g1 g2
        rw [h1] at g0 g1 g2
        obtain ⟨n0, e0, _⟩ := DataW.trod_int Try.underlying3 g0
        obtain ⟨n1, e1, _⟩ := DataW.trod_int Try.underlying3 g1
        obtain ⟨n2, e2, _⟩ := DataW.trod_int Try.underlying3 g2
        have e0 : c0 = .int .i64 n0 := by simpa using e0
        have e1 : c1 = .int .i64 n1 := by simpa using e1
        have e2 : c2 = .int .i64 n2 := by simpa using e2
        refine ⟨⟨n0, n1, n2⟩, fun j v hj => ?_⟩
        have hj3 : j < 3 := (List.getElem?_eq_some_iff.1 hj).1
        rw [← Addr.add_add, hat j hj3, ← hj, e0, e1, e2]
        rfl
    obtain ⟨ls, hls, hx⟩ := list_of (fun i (l : Lb) => ∀ j v, l.cells[j]? = some v → W.cell? (a.add (i * 3 + j)) = some v) len cell
    subst hls
    exact ⟨some a, cap, ls, hcs, .inr ⟨a, rfl, fun k hk j v hv => hx k hk j v hv⟩, by omega⟩
end
end Go.Proofs.Ytigiechidcndpaa
