/- Texts of this seat laid together, each with its own first sentence below: IntL MarkI Grow RowK CstM HokS LoaS HacS. -/
import Derived.Test.YtanlfkkmnnjpeaaPk1
import Derived.Test.YtanlfkkmnnjpeaaPk6
import Derived.Test.YtanlfkkmnnjpeaaPk3
import Derived.Test.YtanlfkkmnnjpeaaPk2
import Derived.BigQuiet
import Derived.Deep.RegionHeld3
/- The contracts of laws.eqIntS, markIntS and heldIntS. Condition: the numbers lie in rows of their own. -/
namespace Go.Proofs.Ytanlfkkmnnjpeaa
set_option linter.unusedVariables false
set_option linter.unusedSimpArgs false
open Go.RowKit

set_option maxHeartbeats 400000 in
theorem eqIntS_same (v1 v2 : Value) (zs : List Int) (b1 b2 : Nat) (w : World) (h1 : OwnI w b1 v1 zs) (h2 : OwnI w b2 v2 zs) (hl : zs.length ≤ 2000000) :
    Calls Try.prog 30 #[v1, v2] w fun e w' => e = .returned (.bool true) ∧ Below w.heap.size w w' := by
  obtain ⟨A1, c1, e1⟩ := h1.slice
  obtain ⟨A2, c2, e2⟩ := h2.slice
  subst e1 e2
  have H1 := Lib.hid h1
  have H2 := Lib.hid h2
  clear h1 h2
  go_enter Try.func30, Try.ntmps30
  go_wp2
  go_loopw [5] (fun i wr => ∃ (k : Nat), k ≤ zs.length ∧ i = .int .i64 k ∧ Below w.heap.size w wr) (fun i _ => zs.length - (intOf i).toNat)
  case atStart => exact ⟨0, by omega, rfl, Below.refl _ _⟩
  case round =>
    obtain ⟨k, hk, rfl, hb⟩ := hrel
    by_cases hlt : k < zs.length
    · obtain ⟨g1, d1, e1, _, l1, r1, _⟩ := H1.out.spot hlt
      obtain ⟨g2, d2, e2, _, l2, r2, _⟩ := H2.out.spot hlt
      simp only [Value.slice.injEq] at e1 e2
      obtain ⟨rfl, _, rfl⟩ := e1
      obtain ⟨rfl, _, rfl⟩ := e2
      have hk0 : (0 : Int) ≤ (k : Int) := by omega
      have hk1 : (k : Int) < (zs.length : Int) := by omega
      replace r1 := (hb.cell l1).trans r1
      replace r2 := (hb.cell l2).trans r2
      go_wp2
      go_quiet (fail)
      go_wp2
      exact ⟨⟨k + 1, by omega, by go_num, hb.trans (below_drewN (Below.refl _ _) _)⟩, by simp [intOf]; omega⟩
    · go_wp2
      go_ret
      exact ⟨rfl, hb⟩

/-- n numbers from u on. -/
def marksI (u n : Nat) : List Int := (List.range n).map fun j => ((u + j : Nat) : Int)
theorem marksI_len (u n : Nat) : (marksI u n).length = n := by simp [marksI]
theorem marksI_at (u n k : Nat) (h : k < n) : (marksI u n)[k]'(by rw [marksI_len]; exact h) = ((u + k : Nat) : Int) := by simp [marksI]
theorem marksI_set (u : Nat) (zs : List Int) (k : Nat) (h : k < zs.length) : (marksI u k ++ zs.drop k).set k ((u + k : Nat) : Int) = marksI u (k + 1) ++ zs.drop (k + 1) := by
  rw [List.drop_eq_getElem_cons h, List.set_append_right _ _ (by simp [marksI_len]), marksI_len, Nat.sub_self, List.set_cons_zero]
  unfold marksI
  simp only [List.range_succ, List.map_append, List.map_cons, List.map_nil, List.append_assoc, List.cons_append, List.nil_append]

set_option maxHeartbeats 400000 in
theorem markIntS_any (v : Value) (zs : List Int) (base : Nat) (w : World) (hown : OwnI w base v zs) (hl : zs.length ≤ 2000000) (u : Nat) (h1 : u ≤ 10000000) :
    Calls Try.prog 32 #[v, .int .i64 (u : Int)] w fun e w' => e = .returned (.int .i64 ((u + zs.length : Nat) : Int)) ∧ OwnI w' base v (marksI u zs.length) ∧ w.grownBy w' v.ownBlock := by
  obtain ⟨A, c, e⟩ := hown.slice
  subst e
  have H := Lib.hid hown
  clear hown
  go_enter Try.func32, Try.ntmps32
  go_wp2
  go_loopw [1, 5] (fun kv i wr => ∃ k : Nat, k ≤ zs.length ∧ i = .int .i64 k ∧ kv = .int .i64 ((u + k : Nat) : Int) ∧ OwnI wr base (.slice A zs.length c) (marksI u k ++ zs.drop k) ∧ w.grownBy wr (Value.slice A zs.length c).ownBlock) (fun _ i _ => zs.length - (intOf i).toNat)
  case atStart => exact ⟨0, by omega, rfl, rfl, (by simpa [marksI] using H.out), World.grownBy.refl w _⟩
  case round =>
    obtain ⟨k, hk, rfl, rfl, hown, hg⟩ := hrel
    have hlen : (marksI u k ++ zs.drop k).length = zs.length := by simp [marksI_len]; omega
    by_cases hlt : k < zs.length
    · obtain ⟨g, c', e1, _, _, rg, f0⟩ := hown.spot (k := k) (by rw [hlen]; exact hlt)
      simp only [Value.slice.injEq] at e1
      obtain ⟨rfl, hloop, rfl⟩ := e1
      clear hloop
      obtain ⟨xk, hxk⟩ : ∃ xk : Value, wr.cell? ⟨g, k, none⟩ = some xk := ⟨_, rg⟩
      have st := hown.set hlen.symm k ((u + k : Nat) : Int)
      rw [marksI_set u zs k hlt] at st
      have ST := Lib.hid st
      have hk0 : (0 : Int) ≤ (k : Int) := by omega
      have hk1 : (k : Int) < (zs.length : Int) := by omega
      clear rg st hown hlen
      go_wp2
      exact ⟨⟨k + 1, by omega, by go_num, by go_num, ST.out.1, grown_then hg ST.out.2⟩, by simp [intOf]; omega⟩
    · have hke : k = zs.length := by omega
      subst hke
      have hfin : OwnI wr base (.slice A zs.length c) (marksI u zs.length) := by simpa using hown
      go_wp2
      go_ret
      exact ⟨rfl, hfin, hg⟩

set_option maxHeartbeats 400000 in
theorem heldIntS_any (v : Value) (n : Nat) (base : Nat) (w : World) (u : Nat) (hown : OwnI w base v (marksI u n)) (hl : n ≤ 2000000) (h1 : u ≤ 10000000) :
    Calls Try.prog 59 #[v, .int .i64 (u : Int)] w fun e w' => e = .returned (.int .i64 ((u + n : Nat) : Int)) ∧ Below w.heap.size w w' := by
  obtain ⟨A, c, e⟩ := hown.slice
  rw [marksI_len] at e
  subst e
  have H := Lib.hid hown
  clear hown
  go_enter Try.func59, Try.ntmps59
  go_wp2
  go_loopw [1, 5] (fun kv i wr => ∃ k : Nat, k ≤ n ∧ i = .int .i64 k ∧ kv = .int .i64 ((u + k : Nat) : Int) ∧ Below w.heap.size w wr) (fun _ i _ => n - (intOf i).toNat)
  case atStart => exact ⟨0, by omega, rfl, rfl, Below.refl _ _⟩
  case round =>
    obtain ⟨k, hk, rfl, rfl, hb⟩ := hrel
    by_cases hlt : k < n
    · obtain ⟨g, c', e1, _, l1, rg, _⟩ := H.out.spot (k := k) (by rw [marksI_len]; exact hlt)
      rw [marksI_at u n k hlt] at rg
      simp only [Value.slice.injEq] at e1
      obtain ⟨rfl, hloop, rfl⟩ := e1
      clear hloop
      replace rg := (hb.cell l1).trans rg
      have hk0 : (0 : Int) ≤ (k : Int) := by omega
      have hk1 : (k : Int) < (n : Int) := by omega
      go_wp2
      exact ⟨⟨k + 1, by omega, by go_num, by go_num, hb⟩, by simp [intOf]; omega⟩
    · have hke : k = n := by omega
      subst hke
      go_wp2
      go_ret
      exact ⟨rfl, hb⟩

end Go.Proofs.Ytanlfkkmnnjpeaa

/- Marks from a number on that is spelled in any way: a row of numbers. Condition: the row is the call's own. -/
namespace Go.Proofs.Ytanlfkkmnnjpeaa
set_option linter.unusedVariables false
open Go.RowKit

theorem markIntS_at (v : Value) (zs : List Int) (base : Nat) (w : World) (hown : OwnI w base v zs) (hl : zs.length ≤ 2000000) (u : Nat) (k : Int) (hk : k = (u : Int)) (h1 : u ≤ 10000000) :
    Calls Try.prog 32 #[v, .int .i64 k] w fun e w' => e = .returned (.int .i64 ((u + zs.length : Nat) : Int)) ∧ OwnI w' base v (marksI u zs.length) ∧ w.grownBy w' v.ownBlock := by
  subst hk
  exact markIntS_any v zs base w hown hl u h1
end Go.Proofs.Ytanlfkkmnnjpeaa

/- A write into a set of blocks, what it leaves, and the cells of any struct's box. No condition. -/
namespace Go.Proofs.Ytanlfkkmnnjpeaa
set_option linter.unusedVariables false
open Go.RowKit

/-- What a call that writes into the blocks of P alone leaves. -/
structure GrownIn (w w' : World) (P : Nat → Prop) : Prop where
  os : w'.os = w.os
  tape : w'.tape = w.tape
  output : w'.output = w.output
  size : w.heap.size ≤ w'.heap.size
  block : ∀ k, k < w.heap.size → ¬ P k → w'.heap[k]? = w.heap[k]?
section
variable {w w' w0 : World} {P Q : Nat → Prop} {B : Nat}
theorem grownIn_of {row : Option Nat} (h : w.grownBy w' row) : GrownIn w w' (fun k => row = some k) := ⟨h.os, h.tape, h.output, h.size, fun k hk hn => h.block k hk (fun e => hn e.symm)⟩
theorem grownIn_below {b : Nat} (h : Below b w w') (hb : w.heap.size ≤ b) : GrownIn w w' P := ⟨h.os, h.tape, h.output, h.size, fun k hk _ => h.block k (Nat.lt_of_lt_of_le hk hb)⟩
theorem GrownIn.mono (h : GrownIn w w' P) (hp : ∀ k, P k → Q k) : GrownIn w w' Q := ⟨h.os, h.tape, h.output, h.size, fun k hk hn => h.block k hk (fun p => hn (hp k p))⟩
theorem GrownIn.trans {a b c : World} (h : GrownIn a b P) (k : GrownIn b c P) : GrownIn a c P :=
  ⟨k.os.trans h.os, k.tape.trans h.tape, k.output.trans h.output, Nat.le_trans h.size k.size, fun i hi hn => (k.block i (Nat.lt_of_lt_of_le hi h.size) hn).trans (h.block i hi hn)⟩
theorem GrownIn.below (h : GrownIn w w' P) (hb : Below B w0 w) (hB : B ≤ w.heap.size) (hp : ∀ k, P k → B ≤ k) : Below B w0 w' :=
  ⟨h.os.trans hb.os, h.tape.trans hb.tape, h.output.trans hb.output, Nat.le_trans hb.size h.size, fun k hk => (h.block k (Nat.lt_of_lt_of_le hk hB) (fun p => by have := hp k p; omega)).trans (hb.block k hk)⟩
theorem GrownIn.cell {p : Addr} {v : Value} (h : GrownIn w w' P) (hc : w.cell? p = some v) (hp : ¬ P p.block) : w'.cell? p = some v :=
  (World.cell?_of_block (h.block p.block (World.block_lt_of_cell? w p hc) hp)).trans hc
theorem ownsRow_in {base k n : Nat} {t : TypeId} {v : Value} {cs : List Value} (h : w.ownsRow base t k v n cs) (g : GrownIn w w' P) (hp : ∀ i, v.ownBlock = some i → ¬ P i) : w'.ownsRow base t k v n cs := by
  refine ⟨h.1, ?_⟩
  rcases h.2 with h0 | ⟨b, cap, cur, e, hb, hh, r⟩
  · exact .inl h0
  · exact .inr ⟨b, cap, cur, e, hb, (g.block b (Array.getElem?_eq_some_iff.1 hh).1 (hp b (by subst e; rfl))).trans hh, r⟩
theorem OwnI.in {base : Nat} {v : Value} {zs : List Int} (h : OwnI w base v zs) (g : GrownIn w w' P) (hp : ∀ i, v.ownBlock = some i → ¬ P i) : OwnI w' base v zs := ownsRow_in h g hp
/-- The block of one row. -/
def Blk1 (v : Value) (k : Nat) : Prop := v.ownBlock = some k
theorem OwnI.ltB {base : Nat} {v : Value} {zs : List Int} (h : OwnI w base v zs) : ∀ k, Blk1 v k → base ≤ k ∧ k < w.heap.size := h.lt

/-- The cells of a struct's box. -/
def BoxV (w : World) (b : Nat) (vs : List Value) : Prop := ∀ j v, vs[j]? = some v → w.cell? ⟨b, j, none⟩ = some v
theorem boxV_new (w : World) (vs : List Value) (t : TypeId) : BoxV (w.alloc (.cells vs.toArray t)) w.heap.size vs := by
  intro j v hv
  simp [go_sem, hv]
theorem BoxV.below {b : Nat} {vs : List Value} (h : BoxV w b vs) (hb : Below w.heap.size w w') : BoxV w' b vs := fun j v hv => cell_below (h j v hv) hb
theorem BoxV.alloc {b : Nat} {vs : List Value} (h : BoxV w b vs) (o : Obj) : BoxV (w.alloc o) b vs := h.below ((Below.refl _ _).alloc (Nat.le_refl _) _)
theorem BoxV.in {b : Nat} {vs : List Value} (h : BoxV w b vs) (g : GrownIn w w' P) (hp : ¬ P b) : BoxV w' b vs := fun j v hv => g.cell (h j v hv) hp
end
theorem BoxV.three {w : World} {b : Nat} {x y z : Value} (h : BoxV w b [x, y, z]) : w.cell? ⟨b, 0, none⟩ = some x ∧ w.cell? ⟨b, 1, none⟩ = some y ∧ w.cell? ⟨b, 2, none⟩ = some z := ⟨h 0 _ rfl, h 1 _ rfl, h 2 _ rfl⟩
/-- A row that was made and grown by append leaves all that is elder. -/
theorem made_below {W w2 : World} {o : Obj} {g n c : Nat} (h : (W.alloc o).drew.grownBy w2 (Value.slice (some ⟨g, 0, none⟩) n c).ownBlock) (hg : g = W.heap.size) : Below W.heap.size W w2 := by
  refine undrew (((Below.refl W.heap.size W).alloc (Nat.le_refl _) o).drew.grown h (by simp) (fun k hk => ?_) |> fun h => ⟨h.os, h.tape, h.output, h.size, fun i hi => h.block i hi⟩)
  have : g = k := by simpa [Value.ownBlock] using hk
  omega
theorem made_below' {W w2 : World} {o : Obj} {g n c : Nat} (h : (W.alloc o).grownBy w2 (Value.slice (some ⟨g, 0, none⟩) n c).ownBlock) (hg : g = W.heap.size) : Below W.heap.size W w2 :=
  made_below ⟨h.os, h.tape, h.output, h.size, h.block⟩ hg
theorem own_at {v v' : Value} {g s k : Nat} (h : v'.ownBlock = v.ownBlock ∨ v'.ownBlock = some s) (hv : v.ownBlock = some g) (hk : v'.ownBlock = some k) : k = g ∨ k = s := by
  rcases h with h | h
  · rw [h, hv] at hk
    exact .inl (Option.some.inj hk).symm
  · rw [h] at hk
    exact .inr (Option.some.inj hk).symm
theorem BoxV.setCell {w : World} {b : Nat} {vs : List Value} (h : BoxV w b vs) (a : Addr) (u : Value) (hne : a.block ≠ b) : BoxV (w.setCell a u) b vs := fun j v hv => (World.cell?_setCell_other _ _ _ _ (fun e => hne (congrArg Addr.block e))).trans (h j v hv)
/-- The result's own box of three cells, behind calls that left it alone. -/
theorem newBox3 {w w2 : World} {o : Obj} {t : TypeId} {x y z : Value} (hb : Below ((w.alloc o).alloc (.cells #[x, y, z] t)).heap.size ((w.alloc o).alloc (.cells #[x, y, z] t)) w2) :
    w2.cell? ⟨w.heap.size + 1, 0, none⟩ = some x ∧ w2.cell? ⟨w.heap.size + 1, 1, none⟩ = some y ∧ w2.cell? ⟨w.heap.size + 1, 2, none⟩ = some z ∧
      w2.frozen? ⟨w.heap.size + 1, 0, none⟩ = false ∧ w2.frozen? ⟨w.heap.size + 1, 1, none⟩ = false ∧ w2.frozen? ⟨w.heap.size + 1, 2, none⟩ = false := by
  refine ⟨?_, ?_, ?_, ?_, ?_, ?_⟩
  · rw [hb.cell (by simp)]; simp [go_sem]
  · rw [hb.cell (by simp)]; simp [go_sem]
  · rw [hb.cell (by simp)]; simp [go_sem]
  · rw [hb.frozen (by simp)]; simp [go_sem]
  · rw [hb.frozen (by simp)]; simp [go_sem]
  · rw [hb.frozen (by simp)]; simp [go_sem]
/-- The three cells of a struct behind their stores, one after the other. -/
theorem cells_set3 {w : World} {g : Nat} {u v x y0 y1 y2 : Value} (h0 : w.cell? ⟨g, 0, none⟩ = some y0) (h1 : w.cell? ⟨g, 1, none⟩ = some y1) (h2 : w.cell? ⟨g, 2, none⟩ = some y2) :
    (w.setCell ⟨g, 0, none⟩ u).cell? ⟨g, 0, none⟩ = some u ∧ ((w.setCell ⟨g, 0, none⟩ u).setCell ⟨g, 1, none⟩ v).cell? ⟨g, 1, none⟩ = some v ∧ (((w.setCell ⟨g, 0, none⟩ u).setCell ⟨g, 1, none⟩ v).setCell ⟨g, 2, none⟩ x).cell? ⟨g, 2, none⟩ = some x := by
  refine ⟨World.cell?_setCell_same _ _ _ h0, World.cell?_setCell_same (u := y1) _ _ _ ?_, World.cell?_setCell_same (u := y2) _ _ _ ?_⟩
  · rw [World.cell?_setCell_other _ _ _ _ (by simp), h1]
  · rw [World.cell?_setCell_other _ _ _ _ (by simp), World.cell?_setCell_other _ _ _ _ (by simp), h2]
theorem grownIn_cell (w : World) (a : Addr) (u : Value) : GrownIn w (w.setCell a u) (fun k => a.block = k) := ⟨rfl, rfl, rfl, by simp [World.setCell], fun k _ hk => Below.heap_setCell _ _ _ _ (by rintro rfl; exact hk rfl)⟩
theorem markIntS_in (v : Value) (zs : List Int) (base : Nat) (w : World) (hown : OwnI w base v zs) (hl : zs.length ≤ 2000000) (u : Nat) (k : Int) (hk : k = (u : Int)) (h1 : u ≤ 10000000) :
    Calls Try.prog 32 #[v, .int .i64 k] w fun e w' => e = .returned (.int .i64 ((u + zs.length : Nat) : Int)) ∧ OwnI w' base v (marksI u zs.length) ∧ GrownIn w w' (Blk1 v) := by
  subst hk
  exact (markIntS_any v zs base w hown hl u h1).mono fun e w' ⟨he, o, g⟩ => ⟨he, o, grownIn_of g⟩
end Go.Proofs.Ytanlfkkmnnjpeaa

/- The contract of laws.markIntSS at rows whose blocks lie below a place: it writes into the blocks of the rows alone. Condition: the rows are the call's own. -/
namespace Go.Proofs.Ytanlfkkmnnjpeaa
set_option linter.unusedVariables false
set_option linter.unusedSimpArgs false
open Go.RowKit

/-- A row of rows of the call's own, all of whose blocks lie below a place. -/
def OwnRB (w : World) (base top : Nat) (v : Value) (zss : List (List Int)) : Prop :=
  ∃ vs, OwnRR w base v vs zss ∧ (∀ k, v.ownBlock = some k → k < top) ∧ ∀ t (ht : t < vs.length) k, vs[t].ownBlock = some k → k < top
theorem OwnR.bound {w : World} {base : Nat} {v : Value} {zss : List (List Int)} (h : OwnR w base v zss) : OwnRB w base w.heap.size v zss := by
  obtain ⟨vs, h⟩ := h
  exact ⟨vs, h, fun k hk => (h.lt k hk).2, fun t ht k hk => ((h.each t ht (by rw [← h.len]; exact ht)).lt k hk).2⟩
theorem OwnRB.own {w : World} {base top : Nat} {v : Value} {zss : List (List Int)} (h : OwnRB w base top v zss) : OwnR w base v zss := let ⟨vs, x, _⟩ := h; ⟨vs, x⟩
theorem OwnRB.below {w w' : World} {base top : Nat} {v : Value} {zss : List (List Int)} (h : OwnRB w base top v zss) (hb : Below w.heap.size w w') : OwnRB w' base top v zss := let ⟨vs, x, y⟩ := h; ⟨vs, x.below hb, y⟩
theorem OwnRB.in {w w' : World} {base top : Nat} {v : Value} {zss : List (List Int)} {P : Nat → Prop} (h : OwnRB w base top v zss) (g : GrownIn w w' P) (hp : ∀ k, P k → k < base) : OwnRB w' base top v zss := by
  obtain ⟨vs, h, y⟩ := h
  exact ⟨vs, ⟨ownsRow_in h.row g (fun i e p => by have := (h.lt i e).1; have := hp i p; omega), h.len, fun i hi hi' => (h.each i hi hi').in g (fun k e p => by have := ((h.each i hi hi').lt k e).1; have := hp k p; omega), h.off, h.apart⟩, y⟩
theorem OwnRB.outOf {w w' : World} {base top : Nat} {v : Value} {zss : List (List Int)} {P : Nat → Prop} (h : OwnRB w base top v zss) (g : GrownIn w w' P) (hp : ∀ k, P k → k < base ∨ top ≤ k) : OwnRB w' base top v zss := by
  obtain ⟨vs, h, y, z⟩ := h
  exact ⟨vs, ⟨ownsRow_in h.row g (fun i e p => by have := (h.lt i e).1; have := y i e; rcases hp i p with q | q <;> omega), h.len, fun i hi hi' => (h.each i hi hi').in g (fun k e p => by have := ((h.each i hi hi').lt k e).1; have := z i hi k e; rcases hp k p with q | q <;> omega), h.off, h.apart⟩, y, z⟩
theorem OwnR.in {w w' : World} {base : Nat} {v : Value} {zss : List (List Int)} {P : Nat → Prop} (h : OwnR w base v zss) (g : GrownIn w w' P) (hp : ∀ k, P k → k < base) : OwnR w' base v zss := by
  obtain ⟨vs, h⟩ := h
  exact ⟨vs, ownsRow_in h.row g (fun i e p => by have := (h.lt i e).1; have := hp i p; omega), h.len, fun i hi hi' => (h.each i hi hi').in g (fun k e p => by have := ((h.each i hi hi').lt k e).1; have := hp k p; omega), h.off, h.apart⟩

/-- A row of rows and a truth. -/
def RowsB (w : World) (r : List (List Int) × Bool) (e : Ending) (w' : World) : Prop := ∃ v, e = .returned (.tuple #[v, .bool r.2]) ∧ OwnR w' w.heap.size v r.1 ∧ Below w.heap.size w w'

set_option maxRecDepth 100000 in
set_option maxHeartbeats 1600000 in
theorem markIntSS_in (v : Value) (zss : List (List Int)) (base top : Nat) (w : World) (hown : OwnRB w base top v zss) (hl : zss.length ≤ 2000000) (u : Nat) (k : Int) (hk : k = (u : Int)) (h1 : u + upTo zss zss.length ≤ 10000000) (hr : ∀ r (h : r < zss.length), zss[r].length ≤ 2000000) :
    Calls Try.prog 33 #[v, .int .i64 k] w fun e w' => e = .returned (.int .i64 ((u + upTo zss zss.length : Nat) : Int)) ∧ GrownIn w w' (fun q => base ≤ q ∧ q < top) := by
  subst hk
  obtain ⟨A, c, rfl⟩ := hown.own.slice
  have HH := Lib.hid hown
  have HR := Lib.hid hr
  clear hown hr
  go_enter Try.func33, Try.ntmps33
  go_wp2
  go_loopw [1, 5] (fun kv i wr => ∃ (k : Nat) (xs : List (List Int)), k ≤ zss.length ∧ i = .int .i64 k ∧ kv = .int .i64 ((u + upTo zss k : Nat) : Int) ∧ Hid (xs.length = zss.length) ∧ Hid (∀ j, k ≤ j → xs[j]? = zss[j]?) ∧ Hid (OwnRB wr base top (.slice A zss.length c) xs) ∧ Hid (GrownIn w wr (fun q => base ≤ q ∧ q < top))) (fun _ i _ => zss.length - (intOf i).toNat)
  case atStart => exact ⟨0, zss, by omega, rfl, rfl, Lib.hid rfl, Lib.hid (fun _ _ => rfl), HH, Lib.hid (grownIn_below (Below.refl _ _) (Nat.le_refl _))⟩
  case round =>
    obtain ⟨k, xs, hk, rfl, rfl, HX, HS, OO, GG⟩ := hrel
    by_cases hlt : k < zss.length
    rotate_left
    · obtain rfl : k = zss.length := by omega
      go_wp2
      go_ret
      exact ⟨rfl, GG.out⟩
    have hk0 : (0 : Int) ≤ (k : Int) := by omega
    have hk1 : (k : Int) < (zss.length : Int) := by omega
    obtain ⟨vs, hr, t1, t2⟩ := OO.out
    have hm : k < xs.length := by rw [HX.out]; exact hlt
    have hv : k < vs.length := by rw [hr.len]; exact hm
    have hxi : xs[k] = zss[k] := by
      have := HS.out k (Nat.le_refl _)
      rw [List.getElem?_eq_getElem hm, List.getElem?_eq_getElem hlt] at this
      exact Option.some.inj this
    have RO := hr.each k hv hm
    obtain ⟨g, c', A', c2, f1, rc, _, ro⟩ := OwnR.spot ⟨vs, hr⟩ hm
    have hc : vs[k] = .slice A' xs[k].length c2 := by
      rcases hr.row.2 with ⟨h3, hn⟩ | ⟨g3, cap, cur, e3, _⟩
      · omega
      · have e4 := e3.symm.trans f1
        simp only [Value.slice.injEq, Option.some.injEq, Addr.mk.injEq, and_true, true_and] at e4
        have hrow := hr.row
        rw [e3] at hrow
        have e5 := World.ownsRow.cellAt hrow k (by omega)
        rw [← e4.1] at rc
        have e6 := e5.symm.trans rc
        rw [List.getElem?_eq_getElem hv] at e6
        exact Option.some.inj e6
    rw [HX.out] at f1
    simp only [Value.slice.injEq] at f1
    obtain ⟨rfl, -, rfl⟩ := f1
    have hle := upTo_mono zss (j := k + 1) (k := zss.length) (by omega)
    have hmo := upTo_more hlt
    rw [hxi] at rc RO hc
    have MK := Lib.hid (markIntS_at vs[k] zss[k] base wr RO (HR.out k hlt) (u + upTo zss k) _ rfl (by omega))
    have tk := t2 k hv
    have TU := Lib.hid (fun w3 (o3 : OwnI w3 base vs[k] (marksI (u + upTo zss k) zss[k].length)) (g3 : wr.grownBy w3 vs[k].ownBlock) => (show OwnRB w3 base top (.slice (some ⟨g, 0, none⟩) zss.length c) (xs.set k (marksI (u + upTo zss k) zss[k].length)) ∧ GrownIn w w3 (fun q => base ≤ q ∧ q < top) from
      ⟨⟨vs, hr.turn hv o3 g3, t1, t2⟩, GrownIn.trans GG.out ((grownIn_of g3).mono (fun q hq => ⟨(RO.lt q hq).1, tk q hq⟩))⟩))
    rw [hc] at MK TU
    have UM := Lib.hid hmo
    have HX2 := Lib.hid (fun (y : List Int) => (show (xs.set k y).length = zss.length by rw [List.length_set]; exact HX.out))
    have HS2 := Lib.hid (fun (y : List Int) => (show ∀ j, k + 1 ≤ j → (xs.set k y)[j]? = zss[j]? from fun j hj => by rw [List.getElem?_set_ne (by omega)]; exact HS.out j (by omega)))
    clear hmo hle ro RO hc hr OO GG t1 t2 tk hxi hm hv
    generalize zss[k].length = t at rc MK TU UM
    go_wp2_with fail
    refine MK.out.mono ?_
    rintro e w3 ⟨rfl, o3, g3⟩
    obtain ⟨o4, b4⟩ := TU.out w3 o3 g3
    have O4 := Lib.hid o4
    have B4 := Lib.hid b4
    clear o3 g3 o4 b4 TU MK
    go_wp2
    exact ⟨⟨k + 1, _, by omega, by go_num, by rw [UM.out]; first | rfl | (congr 1; omega) | go_num, Lib.hid (HX2.out _), Lib.hid (HS2.out _), O4, B4⟩, by simp [intOf]; omega⟩
end Go.Proofs.Ytanlfkkmnnjpeaa

/- The table of least sums, row by row from the last moment on; one number written into a row of rows. Plain mathematics and one write. -/
namespace Go.Proofs.Ytanlfkkmnnjpeaa
set_option linter.unusedVariables false
set_option linter.unusedSimpArgs false
open Go.RowKit

/-- One number in one row is written. -/
theorem OwnR.put {w : World} {base g c k i : Nat} {zss : List (List Int)} (h : OwnR w base (.slice (some ⟨g, 0, none⟩) zss.length c) zss) (hk : k < zss.length) (hi : i < zss[k].length) (z : Int) :
    ∃ g' c', w.cell? ⟨g, k, none⟩ = some (.slice (some ⟨g', 0, none⟩) zss[k].length c') ∧ (∃ x, w.cell? ⟨g', i, none⟩ = some (.int .i64 x)) ∧ w.frozen? ⟨g', i, none⟩ = false ∧ OwnR (w.setCell ⟨g', i, none⟩ (.int .i64 z)) base (.slice (some ⟨g, 0, none⟩) zss.length c) (zss.set k (zss[k].set i z)) ∧
      w.grownBy (w.setCell ⟨g', i, none⟩ (.int .i64 z)) (some g') ∧ base ≤ g' ∧ g' < w.heap.size := by
  obtain ⟨vs, h⟩ := h
  have hv : k < vs.length := by rw [h.len]; exact hk
  have O := h.each k hv hk
  obtain ⟨g', c', e, hb, hl, hc, hf⟩ := O.spot hi
  have cell : w.cell? ⟨g, k, none⟩ = some vs[k] := by
    have e5 := World.ownsRow.cellAt h.row k (by have := h.len; omega)
    rw [e5, List.getElem?_eq_getElem hv]
  rw [e] at O
  have st := O.set rfl i z
  refine ⟨g', c', by rw [cell, e], ⟨_, hc⟩, hf, ⟨vs, ?_⟩, st.2, hb, hl⟩
  have hgb : w.grownBy (w.setCell ⟨g', i, none⟩ (.int .i64 z)) vs[k].ownBlock := by rw [e]; exact st.2
  exact h.turn hv (by rw [e]; have q := st.1; unfold OwnI at q ⊢; rw [List.length_set] at q ⊢; exact q) hgb
theorem getR {zss : List (List Int)} {t : Nat} (ht : t < zss.length) : zss.getD t [] = zss[t] := by rw [List.getD_eq_getElem?_getD, List.getElem?_eq_getElem ht]; rfl
theorem getZ {zs : List Int} {t : Nat} (ht : t < zs.length) : zs.getD t 0 = zs[t] := by rw [List.getD_eq_getElem?_getD, List.getElem?_eq_getElem ht]; rfl
theorem OwnR.spotD {w : World} {base k : Nat} {v : Value} {zss : List (List Int)} (h : OwnR w base v zss) (hk : k < zss.length) :
    ∃ g c A c', v = .slice (some ⟨g, 0, none⟩) zss.length c ∧ w.cell? ⟨g, k, none⟩ = some (.slice A (zss.getD k []).length c') ∧ w.frozen? ⟨g, k, none⟩ = false ∧ OwnI w base (.slice A (zss.getD k []).length c') (zss.getD k []) := by
  rw [getR hk]
  exact h.spot hk
theorem OwnI.spotD {w : World} {base k : Nat} {v : Value} {zs : List Int} (h : OwnI w base v zs) (hk : k < zs.length) :
    ∃ g c, v = .slice (some ⟨g, 0, none⟩) zs.length c ∧ base ≤ g ∧ g < w.heap.size ∧ w.cell? ⟨g, k, none⟩ = some (.int .i64 (zs.getD k 0)) ∧ w.frozen? ⟨g, k, none⟩ = false := by
  rw [getZ hk]
  exact h.spot hk
theorem OwnR.putD {w : World} {base g c k i n : Nat} {zss : List (List Int)} (h : OwnR w base (.slice (some ⟨g, 0, none⟩) n c) zss) (hn : zss.length = n) (hk : k < n) (hi : i < (zss.getD k []).length) (z : Int) :
    ∃ g' c', w.cell? ⟨g, k, none⟩ = some (.slice (some ⟨g', 0, none⟩) (zss.getD k []).length c') ∧ (∃ x, w.cell? ⟨g', i, none⟩ = some (.int .i64 x)) ∧ w.frozen? ⟨g', i, none⟩ = false ∧ OwnR (w.setCell ⟨g', i, none⟩ (.int .i64 z)) base (.slice (some ⟨g, 0, none⟩) n c) (zss.set k ((zss.getD k []).set i z)) ∧
      w.grownBy (w.setCell ⟨g', i, none⟩ (.int .i64 z)) (some g') ∧ base ≤ g' ∧ g' < w.heap.size := by
  subst hn
  rw [getR hk] at hi ⊢
  exact h.put hk hi z
/-- A row of rows below a place is kept while only blocks from there on are written. -/
theorem OwnRR.low {w w' : World} {base top : Nat} {v : Value} {vs : List Value} {zss : List (List Int)} (h : OwnRR w base v vs zss) (h1 : ∀ k, v.ownBlock = some k → k < top) (h2 : ∀ t (ht : t < vs.length) k, vs[t].ownBlock = some k → k < top) (hb : Below top w w') : OwnRR w' base v vs zss := by
  have g : GrownIn w w' (fun k => top ≤ k) := ⟨hb.os, hb.tape, hb.output, hb.size, fun k _ hn => hb.block k (by omega)⟩
  exact ⟨ownsRow_in h.row g (fun i e p => by have := h1 i e; omega), h.len, fun i hi hi' => (h.each i hi hi').in g (fun k e p => by have := h2 i hi k e; omega), h.off, h.apart⟩
theorem OwnRB.low {w w' : World} {base top : Nat} {v : Value} {zss : List (List Int)} (h : OwnRB w base top v zss) (hb : Below top w w') : OwnRB w' base top v zss := let ⟨vs, x, y, z⟩ := h; ⟨vs, x.low y z hb, y, z⟩
section
variable {ls : List RPlayer} {nt : List (List Int)}
/-- The rows of the last j moments. -/
def tabT (ls : List RPlayer) (nt : List (List Int)) : Nat → List (List Int)
  | 0 => []
  | j + 1 => costAt ls nt (nt.length - 1 - j) :: tabT ls nt j
theorem tabT_len : ∀ j, (tabT ls nt j).length = j := by
  intro j
  induction j with
  | zero => rfl
  | succ j ih => rw [tabT, List.length_cons, ih]
def tabTo (ls : List RPlayer) (nt : List (List Int)) (j : Nat) : List (List Int) := List.replicate (nt.length - j) [] ++ tabT ls nt j
theorem tab_len {j : Nat} (h : j ≤ nt.length) : (tabTo ls nt j).length = nt.length := by
  unfold tabTo
  rw [List.length_append, List.length_replicate, tabT_len]
  omega
theorem tab_next {j : Nat} (h : j < nt.length) : (tabTo ls nt j).set (nt.length - 1 - j) (costAt ls nt (nt.length - 1 - j)) = tabTo ls nt (j + 1) := by
  unfold tabTo
  obtain ⟨m, hm⟩ : ∃ m, nt.length - j = m + 1 := ⟨nt.length - j - 1, by omega⟩
  rw [show nt.length - (j + 1) = m by omega, hm, show nt.length - 1 - j = m by omega, tabT, show nt.length - 1 - j = m by omega, List.replicate_succ', List.append_assoc, List.set_append_right _ _ (by rw [List.length_replicate]; exact Nat.le_refl _), List.length_replicate, Nat.sub_self]
  rfl
theorem tabT_at : ∀ j i, i < j → j ≤ nt.length → (tabT ls nt j).getD i [] = costAt ls nt (nt.length - j + i) := by
  intro j
  induction j with
  | zero => intro i h; omega
  | succ j ih =>
    intro i h hj
    rw [tabT]
    cases i with
    | zero => rw [show nt.length - (j + 1) + 0 = nt.length - 1 - j by omega]; rfl
    | succ i =>
      rw [List.getD_cons_succ, ih i (by omega) (by omega), show nt.length - j + i = nt.length - (j + 1) + (i + 1) by omega]
theorem tab_at {j m : Nat} (h : nt.length - j ≤ m) (hm : m < nt.length) (hj : j ≤ nt.length) : (tabTo ls nt j).getD m [] = costAt ls nt m := by
  unfold tabTo
  rw [List.getD_eq_getElem?_getD, List.getElem?_append_right (by rw [List.length_replicate]; exact h), List.length_replicate, ← List.getD_eq_getElem?_getD, tabT_at j _ (by omega) hj, show nt.length - j + (m - (nt.length - j)) = m by omega]
def costTab (ls : List RPlayer) (nt : List (List Int)) : List (List Int) := tabTo ls nt nt.length
theorem costTab_len : (costTab ls nt).length = nt.length := tab_len (Nat.le_refl _)
theorem costTab_at {m : Nat} (hm : m < nt.length) : (costTab ls nt).getD m [] = costAt ls nt m := tab_at (by omega) hm (Nat.le_refl _)
theorem tab_zero : tabTo ls nt 0 = List.replicate nt.length [] := by simp [tabTo, tabT]
/-- The first i numbers of a row, the others none yet. -/
def rowUpTo (row : List Int) (i : Nat) : List Int := row.take i ++ List.replicate (row.length - i) 0
theorem rowUp_len {row : List Int} {i : Nat} (h : i ≤ row.length) : (rowUpTo row i).length = row.length := by
  unfold rowUpTo
  rw [List.length_append, List.length_take, List.length_replicate]
  omega
theorem rowUp_next {row : List Int} {i : Nat} (h : i < row.length) : (rowUpTo row i).set i (row.getD i 0) = rowUpTo row (i + 1) := by
  unfold rowUpTo
  have e : (row.take i).length = i := by rw [List.length_take]; omega
  rw [List.set_append_right _ _ (by omega), e, Nat.sub_self, show row.length - i = (row.length - (i + 1)) + 1 by omega, List.replicate_succ, List.set_cons_zero, List.take_add_one, List.getElem?_eq_getElem h, List.getD_eq_getElem?_getD, List.getElem?_eq_getElem h, List.append_assoc]
  rfl
theorem rowUp_zero (row : List Int) : rowUpTo row 0 = List.replicate row.length 0 := by simp [rowUpTo]
theorem rowUp_all (row : List Int) : rowUpTo row row.length = row := by simp [rowUpTo]
theorem rowUp_flat (n : Nat) {i : Nat} (h : i ≤ n) : rowUpTo (List.replicate n 0) i = List.replicate n 0 := by
  unfold rowUpTo
  rw [List.take_replicate, List.length_replicate, Nat.min_eq_left h, List.replicate_append_replicate, show i + (n - i) = n by omega]
theorem ch16 {ps cast nx af : List Int} (h1 : ps.length ≤ 4) (h2 : nx.length ≤ 4) : -1 ≤ changesB ps cast nx af ∧ changesB ps cast nx af ≤ 16 := by
  unfold changesB
  split
  · have h := chTo_small ps cast nx af ps.length
    have e : (nx.length : Int) * (ps.length : Int) ≤ 4 * 4 := Int.mul_le_mul (by omega) (by omega) (by omega) (by omega)
    omega
  · omega
theorem best_max {row : List Int} {d : List (List Int)} {ps c nx : List Int} {M : Int} (h1 : ps.length ≤ 4) (h2 : nx.length ≤ 4) (hr : ∀ k, row.getD k 0 ≤ M) (hM : 0 ≤ M) : ∀ k, -1 ≤ bestK row d ps c nx k ∧ bestK row d ps c nx k ≤ M + 16 := by
  intro k
  induction k with
  | zero => rw [bestK]; omega
  | succ k ih =>
    have a := hr k
    have b := ch16 (cast := c) (af := d.getD k []) h1 h2
    rw [bestK]
    split
    · exact ih
    · split
      · omega
      · exact ih
theorem row_max (hn : nightOk ls nt = true) : ∀ j, j < nt.length → ∀ k, -1 ≤ (costRow ls nt j).getD k 0 ∧ (costRow ls nt j).getD k 0 ≤ 16 * (j : Int) := by
  obtain ⟨_, _, h4⟩ := nok_has hn
  have g4 : ∀ m, (nt.getD m []).length ≤ 4 := fun m => by
    by_cases c : m < nt.length
    · rw [List.getD_eq_getElem?_getD, List.getElem?_eq_getElem c]; exact (h4 m c).1
    · rw [List.getD_eq_getElem?_getD, List.getElem?_eq_none (by omega)]; simp
  intro j
  induction j with
  | zero =>
    intro _ k
    rw [costRow, List.getD_eq_getElem?_getD, List.getElem?_replicate]
    split <;> simp
  | succ j ih =>
    intro hj k
    rw [costRow, List.getD_eq_getElem?_getD, List.getElem?_map]
    cases c : (csM ls nt (nt.length - 1 - (j + 1)))[k]? with
    | none => simp only [Option.map_none, Option.getD_none]; omega
    | some x =>
      have q := best_max (row := costRow ls nt j) (d := csM ls nt (nt.length - 1 - j)) (c := x) (g4 (nt.length - 1 - (j + 1))) (g4 (nt.length - 1 - j)) (fun k => (ih (by omega) k).2) (by omega) (csM ls nt (nt.length - 1 - j)).length
      simp only [Option.map_some, Option.getD_some]
      rw [show ((j + 1 : Nat) : Int) = (j : Int) + 1 from rfl]
      omega
theorem cost_max (hn : nightOk ls nt = true) {m : Nat} (hm : m < nt.length) (k : Nat) : -1 ≤ (costAt ls nt m).getD k 0 ∧ (costAt ls nt m).getD k 0 ≤ 100 := by
  have h := row_max hn (nt.length - 1 - m) (by omega) k
  have := (nok_has hn).2.1
  unfold costAt
  omega
theorem castings_few {ps : List Int} (h : playersOk ls = true) (h4 : ps.length ≤ 4) : (castingsOf ls ps).length ≤ 1296 := by
  unfold castingsOf
  split
  · have hn := (playersOk_has h).1
    exact Nat.le_trans (casts_len _ _) (Nat.le_trans (Nat.pow_le_pow_left hn.2 _) (Nat.le_trans (Nat.pow_le_pow_right (by omega) h4) (by decide)))
  · simp
theorem castings_row {ps c : List Int} (h : c ∈ castingsOf ls ps) : c.length = ps.length := by
  have := castings_mem h
  unfold isCasting at this
  simp only [Bool.and_eq_true, decide_eq_true_eq] at this
  exact this.2.2.1
end
end Go.Proofs.Ytanlfkkmnnjpeaa

/- The contract of spec.l14Ok. Condition: the players and the numbers lie in rows of their own. -/
namespace Go.Proofs.Ytanlfkkmnnjpeaa
set_option linter.unusedVariables false
set_option linter.unusedSimpArgs false
open Go.RowKit


set_option maxRecDepth 100000 in
set_option maxHeartbeats 1600000 in
theorem specHok (v : Value) (ls : List RPlayer) (b : Nat) (w : World) (h : OwnPlayer w b v ls) (hl : ls.length ≤ 2000000) (hr : ∀ k (hk : k < ls.length), ls[k].f0.length ≤ 2000000) (u : Value) (ps : List Int) (b2 : Nat) (h2 : OwnI w b2 u ps) (hp : ps.length ≤ 2000000) :
    Calls Try.prog 58 #[v, u] w fun e w' => e = .returned (.bool (proofOk ls ps)) ∧ Below w.heap.size w w' := by
  have CK := Lib.hid (specPOk v ls b w h hl hr)
  have CR := Lib.hid (fun W h => specRise u ps 6 b2 W h hp)
  have R := Lib.hid (show proofOk ls ps = (playersOk ls && rising ps 6) from rfl)
  obtain ⟨A, c, rfl⟩ := h.slice
  obtain ⟨A2, c2, rfl⟩ := h2.slice
  have P := Lib.hid h2
  clear h h2 hr
  generalize proofOk ls ps = r at R ⊢
  generalize rising ps 6 = rr at R CR
  cases hok : playersOk ls with
  | false =>
    rw [hok] at R CK
    have R2 := R.out
    rw [Bool.false_and] at R2
    subst R2
    clear R
    go_enter Try.func58, Try.ntmps58
    go_wp2_with fail
    refine CK.out.mono ?_
    rintro e w1 ⟨rfl, b1⟩
    have B1 := Lib.hid b1
    clear b1
    go_wp2
    go_ret
    exact ⟨rfl, B1.out⟩
  | true =>
    rw [hok] at R CK
    have R2 := R.out
    rw [Bool.true_and] at R2
    subst R2
    clear R
    go_enter Try.func58, Try.ntmps58
    go_wp2_with fail
    refine CK.out.mono ?_
    rintro e w1 ⟨rfl, b1⟩
    have B1 := Lib.hid b1
    clear b1
    go_wp2_with fail
    refine (CR.out _ (P.out.below B1.out)).mono ?_
    rintro e w2 ⟨rfl, b2⟩
    have B2 := Lib.hid (B1.out.trans (b2.mono B1.out.size))
    clear b2
    go_wp2
    go_ret
    exact ⟨rfl, B2.out⟩
end Go.Proofs.Ytanlfkkmnnjpeaa

/- The contract of spec.LoadOf. Condition: the players and the cast lie in rows of their own. -/
namespace Go.Proofs.Ytanlfkkmnnjpeaa
set_option linter.unusedVariables false
set_option linter.unusedSimpArgs false
open Go.RowKit

set_option maxRecDepth 100000 in
set_option maxHeartbeats 1600000 in
theorem specLoa (v : Value) (ls : List RPlayer) (b : Nat) (w : World) (h : OwnPlayer w b v ls) (hl : ls.length ≤ 2000000) (hr : ∀ k (hk : k < ls.length), ls[k].f0.length ≤ 2000000) (u : Value) (zs : List Int) (b2 : Nat) (h2 : OwnI w b2 u zs) (hz : zs.length ≤ 2000000) :
    Calls Try.prog 50 #[v, u] w (IntsPost w (loadOf ls zs)) := by
  have CK := Lib.hid (specPOk v ls b (w.alloc (.cells #[] 3)) (h.alloc _) hl hr)
  obtain ⟨A, c, rfl⟩ := h.slice
  obtain ⟨D, d, rfl⟩ := h2.slice
  have Z := Lib.hid h2
  clear h hr h2
  have O0 := Lib.hid (ownI_empty w w.heap.size w.heap.size #[] rfl (Nat.le_refl _) rfl)
  have B0 := Lib.hid ((Below.refl w.heap.size w).alloc (Nat.le_refl _) (.cells #[] 3))
  cases hok : playersOk ls with
  | false =>
    have R := Lib.hid (show loadOf ls zs = [] by unfold loadOf; rw [hok]; rfl)
    rw [hok] at CK
    go_enter Try.func50, Try.ntmps50
    go_wp2_with fail
    refine CK.out.mono ?_
    rintro e w1 ⟨rfl, b1⟩
    have B1 := Lib.hid (B0.out.trans (b1.mono B0.out.size))
    have O1 := Lib.hid (O0.out.below b1)
    clear b1
    go_wp2
    go_ret
    exact ⟨_, rfl, by rw [R.out]; exact O1.out, B1.out⟩
  | true =>
    have hn := (playersOk_has hok).1
    have R := Lib.hid (show loadOf ls zs = loadTo zs ls.length by unfold loadOf; rw [if_pos hok])
    rw [hok] at CK
    clear hok
    go_enter Try.func50, Try.ntmps50
    go_wp2_with fail
    refine CK.out.mono ?_
    rintro e w1 ⟨rfl, b1⟩
    have B1 := Lib.hid (B0.out.trans (b1.mono B0.out.size))
    have O1 := Lib.hid (O0.out.below b1)
    clear b1 CK O0 B0
    go_wp2_with fail
    go_loopw [5, 6] (fun ov kv wr => ∃ (k : Nat) (vo : Value), vo = ov ∧ k ≤ ls.length ∧ kv = .int .i64 (k : Int) ∧ Hid (OwnI wr w.heap.size vo (loadTo zs k)) ∧ Hid (Below w.heap.size w wr)) (fun _ kv _ => ls.length - (intOf kv).toNat)
    case atStart => exact ⟨0, _, rfl, by omega, rfl, O1, B1⟩
    case round =>
      clear O1 B1
      obtain ⟨k, vo, rfl, hk, rfl, OO, BW⟩ := hrel
      by_cases hlt : k < ls.length
      rotate_left
      · obtain rfl : k = ls.length := by omega
        rw [← R.out] at OO
        go_wp2
        go_ret
        exact ⟨_, rfl, OO.out, BW.out⟩
      have hk0 : (0 : Int) ≤ (k : Int) := by omega
      have hk1 : (k : Int) < (ls.length : Int) := by omega
      have hbs := BW.out.size
      have SM := Lib.hid (cntI_small zs (k : Int))
      have NX := Lib.hid (show loadTo zs (k + 1) = loadTo zs k ++ [cntI zs (k : Int) zs.length] from rfl)
      have ll := load_len zs k
      have ON := Lib.hid (fun z => oneI wr wr.heap.size z (Nat.le_refl _))
      have Z1 := Lib.hid (Z.out.below BW.out)
      go_wp2_with fail
      go_loopw [7, 8] (fun nv iv wq => wq = wr ∧ ∃ i : Nat, i ≤ zs.length ∧ nv = .int .i64 (cntI zs (k : Int) i) ∧ iv = .int .i64 (i : Int)) (fun _ iv _ => zs.length - (intOf iv).toNat)
      case atStart => exact ⟨rfl, 0, by omega, rfl, rfl⟩
      case round =>
        obtain ⟨hw, i, hi, rfl, rfl⟩ := hrel
        subst hw
        by_cases hli : i < zs.length
        rotate_left
        · obtain rfl : i = zs.length := by omega
          generalize cntI zs (k : Int) zs.length = z at NX
          clear SM
          have LL := Lib.hid ll
          clear ll
          go_wp2_with (at_builtin; refine wpList_rowsI rfl (.tmp 34) (.tmp 36) rfl w.heap.size _ _ _ (loadTo zs k) [z] rfl rfl (OO.out.alloc _) (ON.out z) ?_ ?_ ?_; (have := LL.out; simp <;> omega); (simp <;> omega); intro v4 w4 o4 g4 hat4)
          have B5 := Lib.hid (madeR (BW.out.alloc hbs _) (by simp; omega) (OO.out.alloc _) g4)
          have O5 : Hid (OwnI w4 w.heap.size v4 (loadTo zs (k + 1))) := Lib.hid (NX.out ▸ o4)
          exact ⟨⟨k + 1, _, rfl, by omega, by go_num, O5, B5⟩, by simp [intOf] <;> omega⟩
        have hi0 : (0 : Int) ≤ (i : Int) := by omega
        have hi1 : (i : Int) < (zs.length : Int) := by omega
        obtain ⟨g, _, f1, _, _, z0, _⟩ := Z1.out.spot hli
        simp only [Value.slice.injEq] at f1
        obtain ⟨rfl, -, -⟩ := f1
        have sm := SM.out i
        have NC := Lib.hid (show cntI zs (k : Int) (i + 1) = cntI zs (k : Int) i + if zs[i] = (k : Int) then 1 else 0 by rw [cntI, List.getD_eq_getElem?_getD, List.getElem?_eq_getElem hli]; rfl)
        generalize zs[i] = y at z0 NC
        generalize cntI zs (k : Int) i = m at sm NC ⊢
        have ew : IntKind.i64.wrap (m + 1) = m + 1 := IntWalk.i64_in _ (by omega)
        by_cases e : y = (k : Int)
        · have eb : (y == (k : Int)) = true := by simpa using e
          rw [if_pos e] at NC
          clear e
          go_wp2
          exact ⟨⟨trivial, i + 1, by omega, by rw [NC.out], by go_num⟩, by simp [intOf]; omega⟩
        · have eb : (y == (k : Int)) = false := by simpa using e
          rw [if_neg e, Int.add_zero] at NC
          clear e ew
          go_wp2
          exact ⟨⟨trivial, i + 1, by omega, by rw [NC.out], by go_num⟩, by simp [intOf]; omega⟩
end Go.Proofs.Ytanlfkkmnnjpeaa

/- The contract of spec.IsCasting. Condition: the players and the numbers lie in rows of their own. -/
namespace Go.Proofs.Ytanlfkkmnnjpeaa
set_option linter.unusedVariables false
set_option linter.unusedSimpArgs false
open Go.RowKit

set_option maxRecDepth 100000 in
set_option maxHeartbeats 3200000 in
theorem specCas (v : Value) (ls : List RPlayer) (b : Nat) (w : World) (h : OwnPlayer w b v ls) (hl : ls.length ≤ 2000000) (hr : ∀ k (hk : k < ls.length), ls[k].f0.length ≤ 2000000) (u : Value) (ps : List Int) (b2 : Nat) (h2 : OwnI w b2 u ps) (hp : ps.length ≤ 2000000)
    (x : Value) (cs : List Int) (b3 : Nat) (h3 : OwnI w b3 x cs) (hc : cs.length ≤ 2000000) :
    Calls Try.prog 18 #[v, u, x] w fun e w' => e = .returned (.bool (isCasting ls ps cs)) ∧ Below w.heap.size w w' := by
  have CK := Lib.hid (specPOk v ls b w h hl hr)
  have CR := Lib.hid (fun W h => specRise u ps 6 b2 W h hp)
  have CL := Lib.hid (fun W h h3 => specLoa v ls b W h hl hr x cs b3 h3 hc)
  have C0 := Lib.hid (fun v lo hi W => l01In_any v lo hi W)
  obtain ⟨A, c, rfl⟩ := h.slice
  obtain ⟨D, d, rfl⟩ := h2.slice
  obtain ⟨X, cx, rfl⟩ := h3.slice
  have O := Lib.hid h
  have P := Lib.hid h2
  have Z := Lib.hid h3
  have HR := Lib.hid hr
  clear h h2 h3 hr
  cases hok : playersOk ls with
  | false =>
    have R := Lib.hid (show isCasting ls ps cs = false by unfold isCasting; rw [hok]; rfl)
    rw [hok] at CK
    go_enter Try.func18, Try.ntmps18
    go_wp2_with (go_at_call 45; refine CK.out.mono ?_; rintro e w1 ⟨rfl, b1⟩; have B1 := Lib.hid b1; clear b1)
    go_ret
    exact ⟨by rw [R.out]; rfl, B1.out⟩
  | true =>
  have hn := (playersOk_has hok).1
  rw [hok] at CK
  cases hris : rising ps 6 with
  | false =>
    have R := Lib.hid (show isCasting ls ps cs = false by unfold isCasting; rw [hok, hris]; rfl)
    rw [hris] at CR
    go_enter Try.func18, Try.ntmps18
    go_wp2_with fail
    refine CK.out.mono ?_
    rintro e w1 ⟨rfl, b1⟩
    go_wp2_with fail
    refine (CR.out _ (P.out.below b1)).mono ?_
    rintro e w2 ⟨rfl, b2⟩
    have B2 := Lib.hid (b1.trans (b2.mono b1.size))
    clear b1 b2
    go_wp2
    go_ret
    exact ⟨by rw [R.out]; rfl, B2.out⟩
  | true =>
  rw [hris] at CR
  by_cases hlen : cs.length = ps.length
  rotate_left
  · have R := Lib.hid (show isCasting ls ps cs = false by unfold isCasting; rw [hok, hris, decide_eq_false hlen]; rfl)
    have hne : ((cs.length : Int) == (ps.length : Int)) = false := by rw [beq_eq_false_iff_ne]; omega
    clear hris hok
    generalize cs.length = n1 at *
    generalize ps.length = n2 at *
    go_enter Try.func18, Try.ntmps18
    go_wp2_with fail
    refine CK.out.mono ?_
    rintro e w1 ⟨rfl, b1⟩
    go_wp2_with fail
    refine (CR.out _ (P.out.below b1)).mono ?_
    rintro e w2 ⟨rfl, b2⟩
    have B2 := Lib.hid (b1.trans (b2.mono b1.size))
    clear b1 b2
    go_wp2
    go_ret
    exact ⟨by rw [R.out]; rfl, B2.out⟩
  have h7 := rising_seven hris
  have RN1 := Lib.hid (show ∀ k, k < cs.length → castAt ls ps cs k = false → isCasting ls ps cs = false from fun k hk e => by unfold isCasting; rw [range_no hk e]; simp)
  have RN2 := Lib.hid (show ∀ k, k < ls.length → loadFit ls cs k = false → isCasting ls ps cs = false from fun k hk e => by unfold isCasting; rw [range_no hk e]; simp)
  have RY := Lib.hid (show (∀ k, k < cs.length → castAt ls ps cs k = true) → (∀ k, k < ls.length → loadFit ls cs k = true) → isCasting ls ps cs = true from fun e1 e2 => by
    unfold isCasting
    rw [hok, hris, decide_eq_true hlen, range_yes e1, range_yes e2]
    rfl)
  have LD := Lib.hid (show loadOf ls cs = loadTo cs ls.length by unfold loadOf; rw [if_pos hok])
  have FN := Lib.hid (fun k (hk : k < ls.length) => (player_fine ((playersOk_has hok).2 k hk)).2)
  have HL := Lib.hid hlen
  rw [LD.out] at CL
  rw [hlen] at Z ⊢
  have hne : ((ps.length : Int) == (ps.length : Int)) = true := by simp
  clear hok hris hlen LD
  rw [HL.out] at RN1 RY CL
  go_enter Try.func18, Try.ntmps18
  go_wp2_with fail
  refine CK.out.mono ?_
  rintro e w1 ⟨rfl, b1⟩
  go_wp2_with fail
  refine (CR.out _ (P.out.below b1)).mono ?_
  rintro e w2 ⟨rfl, b2⟩
  have B2 := Lib.hid (b1.trans (b2.mono b1.size))
  clear b1 b2 CK CR
  go_wp2_with fail
  go_loopw [7] (fun iv wr => ∃ k : Nat, k ≤ ps.length ∧ iv = .int .i64 (k : Int) ∧ Hid (∀ i, i < k → castAt ls ps cs i = true) ∧ Hid (Below w.heap.size w wr)) (fun iv _ => ps.length - (intOf iv).toNat)
  case atStart => exact ⟨0, by omega, rfl, Lib.hid (fun i hi => absurd hi (by omega)), B2⟩
  case round =>
    clear B2
    obtain ⟨k, hk, rfl, HN, BW⟩ := hrel
    by_cases hlt : k < ps.length
    rotate_left
    · obtain rfl : k = ps.length := by omega
      have RY2 := Lib.hid (RY.out HN.out)
      have LA := Lib.hid (load_at cs ls.length)
      have ll := load_len cs ls.length
      generalize loadTo cs ls.length = lo at CL LA ll
      go_wp2_with fail
      refine (CL.out _ (O.out.below BW.out) (Z.out.below BW.out)).mono ?_
      rintro e w4 ⟨v4, rfl, o4, b4⟩
      obtain ⟨Q, cq, e4⟩ := o4.slice
      rw [ll] at e4
      subst e4
      have O4 := Lib.hid o4
      have B4 := Lib.hid (BW.out.trans (b4.mono BW.out.size))
      have LL := Lib.hid ll
      clear b4 o4 CL ll BW
      go_wp2_with fail
      go_loopw [9] (fun iv wr => ∃ k : Nat, k ≤ ls.length ∧ iv = .int .i64 (k : Int) ∧ Hid (∀ i, i < k → loadFit ls cs i = true) ∧ Hid (Below w4.heap.size w4 wr)) (fun iv _ => ls.length - (intOf iv).toNat)
      case atStart => exact ⟨0, by omega, rfl, Lib.hid (fun i hi => absurd hi (by omega)), Lib.hid (Below.refl _ _)⟩
      case round =>
        obtain ⟨k, hk, rfl, HM, BW⟩ := hrel
        have BZ := Lib.hid (B4.out.trans (BW.out.mono B4.out.size))
        by_cases hlt : k < ls.length
        rotate_left
        · obtain rfl : k = ls.length := by omega
          have R := Lib.hid (RY2.out HM.out)
          go_wp2
          go_ret
          exact ⟨by rw [R.out]; rfl, BZ.out⟩
        have hk0 : (0 : Int) ≤ (k : Int) := by omega
        have hk1 : (k : Int) < (ls.length : Int) := by omega
        obtain ⟨gq, _, f1, _, _, z0, _⟩ := (O4.out.below BW.out).spot (k := k) (by rw [LL.out]; exact hlt)
        simp only [Value.slice.injEq] at f1
        obtain ⟨rfl, -, rfl⟩ := f1
        rw [show lo[k]'(by rw [LL.out]; exact hlt) = cntI cs (k : Int) cs.length from by have := LA.out k hlt; rw [List.getD_eq_getElem?_getD, List.getElem?_eq_getElem (by rw [LL.out]; exact hlt)] at this; exact this] at z0
        obtain ⟨g, _, A1, c1, f1, -, ⟨-, x1⟩, -, -⟩ := (O.out.below BZ.out).spot hlt
        simp only [Value.slice.injEq] at f1
        obtain ⟨rfl, -, rfl⟩ := f1
        have FT := Lib.hid (show loadFit ls cs k = !decide (ls[k].f1 < cntI cs (k : Int) cs.length) by unfold loadFit; rw [getP hlt])
        have RX := Lib.hid (RN2.out k hlt)
        have NX := Lib.hid (show loadFit ls cs k = true → ∀ i, i < k + 1 → loadFit ls cs i = true from fun e i hi => by
          rcases (by omega : i < k ∨ i = k) with q | rfl
          · exact HM.out i q
          · exact e)
        have WY := Lib.hid (fun m => (below_drewN BW.out m : Below w4.heap.size w4 (wr.drewN m)))
        have WZ := Lib.hid (fun m => (below_drewN BZ.out m : Below w.heap.size w (wr.drewN m)))
        generalize ls[k].f1 = t at x1 FT
        generalize cntI cs (k : Int) cs.length = m at z0 FT
        by_cases hc : t < m
        · have R := Lib.hid (RX.out (by rw [FT.out, decide_eq_true hc]; rfl))
          have d1 : decide (t < m) = true := decide_eq_true hc
          clear NX
          go_wp2_with fail
          go_quiet (fail)
          go_wp2
          go_ret
          exact ⟨by rw [R.out]; rfl, WZ.out _⟩
        · have N2 := Lib.hid (NX.out (by rw [FT.out, decide_eq_false hc]; rfl))
          have d1 : decide (t < m) = false := decide_eq_false hc
          clear NX
          go_wp2_with fail
          go_quiet (fail)
          go_wp2
          exact ⟨⟨k + 1, by omega, by go_num, N2, Lib.hid (WY.out _)⟩, by simp [intOf]; omega⟩
    have hk0 : (0 : Int) ≤ (k : Int) := by omega
    have hk1 : (k : Int) < (ps.length : Int) := by omega
    obtain ⟨gc, _, f1, _, _, z0, _⟩ := (Z.out.below BW.out).spot (k := k) (by rw [HL.out]; exact hlt)
    simp only [Value.slice.injEq] at f1
    obtain ⟨rfl, -, rfl⟩ := f1
    obtain ⟨gp, _, f1, _, _, p0, _⟩ := (P.out.below BW.out).spot hlt
    simp only [Value.slice.injEq] at f1
    obtain ⟨rfl, -, rfl⟩ := f1
    have gA : ∀ (zs : List Int) t (ht : t < zs.length), zs[t] = zs.getD t 0 := fun zs t ht => by rw [List.getD_eq_getElem?_getD, List.getElem?_eq_getElem ht]; rfl
    rw [gA] at z0 p0
    have AT := Lib.hid (show castAt ls ps cs k = (inB (cs.getD k 0) 0 ((ls.length : Int) - 1) && knowsB (ls.getD (cs.getD k 0).toNat RPlayer.zero) (ps.getD k 0)) from rfl)
    have RX := Lib.hid (RN1.out k hlt)
    have NX := Lib.hid (show castAt ls ps cs k = true → ∀ i, i < k + 1 → castAt ls ps cs i = true from fun e i hi => by
      rcases (by omega : i < k ∨ i = k) with q | rfl
      · exact HN.out i q
      · exact e)
    have hbs := BW.out.size
    have ew : IntKind.i64.wrap ((ls.length : Int) - 1) = (ls.length : Int) - 1 := IntWalk.i64_in _ (by omega)
    generalize cs.getD k 0 = y at z0 AT
    generalize ps.getD k 0 = z at p0 AT
    cases hin : inB y 0 ((ls.length : Int) - 1) with
    | false =>
      have R := Lib.hid (RX.out (by rw [AT.out, hin]; rfl))
      have C1 := Lib.hid (fun W => (hin ▸ C0.out y 0 ((ls.length : Int) - 1) W : Calls Try.prog 48 #[.int .i64 y, .int .i64 0, .int .i64 ((ls.length : Int) - 1)] W fun e w' => e = .returned (.bool false) ∧ w' = W))
      have WY := Lib.hid (fun m => (below_drewN BW.out m : Below w.heap.size w (wr.drewN m)))
      clear hin NX AT gA
      go_wp2_with fail
      go_quiet (first | (go_at_call 48; refine Calls.quiet_of_same (C1.out _)))
      go_wp2
      go_ret
      exact ⟨by rw [R.out]; rfl, WY.out _⟩
    | true =>
      have C1 := Lib.hid (fun W => (hin ▸ C0.out y 0 ((ls.length : Int) - 1) W : Calls Try.prog 48 #[.int .i64 y, .int .i64 0, .int .i64 ((ls.length : Int) - 1)] W fun e w' => e = .returned (.bool true) ∧ w' = W))
      have hyr : 0 ≤ y ∧ y ≤ (ls.length : Int) - 1 := by simpa [inB] using hin
      obtain ⟨q, rfl⟩ := Int.eq_ofNat_of_zero_le hyr.1
      have hql : q < ls.length := by omega
      have hq0 : (0 : Int) ≤ (q : Int) := by omega
      have hq1 : (q : Int) < (ls.length : Int) := by omega
      obtain ⟨g, _, A1, c1, f1, -, ⟨x0, x1⟩, o1, -⟩ := (O.out.below BW.out).spot hql
      simp only [Value.slice.injEq] at f1
      obtain ⟨rfl, -, rfl⟩ := f1
      rw [Int.toNat_natCast, getP hql] at AT
      have KN := Lib.hid (fun W (hb : Below wr.heap.size wr W) => specKno ls[q] (.slice A1 ls[q].f0.length c1) z b W (o1.below hb) (HR.out q hql))
      generalize ls[q].f0.length = n1 at x0 KN
      generalize ls[q].f1 = t1 at x1 KN
      have XC := Lib.hid (show wr.cell? ⟨gc, k, none⟩ = some (.int .i64 (q : Int)) ∧ wr.cell? ⟨gp, k, none⟩ = some (.int .i64 z) ∧ wr.cell? ⟨g, q * 2, none⟩ = some (.slice A1 n1 c1) ∧ wr.cell? ⟨g, q * 2 + 1, none⟩ = some (.int .i64 t1) from ⟨z0, p0, x0, x1⟩)
      clear hin hyr o1 gA
      cases hkb : knowsB ls[q] z with
      | false =>
        have R := Lib.hid (RX.out (by rw [AT.out, hkb, Bool.and_false]))
        rw [hkb] at KN
        clear NX AT hkb
        go_wp2_with fail
        go_region_held3 (fun W => W.cell? ⟨gc, k, none⟩ = some (.int .i64 (q : Int)) ∧ W.cell? ⟨gp, k, none⟩ = some (.int .i64 z) ∧ W.cell? ⟨g, q * 2, none⟩ = some (.slice A1 n1 c1) ∧ W.cell? ⟨g, q * 2 + 1, none⟩ = some (.int .i64 t1))
          (first | exact XC.out | exact X2.out)
          (first | (go_at_call 48; refine (C1.out _).mono ?_; rintro e w3 ⟨rfl, rfl⟩) | (go_at_call 49; refine (KN.out _ (Below.refl _ _).drew).mono ?_; rintro e w2 ⟨rfl, b2⟩; have b3 := undrew b2; have X2 := Lib.hid (show _ ∧ _ ∧ _ ∧ _ from ⟨cell_below XC.out.1 b3, cell_below XC.out.2.1 b3, cell_below XC.out.2.2.1 b3, cell_below XC.out.2.2.2 b3⟩)))
        have B2 := Lib.hid (BW.out.trans ((undrew b2).mono hbs))
        clear b2 b3 XC X2
        go_wp2
        go_ret
        exact ⟨by rw [R.out]; rfl, B2.out⟩
      | true =>
        have N2 := Lib.hid (NX.out (by rw [AT.out, hkb, Bool.and_true]; simp [inB]; omega))
        rw [hkb] at KN
        clear NX AT hkb
        go_wp2_with fail
        go_region_held3 (fun W => W.cell? ⟨gc, k, none⟩ = some (.int .i64 (q : Int)) ∧ W.cell? ⟨gp, k, none⟩ = some (.int .i64 z) ∧ W.cell? ⟨g, q * 2, none⟩ = some (.slice A1 n1 c1) ∧ W.cell? ⟨g, q * 2 + 1, none⟩ = some (.int .i64 t1))
          (first | exact XC.out | exact X2.out)
          (first | (go_at_call 48; refine (C1.out _).mono ?_; rintro e w3 ⟨rfl, rfl⟩) | (go_at_call 49; refine (KN.out _ (Below.refl _ _).drew).mono ?_; rintro e w2 ⟨rfl, b2⟩; have b3 := undrew b2; have X2 := Lib.hid (show _ ∧ _ ∧ _ ∧ _ from ⟨cell_below XC.out.1 b3, cell_below XC.out.2.1 b3, cell_below XC.out.2.2.1 b3, cell_below XC.out.2.2.2 b3⟩)))
        have B2 := Lib.hid (BW.out.trans ((undrew b2).mono hbs))
        clear b2 b3 XC X2
        go_wp2
        exact ⟨⟨k + 1, by omega, by go_num, N2, B2⟩, by simp [intOf]; omega⟩
end Go.Proofs.Ytanlfkkmnnjpeaa
