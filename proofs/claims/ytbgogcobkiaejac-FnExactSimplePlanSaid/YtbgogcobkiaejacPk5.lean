/- Texts of this seat laid together, each with its own first sentence below: ParI LstU CcnM CueF. -/
import Derived.Test.YtbgogcobkiaejacPk4
import Derived.Test.YtbgogcobkiaejacPk3
import Derived.Deep.RegionHeld3
import Derived.BigQuiet
/- Part of a row of numbers (from a place on) appended behind an own row; a row of one number. Condition: the part's cells can be read. -/
namespace Go.Proofs.Ytbgogcobkiaejac
set_option linter.unusedVariables false
set_option linter.unusedSimpArgs false
open Go.RowKit

/-- The value x leads to the numbers ys, wherever they begin. -/
def PartI (w : World) (x : Value) (ys : List Int) : Prop := ∃ ad c, x = .slice (some ad) ys.length c ∧ ∀ j u, (ys.map intV)[j]? = some u → w.cell? (ad.add j) = some u
theorem PartI.below {w w' : World} {x : Value} {ys : List Int} (h : PartI w x ys) (hb : Below w.heap.size w w') : PartI w' x ys := by
  obtain ⟨ad, c, e, hc⟩ := h
  exact ⟨ad, c, e, fun j u hu => cell_below (hc j u hu) hb⟩
theorem PartI.kept {w w' : World} {x : Value} {ys : List Int} {row : Option Nat} (h : PartI w x ys) (hg : w.grownBy w' row) (hne : x.ownBlock = none ∨ x.ownBlock ≠ row) : PartI w' x ys := by
  obtain ⟨ad, c, rfl, hc⟩ := h
  refine ⟨ad, c, rfl, fun j u hu => hg.cell (hc j u hu) ?_⟩
  rcases hne with h | h
  · cases h
  · have e : (ad.add j).block = ad.block := by unfold Addr.add; split <;> rfl
    rw [e]
    exact h
theorem addr_shift (g o j : Nat) : ((⟨g, o, none⟩ : Addr).add j) = ⟨g, o + j, none⟩ := by unfold Addr.add; split <;> simp_all
/-- The first k numbers of an own row. -/
theorem part_low {w : World} {base g n c k : Nat} {zs : List Int} (h : OwnI w base (.slice (some ⟨g, 0, none⟩) n c) zs) (hk : k ≤ zs.length) : OwnI w base (.slice (some ⟨g, 0, none⟩) k c) (zs.take k) := by
  obtain ⟨h1, h2⟩ := h
  rcases h2 with ⟨h3, _⟩ | ⟨g', cap, cur, e, hb, hg, hnc, hcm, hcs, htake⟩
  · simp at h3
  · simp only [Value.slice.injEq, Option.some.injEq, Addr.mk.injEq, and_true, true_and] at e
    obtain ⟨rfl, hn, rfl⟩ := e
    have hl : (zs.take k).length = k := by rw [List.length_take]; omega
    refine ⟨by simp, .inr ⟨g, c, cur, by rw [hl], hb, hg, by omega, hcm, hcs, ?_⟩⟩
    rw [hl, List.map_take, ← htake, List.take_take]
    congr 1
    omega
/-- What stands from place k on. -/
theorem part_high {w : World} {base g n c k : Nat} {zs : List Int} {x : Value} (h : OwnI w base (.slice (some ⟨g, 0, none⟩) n c) zs) (hk : k ≤ zs.length) (c' : Nat) (hx : x = .slice (if c = k then some ⟨g, 0, none⟩ else some ⟨g, k, none⟩) (zs.length - k) c') : PartI w x (zs.drop k) := by
  replace hx : x = .slice (some (if c = k then ⟨g, 0, none⟩ else ⟨g, k, none⟩)) (zs.length - k) c' := by rw [hx]; split <;> rfl
  refine ⟨_, c', by rw [hx, List.length_drop], fun j u hu => ?_⟩
  rw [List.map_drop, List.getElem?_drop] at hu
  have hlt : k + j < zs.length := by
    rcases Nat.lt_or_ge (k + j) zs.length with q | q
    · exact q
    · rw [List.getElem?_eq_none (by simpa using q)] at hu; cases hu
  have hc : ¬ c = k := by
    obtain ⟨_, h2⟩ := h
    rcases h2 with ⟨h3, _⟩ | ⟨_, cap, _, e, _, _, hnc, _⟩
    · simp at h3
    · simp only [Value.slice.injEq, Option.some.injEq, Addr.mk.injEq, and_true, true_and] at e
      omega
  obtain ⟨g', _, e, _, _, z, _⟩ := h.spot hlt
  simp only [Value.slice.injEq, Option.some.injEq, Addr.mk.injEq, and_true, true_and] at e
  obtain ⟨rfl, -⟩ := e
  rw [if_neg hc, addr_shift, z]
  rw [List.getElem?_map, List.getElem?_eq_getElem hlt] at hu
  exact hu
theorem oneI (w : World) (base : Nat) (z : Int) (hb : base ≤ w.heap.size) : OwnI (w.alloc (.cells #[.int .i64 z] 3)) base (.slice (some ⟨w.heap.size, 0, none⟩) 1 1) [z] :=
  ⟨rfl, .inr ⟨w.heap.size, 1, #[.int .i64 z], rfl, hb, heap_alloc_new w _, Nat.le_refl _, by simp only [maxLen]; omega, rfl, rfl⟩⟩
theorem madeR {w w1 w2 : World} {base : Nat} {v : Value} {zs : List Int} (hb : Below base w w1) (hs : base ≤ w1.heap.size) (h : OwnI w1 base v zs) (hg : w1.grownBy w2 v.ownBlock) : Below base w w2 := hb.grown hg hs (fun k hk => (h.lt k hk).1)
section
variable {w : World} {o : Oper} {a : Act} {Q : Exit → Act → World → Prop}
theorem step_partI {ops : Array Oper} {K : Act → World → Prop} {E : Prop} (hgd : o.guard = none) (s y : Operand) (ho : o.op = .call { callee := .builtin .append, args := #[s, y], argTypes := #[26, 26] })
    (base : Nat) (v x : Value) (xs ys : List Int) (hs : a.eval s = v) (hy : a.eval y = x) (h1 : OwnI w base v xs) (h2 : PartI w x ys) (hl : xs.length + ys.length ≤ 4000000) (hB : base ≤ w.heap.size)
    (h : ∀ v' w', OwnI w' base v' (xs ++ ys) → w.grownBy w' v.ownBlock → (v'.ownBlock = v.ownBlock ∨ v'.ownBlock = some w.heap.size) → K (a.put o.dst v') w') :
    if Region.wanted o (yielded ops a.tmps) = true then Oper.wp Try.prog o a w K Q else E := by
  have hw : Region.wanted o (yielded ops a.tmps) = true := by simp [Region.wanted, hgd]
  rw [if_pos hw]
  obtain ⟨ad, c, rfl, hc⟩ := h2
  obtain ⟨i, hi, hz, hsz, hb⟩ := info_parts info_int
  obtain ⟨v', w', hrun, own, g1, _, hat⟩ := run_append_own_at (P := Try.prog) (w := w) base 26 o.type 3 i (.int .i64 0) 1 8 Try.underlying26 hi hz hsz hb rfl (by omega) v xs.length (xs.map intV) h1
    ad ys.length c (ys.map intV) (by simp) hc (intV_one ys) (by simp only [maxLen]; omega) (by omega) hB
  have e2 : OwnI w' base v' (xs ++ ys) := by
    unfold OwnI
    rw [List.length_append, List.map_append]
    exact own
  unfold Oper.wp execOp
  simp only [ho, resolve, invoke, builtin, Sem.run_bind, Sem.run_pure, Result.andThen_ok, List.map_toArray, List.map_cons, List.map_nil, hs, hy, hrun]
  exact h v' w' e2 g1 hat
end
end Go.Proofs.Ytbgogcobkiaejac

/- The contracts of spec.l11List and spec.DrawCues: what they draw are valid cues, seven at most, each naming earlier ones only. Condition: the bytes can be read. -/
namespace Go.Proofs.Ytbgogcobkiaejac
set_option linter.unusedVariables false
set_option linter.unusedSimpArgs false
open Go.RowKit

def GoodCue (k : Nat) (l : RCue) : Prop := (1 ≤ l.f0 ∧ l.f0 ≤ 9) ∧ Asc k l.f1 ∧ Asc 5 l.f2
def GoodTo (ls : List RCue) : Prop := ∀ k (h : k < ls.length), GoodCue k ls[k]
theorem good_more {ls : List RCue} {l : RCue} (h : GoodTo ls) (hl : GoodCue ls.length l) : GoodTo (ls ++ [l]) := fun k hk => by
  by_cases c : k < ls.length
  · rw [List.getElem_append_left c]; exact h k c
  · have e : k = ls.length := by simp at hk; omega
    subst e
    rw [List.getElem_append_right (Nat.le_refl _)]
    simpa using hl
/-- What the drawing keeps: the row drawn so far, the cursor. -/
structure LstK (w0 : World) (a : Option Addr) (n cap : Nat) (w : World) (b : Nat) (v : Value) (ls : List RCue) (W : World) : Prop where
  out : OwnCue W w.heap.size v ls
  st : St w0 a n cap W b
  gr : w.grownBy W (some b)
  le : w0.heap.size ≤ w.heap.size
  cu : b < w.heap.size
/-- The same while a cue is made, behind B. -/
structure RestK (w0 : World) (a : Option Addr) (n cap : Nat) (w : World) (b : Nat) (v : Value) (ls : List RCue) (B : Nat) (W : World) : Prop where
  out : Held 33 3 W w.heap.size B v ls.length (flatCue ls)
  st : St w0 a n cap W b
  gr : w.grownBy W (some b)
  le : w0.heap.size ≤ w.heap.size
  cu : b < w.heap.size
  bs : w.heap.size ≤ B
  sz : B ≤ W.heap.size
section
variable {w0 : World} {a : Option Addr} {n cap : Nat} {w : World} {b B g : Nat} {v v' : Value} {ls ls' : List RCue} {l l' : RCue} {W W' W2 : World} {row : Option Nat}
theorem LstK.draw (K : LstK w0 a n cap w b v ls W) (hs : St w0 a n cap W' b) (hg : W.grownBy W' (some b)) : LstK w0 a n cap w b v ls W' :=
  ⟨K.out.older hg (fun k hk => by have := Option.some.inj hk; have := K.cu; omega), hs, World.grownBy.trans K.gr hg, K.le, K.cu⟩
theorem LstK.born (K : LstK w0 a n cap w b v ls W) (z : Int) : RestK w0 a n cap w b v ls W.heap.size (W.alloc (.cells #[.int .i64 z, .slice none 0 0, .slice none 0 0] 33)) := by
  have hb : Below w.heap.size W (W.alloc (.cells #[.int .i64 z, .slice none 0 0, .slice none 0 0] 33)) := (Below.refl _ _).alloc K.gr.size _
  exact ⟨(held_of K.out).below ((Below.refl _ _).alloc (Nat.le_refl _) _), st_other K.st K.le K.cu hb, gr_other K.gr hb, K.le, K.cu, K.gr.size, by simp⟩
theorem RestK.draw (K : RestK w0 a n cap w b v ls B W) (hs : St w0 a n cap W' b) (hg : W.grownBy W' (some b)) : RestK w0 a n cap w b v ls B W' :=
  ⟨K.out.kept hg (fun k hk => by have := Option.some.inj hk; have := K.cu; omega), hs, World.grownBy.trans K.gr hg, K.le, K.cu, K.bs, Nat.le_trans K.sz hg.size⟩
/-- A write past B. -/
theorem RestK.step (K : RestK w0 a n cap w b v ls B W) (hg : W.grownBy W' row) (hr : ∀ k, row = some k → B ≤ k) : RestK w0 a n cap w b v ls B W' := by
  have hbs := K.bs
  have hb : Below w.heap.size W W' := (Below.refl _ _).grown hg K.gr.size (fun k hk => by have := hr k hk; omega)
  exact ⟨K.out.kept hg (fun k hk => .inr (hr k hk)), st_other K.st K.le K.cu hb, gr_other K.gr hb, K.le, K.cu, K.bs, Nat.le_trans K.sz hg.size⟩
theorem RestK.alloc (K : RestK w0 a n cap w b v ls B W) (o : Obj) : RestK w0 a n cap w b v ls B (W.alloc o) :=
  K.step (row := none) (grown_of_below ((Below.refl W.heap.size W).alloc (Nat.le_refl _) o) none) (fun k hk => by cases hk)
/-- The cue is appended. -/
theorem RestK.done (K : RestK w0 a n cap w b v ls B W) (ho : OwnCue W' w.heap.size v' ls') (hg : W.grownBy W' v.ownBlock) : LstK w0 a n cap w b v' ls' W' := by
  obtain ⟨vs, h, _, _⟩ := K.out
  have hb : Below w.heap.size W W' := (Below.refl _ _).grown hg K.gr.size (fun k hk => (h.lt k hk).1)
  exact ⟨ho, st_other K.st K.le K.cu hb, gr_other K.gr hb, K.le, K.cu⟩
/-- The first row of the cue in the box has grown. -/
theorem swap1 {W1 : World} {l : RCue} {u : Value} {zs : List Int} {A1 : Option Addr} {c1 : Nat} (h : OwnCue W B (.slice (some ⟨g, 0, none⟩) 1 1) [l]) (hx : W.cell? ⟨g, 1, none⟩ = some (.slice A1 l.f1.length c1)) (hb : Below W.heap.size W W1)
    (hg : W1.grownBy W2 (.slice A1 l.f1.length c1 : Value).ownBlock) (hu : OwnI W2 B u zs) (hat : u.ownBlock = (.slice A1 l.f1.length c1 : Value).ownBlock ∨ u.ownBlock = some W1.heap.size) :
    OwnCue (W2.setCell ⟨g, 1, none⟩ u) B (.slice (some ⟨g, 0, none⟩) 1 1) [{ l with f1 := zs }] ∧ W2.grownBy (W2.setCell ⟨g, 1, none⟩ u) (some g) ∧ W2.cell? ⟨g, 1, none⟩ = some (.slice A1 l.f1.length c1) ∧ W2.frozen? ⟨g, 1, none⟩ = false := by
  obtain ⟨vs, h⟩ := h
  have hv : 1 < vs.length := by rw [h.len, flatCue_len]; simp
  obtain ⟨_, _, e1, _, x1, _⟩ := h.cell hv
  simp only [Value.slice.injEq, Option.some.injEq, Addr.mk.injEq, and_true, true_and] at e1
  obtain ⟨rfl, -⟩ := e1
  have e2 := Option.some.inj (x1.symm.trans hx)
  obtain ⟨s1, s2, s3, s4⟩ := h.swap hv hb (by rw [e2]; exact hg) hu (by rw [e2]; exact hat)
  exact ⟨⟨_, s1⟩, s2, by rw [s3, e2], s4⟩
theorem swap2 {W1 : World} {l : RCue} {u : Value} {zs : List Int} {A1 : Option Addr} {c1 : Nat} (h : OwnCue W B (.slice (some ⟨g, 0, none⟩) 1 1) [l]) (hx : W.cell? ⟨g, 2, none⟩ = some (.slice A1 l.f2.length c1)) (hb : Below W.heap.size W W1)
    (hg : W1.grownBy W2 (.slice A1 l.f2.length c1 : Value).ownBlock) (hu : OwnI W2 B u zs) (hat : u.ownBlock = (.slice A1 l.f2.length c1 : Value).ownBlock ∨ u.ownBlock = some W1.heap.size) :
    OwnCue (W2.setCell ⟨g, 2, none⟩ u) B (.slice (some ⟨g, 0, none⟩) 1 1) [{ l with f2 := zs }] ∧ W2.grownBy (W2.setCell ⟨g, 2, none⟩ u) (some g) ∧ W2.cell? ⟨g, 2, none⟩ = some (.slice A1 l.f2.length c1) ∧ W2.frozen? ⟨g, 2, none⟩ = false := by
  obtain ⟨vs, h⟩ := h
  have hv : 2 < vs.length := by rw [h.len, flatCue_len]; simp
  obtain ⟨_, _, e1, _, x1, _⟩ := h.cell hv
  simp only [Value.slice.injEq, Option.some.injEq, Addr.mk.injEq, and_true, true_and] at e1
  obtain ⟨rfl, -⟩ := e1
  have e2 := Option.some.inj (x1.symm.trans hx)
  obtain ⟨s1, s2, s3, s4⟩ := h.swap hv hb (by rw [e2]; exact hg) hu (by rw [e2]; exact hat)
  exact ⟨⟨_, s1⟩, s2, by rw [s3, e2], s4⟩
/-- The cue in the box: its cells, its rows. -/
theorem boxed (h : OwnCue W B (.slice (some ⟨g, 0, none⟩) 1 1) [l]) : ∃ A1 c1 A2 c2, (W.cell? ⟨g, 0, none⟩ = some (.int .i64 l.f0) ∧ W.cell? ⟨g, 1, none⟩ = some (.slice A1 l.f1.length c1) ∧ W.cell? ⟨g, 2, none⟩ = some (.slice A2 l.f2.length c2)) ∧ OwnI W B (.slice A1 l.f1.length c1) l.f1 ∧ OwnI W B (.slice A2 l.f2.length c2) l.f2 ∧
    ((.slice A1 l.f1.length c1 : Value).ownBlock = none ∨ (.slice A1 l.f1.length c1 : Value).ownBlock ≠ (.slice A2 l.f2.length c2 : Value).ownBlock) ∧ B ≤ g ∧ g < W.heap.size := by
  obtain ⟨vs, h⟩ := h
  have hl : vs.length = 3 := by rw [h.len, flatCue_len]; simp
  obtain ⟨_, _, e0, l0, x0, _⟩ := h.cell (t := 0) (by omega)
  obtain ⟨_, _, e1, _, x1, _⟩ := h.cell (t := 1) (by omega)
  obtain ⟨_, _, e2, _, x2, _⟩ := h.cell (t := 2) (by omega)
  simp only [Value.slice.injEq, Option.some.injEq, Addr.mk.injEq, and_true, true_and] at e0 e1 e2
  obtain ⟨rfl, -⟩ := e0
  obtain ⟨rfl, -⟩ := e1
  obtain ⟨rfl, -⟩ := e2
  have s0 := h.each 0 (by omega) (by rw [flatCue_len]; simp)
  have s1 := h.each 1 (by omega) (by rw [flatCue_len]; simp)
  have s2 := h.each 2 (by omega) (by rw [flatCue_len]; simp)
  have q1 : OwnI W B vs[1] l.f1 := s1
  have q2 : OwnI W B vs[2] l.f2 := s2
  have q0 : vs[0] = .int .i64 l.f0 := s0
  have ap := h.apart 1 2 (by omega) (by omega) (by omega)
  obtain ⟨A1, c1, y1⟩ := q1.slice
  obtain ⟨A2, c2, y2⟩ := q2.slice
  rw [y1] at x1 q1 ap
  rw [y2] at x2 q2 ap
  rw [q0] at x0
  exact ⟨A1, c1, A2, c2, ⟨x0, x1, x2⟩, q1, q2, ap, l0⟩
end
def LstPost (w0 : World) (a : Option Addr) (n cap : Nat) (w : World) (b : Nat) (e : Ending) (w' : World) : Prop :=
  ∃ (v : Value) (ls : List RCue), e = .returned v ∧ (1 ≤ ls.length ∧ ls.length ≤ 7) ∧ GoodTo ls ∧ LstK w0 a n cap w b v ls w'

set_option maxRecDepth 100000 in
set_option maxHeartbeats 3200000 in
theorem list_any (w0 : World) (a : Option Addr) (n cap : Nat) (z : List Int) (hr : IsRow .u8 w0 a n cap z) (w : World) (b : Nat) (hs : St w0 a n cap w b) :
    Calls Try.prog 36 #[.pointer (some ⟨b, 0, none⟩)] w (LstPost w0 a n cap w b) := by
  have BE := Lib.hid (fun m W h => below_any w0 a n cap z hr W b h m)
  have ON := Lib.hid (fun m W h => once_any w0 a n cap z hr W b h m)
  have hsz := hs.below.size
  have hlt := hs.cur.lt
  have K0 := Lib.hid (show LstK w0 a n cap w b (.slice (some ⟨w.heap.size, 0, none⟩) 0 0) [] (w.alloc (.cells #[] 33)) from
    ⟨emptyCue w w.heap.size w.heap.size #[] rfl (by omega) rfl, hs.alloc _, grown_of_below ((Below.refl w.heap.size w).alloc (Nat.le_refl _) _) _, hsz, hlt⟩)
  clear hr hs
  go_enter Try.func36, Try.ntmps36
  go_wp2_with fail
  refine (BE.out 7 _ K0.out.st).mono ?_
  rintro e w1 ⟨q, rfl, ⟨hq0, hq1, -⟩, st1, g1⟩
  have hq4 := hq1 (by omega)
  obtain ⟨q, rfl⟩ := Int.eq_ofNat_of_zero_le hq0
  have K1 := Lib.hid (K0.out.draw st1 g1)
  clear st1 g1 hq1 K0
  obtain ⟨N, hN⟩ : ∃ N : Nat, N = 1 + q := ⟨_, rfl⟩
  have e1 : IntKind.i64.wrap (1 + (q : Int)) = (N : Int) := by rw [IntWalk.i64_in _ (by omega)]; omega
  have hN7 : 1 ≤ N ∧ N ≤ 7 := by omega
  clear hq0 hq4 hN hsz hlt
  go_wp2_with fail
  go_loopw [3, 5] (fun ov kv wr => ∃ (ls : List RCue) (v : Value), v = ov ∧ ls.length ≤ N ∧ kv = .int .i64 (ls.length : Int) ∧ Hid (GoodTo ls) ∧ Hid (LstK w0 a n cap w b v ls wr)) (fun _ kv _ => N - (intOf kv).toNat)
  case atStart => exact ⟨[], _, rfl, by simp, rfl, Lib.hid (fun k hk => absurd hk (by simp)), K1⟩
  case round =>
    clear K1
    obtain ⟨ls, v, rfl, hj, rfl, HG, HK⟩ := hrel
    by_cases hlt : ls.length < N
    rotate_left
    · obtain rfl : N = ls.length := by omega
      obtain ⟨V, c, rfl⟩ := HK.out.out.slice
      go_wp2
      go_ret
      exact ⟨_, ls, rfl, hN7, HG.out, HK.out⟩
    have hk1 : (ls.length : Int) < (N : Int) := by omega
    obtain ⟨V, c, rfl⟩ := HK.out.out.slice
    go_wp2_with fail
    refine (BE.out 9 _ HK.out.st).mono ?_
    rintro e w2 ⟨y, rfl, ⟨hy0, hy1, -⟩, st2, g2⟩
    have hy9 := hy1 (by omega)
    have HK2 := Lib.hid (HK.out.draw st2 g2)
    have ey : IntKind.i64.wrap (1 + y) = 1 + y := IntWalk.i64_in _ (by omega)
    clear st2 g2 hy1 HK
    have R2 := Lib.hid (HK2.out.born (1 + y))
    have X2 := Lib.hid (boxCue w2 (1 + y) w2.heap.size (Nat.le_refl _))
    go_wp2_with fail
    go_loopw [7] (fun jv wx => ∃ (j : Nat) (l : RCue), j ≤ ls.length ∧ jv = .int .i64 (j : Int) ∧ Hid (l.f0 = 1 + y ∧ Asc (j : Int) l.f1 ∧ l.f2 = []) ∧ Hid (RestK w0 a n cap w b (.slice V ls.length c) ls w2.heap.size wx) ∧ Hid (OwnCue wx w2.heap.size (.slice (some ⟨w2.heap.size, 0, none⟩) 1 1) [l])) (fun jv _ => ls.length - (intOf jv).toNat)
    case atStart => exact ⟨0, ⟨1 + y, [], []⟩, by omega, rfl, Lib.hid ⟨rfl, asc_nil _, rfl⟩, R2, X2⟩
    case round =>
      clear R2 X2
      obtain ⟨j, l, hj, rfl, HF, HR, HX⟩ := hrel
      by_cases hjl : j < ls.length
      rotate_left
      · obtain rfl : j = ls.length := by omega
        have HF2 := Lib.hid (show l.f0 = 1 + y ∧ Asc (ls.length : Int) l.f1 ∧ Asc ((0 : Nat) : Int) l.f2 from ⟨HF.out.1, HF.out.2.1, by rw [HF.out.2.2]; exact asc_nil _⟩)
        clear HF hjl hj
        go_wp2_with fail
        go_loopw [8] (fun jv wx => ∃ (j : Nat) (l : RCue), j ≤ 5 ∧ jv = .int .i64 (j : Int) ∧ Hid (l.f0 = 1 + y ∧ Asc (ls.length : Int) l.f1 ∧ Asc (j : Int) l.f2) ∧ Hid (RestK w0 a n cap w b (.slice V ls.length c) ls w2.heap.size wx) ∧ Hid (OwnCue wx w2.heap.size (.slice (some ⟨w2.heap.size, 0, none⟩) 1 1) [l])) (fun jv _ => 5 - (intOf jv).toNat)
        case atStart => exact ⟨0, l, by omega, rfl, HF2, HR, HX⟩
        case round =>
          clear HF2 HR HX
          obtain ⟨j, l, hj, rfl, HF, HR, HX⟩ := hrel
          by_cases hjl : j < 5
          rotate_left
          · obtain rfl : j = 5 := by omega
            obtain ⟨A1, c1, A2, c2, ⟨x0, x1, x2⟩, o1, o2, a12, hg0, hg1⟩ := boxed HX.out
            have GL := Lib.hid (show GoodCue ls.length l from ⟨by have := HF.out.1; omega, HF.out.2.1, HF.out.2.2⟩)
            have O1 := Lib.hid o1
            have O2 := Lib.hid o2
            have hs3 := HR.out.sz
            have hb3 := HR.out.bs
            have OR := Lib.hid (oneCueRow wr l.f0 (.slice A1 l.f1.length c1) (.slice A2 l.f2.length c2) wr.heap.size (Nat.le_refl _))
            have SE := Lib.hid a12
            clear o1 o2 a12 HF HX
            go_wp2_with (
              at_builtin
              refine wpList_oneCue rfl (.tmp 47) (.tmp 49) rfl w.heap.size w2.heap.size wr.heap.size _ _ _ _ ls l rfl rfl (HR.out.alloc _).out hb3 ?_ (O1.out.alloc _) (O2.out.alloc _) SE.out OR.out ?_ ?_
              (simp; omega)
              (omega)
              intro v4 w4 o4 g4 hat4
              have K4 := Lib.hid ((HR.out.alloc _).done o4 g4)
              clear o4 g4 hat4)
            exact ⟨⟨ls ++ [l], _, rfl, by (rw [List.length_append]; exact hlt), by simp, Lib.hid (good_more HG.out GL.out), K4⟩, by simp [intOf]; omega⟩
          have hj1 : (j : Int) < 5 := by omega
          go_wp2_with fail
          refine (ON.out 3 _ HR.out.st).mono ?_
          rintro e w3 ⟨t, rfl, st3, g3⟩
          have R3 := Lib.hid (HR.out.draw st3 g3)
          have X3 := Lib.hid (HX.out.older g3 (fun k hk => by have := Option.some.inj hk; have := HR.out.cu; have := HR.out.bs; omega))
          clear st3 g3 HR HX
          cases t with
          | false =>
            go_wp2
            exact ⟨⟨j + 1, l, by omega, by go_num, Lib.hid ⟨HF.out.1, HF.out.2.1, asc_more HF.out.2.2⟩, R3, X3⟩, by simp [intOf]; omega⟩
          | true =>
            obtain ⟨A1, c1, A2, c2, ⟨x0, x1, x2⟩, o1, o2, a12, hg0, hg1⟩ := boxed X3.out
            have hl1 := asc_len HF.out.2.2
            have O1 := Lib.hid o2
            have NW := Lib.hid (oneI w3 w3.heap.size (j : Int) (Nat.le_refl _))
            have hs3 := R3.out.sz
            clear x0 x1 o1 o2 a12
            go_wp2_with (
              at_builtin
              refine wpList_rowsI rfl (.tmp 42) (.tmp 44) rfl w2.heap.size w3.heap.size _ _ l.f2 [(j : Int)] rfl rfl (O1.out.alloc _) NW.out ?_ ?_ ?_
              (simp; omega)
              (simp; omega)
              intro v4 w4 o4 g4 hat4
              obtain ⟨A4, c4, rfl⟩ := o4.slice
              obtain ⟨s4, h4, x4, f4⟩ := swap2 X3.out x2 ((Below.refl _ _).alloc (Nat.le_refl _) _) g4 o4 hat4
              have R4 := Lib.hid (((R3.out.alloc _).step g4 (fun k hk => (O1.out.lt k hk).1)).step h4 (fun k hk => by have := Option.some.inj hk; omega))
              have X4 := Lib.hid s4
              have e4 : (l.f2 ++ [(j : Int)]).length = l.f2.length + 1 := by simp
              rw [e4] at R4 X4
              clear s4 h4 g4 o4 hat4 x2 e4)
            exact ⟨⟨j + 1, { l with f2 := l.f2 ++ [(j : Int)] }, by omega, by go_num, Lib.hid ⟨HF.out.1, HF.out.2.1, asc_snoc HF.out.2.2 (by omega)⟩, R4, X4⟩, by simp [intOf]; omega⟩
      have hj1 : (j : Int) < (ls.length : Int) := by omega
      go_wp2_with fail
      refine (ON.out 4 _ HR.out.st).mono ?_
      rintro e w3 ⟨t, rfl, st3, g3⟩
      have R3 := Lib.hid (HR.out.draw st3 g3)
      have X3 := Lib.hid (HX.out.older g3 (fun k hk => by have := Option.some.inj hk; have := HR.out.cu; have := HR.out.bs; omega))
      clear st3 g3 HR HX
      cases t with
      | false =>
        go_wp2
        exact ⟨⟨j + 1, l, by omega, by go_num, Lib.hid ⟨HF.out.1, asc_more HF.out.2.1, HF.out.2.2⟩, R3, X3⟩, by simp [intOf]; omega⟩
      | true =>
        obtain ⟨A1, c1, A2, c2, ⟨x0, x1, x2⟩, o1, o2, a12, hg0, hg1⟩ := boxed X3.out
        have hl1 := asc_len HF.out.2.1
        have O1 := Lib.hid o1
        have NW := Lib.hid (oneI w3 w3.heap.size (j : Int) (Nat.le_refl _))
        have hs3 := R3.out.sz
        clear x0 x2 o1 o2 a12
        go_wp2_with (
          at_builtin
          refine wpList_rowsI rfl (.tmp 30) (.tmp 32) rfl w2.heap.size w3.heap.size _ _ l.f1 [(j : Int)] rfl rfl (O1.out.alloc _) NW.out ?_ ?_ ?_
          (simp; omega)
          (simp; omega)
          intro v4 w4 o4 g4 hat4
          obtain ⟨A4, c4, rfl⟩ := o4.slice
          obtain ⟨s4, h4, x4, f4⟩ := swap1 X3.out x1 ((Below.refl _ _).alloc (Nat.le_refl _) _) g4 o4 hat4
          have R4 := Lib.hid (((R3.out.alloc _).step g4 (fun k hk => (O1.out.lt k hk).1)).step h4 (fun k hk => by have := Option.some.inj hk; omega))
          have X4 := Lib.hid s4
          have e4 : (l.f1 ++ [(j : Int)]).length = l.f1.length + 1 := by simp
          rw [e4] at R4 X4
          clear s4 h4 g4 o4 hat4 x1 e4)
        exact ⟨⟨j + 1, { l with f1 := l.f1 ++ [(j : Int)] }, by omega, by go_num, Lib.hid ⟨HF.out.1, asc_snoc HF.out.2.1 (by omega), HF.out.2.2⟩, R4, X4⟩, by simp [intOf]; omega⟩

set_option maxRecDepth 100000 in
set_option maxHeartbeats 800000 in
theorem drawCues_any (a : Option Addr) (n cap : Nat) (z : List Int) (w : World) (hr : IsRow .u8 w a n cap z) (hn : n ≤ 1048576) :
    Calls Try.prog 11 #[.slice a n cap] w fun e w' => ∃ (v : Value) (ls : List RCue), e = .returned v ∧ OwnCue w' w.heap.size v ls ∧ (1 ≤ ls.length ∧ ls.length ≤ 7) ∧ GoodTo ls ∧ Below w.heap.size w w' := by
  have C1 := Lib.hid (new_any w a n cap z hr hn)
  have C2 := Lib.hid (fun w' b h => list_any w a n cap z hr w' b h)
  clear hr
  go_enter Try.func11, Try.ntmps11
  go_wp2_with fail
  refine C1.out.mono ?_
  rintro e w1 ⟨b, rfl, s1⟩
  have S1 := Lib.hid s1
  clear s1
  go_wp2_with fail
  refine (C2.out _ _ S1.out).mono ?_
  rintro e w2 ⟨v, ls, rfl, hl, hg, k2⟩
  obtain ⟨V, c, rfl⟩ := k2.out.slice
  have F := Lib.hid (And.intro (k2.out.mono S1.out.below.size) k2.st.below)
  have HG := Lib.hid hg
  clear k2 hg
  go_wp2
  go_ret
  exact ⟨_, ls, rfl, F.out.1, hl, HG.out, F.out.2⟩
end Go.Proofs.Ytbgogcobkiaejac

/- CountOrders as mathematics: the ways to every set of cues that are over, and how many they can be. No condition. -/
namespace Go.Proofs.Ytbgogcobkiaejac
set_option linter.unusedVariables false
set_option linter.unusedSimpArgs false
open Go.RowKit

/-- All that follows from set S by one cue more, the first k cues looked at. -/
def cntK (W : List Nat) (S : Nat) (arr : List Nat) : Nat → List Nat
  | 0 => arr
  | k + 1 => if freeB W S k = true then (cntK W S arr k).set (S ||| 1 <<< k) ((cntK W S arr k).getD (S ||| 1 <<< k) 0 + (cntK W S arr k).getD S 0) else cntK W S arr k
def cntS (W : List Nat) (n : Nat) : Nat → List Nat
  | 0 => (List.replicate (1 <<< n) 0).set 0 1
  | S + 1 => cntK W S (cntS W n S) n
def countOrders (ls : List RCue) : Int := if cuesOk ls = true ∧ ls.length ≤ 10 then (((cntS (waitSet ls) ls.length (1 <<< ls.length)).getD (1 <<< ls.length - 1) 0 : Nat) : Int) else -1
theorem cntK_len (W : List Nat) (S : Nat) (arr : List Nat) : ∀ k, (cntK W S arr k).length = arr.length := by
  intro k
  induction k with
  | zero => rfl
  | succ k ih => unfold cntK; split <;> simp [ih]
theorem cntS_len (W : List Nat) (n : Nat) : ∀ S, (cntS W n S).length = 1 <<< n := by
  intro S
  induction S with
  | zero => simp [cntS]
  | succ S ih => rw [cntS, cntK_len, ih]
/-- From how many sets something has come to set t already. -/
def recvB (S K t k : Nat) : Bool := t.testBit k && (decide (t ^^^ 1 <<< k < S) || (decide (t ^^^ 1 <<< k = S) && decide (k < K)))
def recvTo (S K t : Nat) : Nat → Nat
  | 0 => 0
  | k + 1 => recvTo S K t k + (if recvB S K t k = true then 1 else 0)
theorem recv_le (S K t : Nat) : ∀ m, recvTo S K t m ≤ m := by
  intro m
  induction m with
  | zero => exact Nat.le_refl _
  | succ m ih => unfold recvTo; split <;> omega
theorem recv_up {S K S' K' t : Nat} : ∀ m, (∀ k, k < m → recvB S K t k = true → recvB S' K' t k = true) → recvTo S K t m ≤ recvTo S' K' t m := by
  intro m
  induction m with
  | zero => intro _; exact Nat.le_refl _
  | succ m ih =>
    intro h
    have h1 := ih fun k hk => h k (by omega)
    unfold recvTo
    by_cases c : recvB S K t m = true
    · rw [if_pos c, if_pos (h m (by omega) c)]; omega
    · rw [if_neg c]; omega
theorem recv_one {S K t k0 : Nat} : ∀ m, k0 < m → (∀ k, k < m → recvB S K t k = true → recvB S (K + 1) t k = true) → recvB S K t k0 = false → recvB S (K + 1) t k0 = true → recvTo S K t m + 1 ≤ recvTo S (K + 1) t m := by
  intro m
  induction m with
  | zero => intro h; omega
  | succ m ih =>
    intro hk h h0 h1
    unfold recvTo
    rcases (by omega : k0 < m ∨ k0 = m) with q | rfl
    · have h2 := ih q (fun k hk => h k (by omega)) h0 h1
      by_cases c : recvB S K t m = true
      · rw [if_pos c, if_pos (h m (by omega) c)]; omega
      · rw [if_neg c]; omega
    · have h2 := recv_up (S := S) (K := K) (S' := S) (K' := K + 1) (t := t) k0 fun k hk => h k (by omega)
      rw [if_neg (by rw [h0]; simp), if_pos h1]
      omega
theorem or_xor {S K : Nat} (h : S.testBit K = false) : (S ||| 1 <<< K) ^^^ 1 <<< K = S := Nat.eq_of_testBit_eq fun j => by
  rw [Nat.testBit_xor, Nat.testBit_or, bit_one]
  by_cases c : K = j
  · subst c; rw [h]; simp
  · rw [decide_eq_false c]; simp
theorem or_lt {S K n : Nat} (hS : S < 1 <<< n) (hK : K < n) : S ||| 1 <<< K < 1 <<< n := by
  have h1 : 1 <<< K < 2 ^ n := by rw [Nat.shiftLeft_eq, Nat.one_mul]; exact Nat.pow_lt_pow_right (by omega) hK
  have e : 1 <<< n = 2 ^ n := by rw [Nat.shiftLeft_eq, Nat.one_mul]
  rw [e] at hS ⊢
  exact Nat.or_lt_two_pow hS h1
/-- No entry grows too large. -/
def Small (n S K : Nat) (arr : List Nat) : Prop := ∀ t, t < 1 <<< n → arr.getD t 0 ≤ if t = 0 then 1 else recvTo S K t n * 10 ^ (cntB t n - 1)
theorem cnt_pos {n t : Nat} (ht : t < 1 <<< n) (h0 : t ≠ 0) : 1 ≤ cntB t n := by
  refine Classical.byContradiction fun c => h0 ?_
  have hz : ∀ m, cntB t m = 0 → ∀ j, j < m → t.testBit j = false := by
    intro m
    induction m with
    | zero => intro _ j hj; omega
    | succ m ih =>
      intro h j hj
      unfold cntB at h
      by_cases q : t.testBit m = true
      · rw [if_pos q] at h; omega
      · rw [if_neg q] at h
        rcases (by omega : j < m ∨ j = m) with r | rfl
        · exact ih (by omega) j r
        · simpa using q
  refine Nat.eq_of_testBit_eq fun j => ?_
  rw [Nat.zero_testBit]
  by_cases q : j < n
  · exact hz n (by omega) j q
  · rw [Nat.shiftLeft_eq, Nat.one_mul] at ht
    exact Nat.testBit_lt_two_pow (Nat.lt_of_lt_of_le ht (Nat.pow_le_pow_right (by omega) (by omega)))
theorem small_ten {n S K t : Nat} {arr : List Nat} (hn : n ≤ 10) (h : Small n S K arr) (ht : t < 1 <<< n) : arr.getD t 0 ≤ 10 ^ cntB t n := by
  have q := h t ht
  by_cases c : t = 0
  · rw [if_pos c] at q
    exact Nat.le_trans q (Nat.pow_pos (by omega))
  · rw [if_neg c] at q
    have h1 := recv_le S K t n
    have h2 := cnt_pos ht c
    have e : 10 ^ cntB t n = 10 * 10 ^ (cntB t n - 1) := by
      rw [Nat.mul_comm, ← Nat.pow_succ]
      congr 1
      omega
    rw [e]
    exact Nat.le_trans q (Nat.mul_le_mul_right _ (by omega))
theorem cnt_le (s : Nat) : ∀ n, cntB s n ≤ n := by
  intro n
  induction n with
  | zero => exact Nat.le_refl _
  | succ n ih => unfold cntB; split <;> omega
theorem small_max {n S K t : Nat} {arr : List Nat} (hn : n ≤ 10) (h : Small n S K arr) (ht : t < 1 <<< n) : arr.getD t 0 ≤ 10000000000 := by
  have h1 := small_ten hn h ht
  have h2 := cnt_le t n
  exact Nat.le_trans h1 (Nat.le_trans (Nat.pow_le_pow_right (by omega) (show cntB t n ≤ 10 by omega)) (by decide))
theorem small_next {n S K : Nat} {W arr : List Nat} (hn : n ≤ 10) (hl : arr.length = 1 <<< n) (hS : S < 1 <<< n) (hK : K < n) (h : Small n S K arr) :
    Small n S (K + 1) (if freeB W S K = true then arr.set (S ||| 1 <<< K) (arr.getD (S ||| 1 <<< K) 0 + arr.getD S 0) else arr) := by
  have up : ∀ t k, recvB S K t k = true → recvB S (K + 1) t k = true := fun t k hk => by
    unfold recvB at hk ⊢
    simp only [Bool.and_eq_true, Bool.or_eq_true, decide_eq_true_eq] at hk ⊢
    refine ⟨hk.1, ?_⟩
    rcases hk.2 with q | ⟨q1, q2⟩
    · exact .inl q
    · exact .inr ⟨q1, by omega⟩
  have mono : ∀ t, recvTo S K t n ≤ recvTo S (K + 1) t n := fun t => recv_up n fun k _ hk => up t k hk
  split
  · next c =>
    have hf : S.testBit K = false := by
      unfold freeB at c
      simp only [Bool.and_eq_true, Bool.not_eq_true'] at c
      exact c.1
    intro t ht
    by_cases e : t = S ||| 1 <<< K
    · subst e
      have hT := or_lt hS hK
      have b : (S ||| 1 <<< K).testBit K = true := by rw [Nat.testBit_or, bit_one]; simp
      have hne : S ||| 1 <<< K ≠ 0 := fun z => by rw [z] at b; simp at b
      rw [List.getD_eq_getElem?_getD, List.getElem?_set_self (by rw [hl]; exact hT), if_neg hne]
      show arr.getD (S ||| 1 <<< K) 0 + arr.getD S 0 ≤ _
      have h1 := h _ hT
      rw [if_neg hne] at h1
      have h2 := small_ten hn h hS
      have hc : cntB (S ||| 1 <<< K) n - 1 = cntB S n := by rw [cnt_or S K hf n, if_pos hK]; rfl
      rw [hc] at h1 ⊢
      have h3 := recv_one (S := S) (K := K) (t := S ||| 1 <<< K) (k0 := K) n hK (fun k _ hk => up _ k hk) (by unfold recvB; rw [or_xor hf, b]; simp) (by unfold recvB; rw [or_xor hf, b]; simp)
      have h4 : (recvTo S K (S ||| 1 <<< K) n + 1) * 10 ^ cntB S n ≤ recvTo S (K + 1) (S ||| 1 <<< K) n * 10 ^ cntB S n := Nat.mul_le_mul_right _ h3
      rw [Nat.add_mul, Nat.one_mul] at h4
      omega
    · rw [List.getD_eq_getElem?_getD, List.getElem?_set_ne (fun q => e q.symm), ← List.getD_eq_getElem?_getD]
      refine Nat.le_trans (h t ht) ?_
      split
      · exact Nat.le_refl _
      · exact Nat.mul_le_mul_right _ (mono t)
  · intro t ht
    refine Nat.le_trans (h t ht) ?_
    split
    · exact Nat.le_refl _
    · exact Nat.mul_le_mul_right _ (mono t)
theorem small_row {n S : Nat} {arr : List Nat} (h : Small n S n arr) : Small n (S + 1) 0 arr := fun t ht => by
  refine Nat.le_trans (h t ht) ?_
  split
  · exact Nat.le_refl _
  · refine Nat.mul_le_mul_right _ (recv_up n fun k _ hk => ?_)
    unfold recvB at hk ⊢
    simp only [Bool.and_eq_true, Bool.or_eq_true, decide_eq_true_eq] at hk ⊢
    exact ⟨hk.1, .inl (by rcases hk.2 with q | ⟨q, _⟩ <;> omega)⟩
theorem cnt_small (W : List Nat) {n : Nat} (hn : n ≤ 10) : ∀ S, S ≤ 1 <<< n → Small n S 0 (cntS W n S) ∧ (S < 1 <<< n → ∀ K, K ≤ n → Small n S K (cntK W S (cntS W n S) K)) := by
  have row : ∀ S, S < 1 <<< n → Small n S 0 (cntS W n S) → ∀ K, K ≤ n → Small n S K (cntK W S (cntS W n S) K) := by
    intro S hS h K
    induction K with
    | zero => intro _; exact h
    | succ K ih =>
      intro hK
      exact small_next (W := W) hn (by rw [cntK_len, cntS_len]) hS (by omega) (ih (by omega))
  intro S
  induction S with
  | zero =>
    intro _
    have h : Small n 0 0 (cntS W n 0) := fun t ht => by
      unfold cntS
      by_cases c : t = 0
      · subst c
        rw [if_pos rfl, List.getD_eq_getElem?_getD, List.getElem?_set_self (by rw [List.length_replicate]; exact ht)]
        exact Nat.le_refl _
      · rw [List.getD_eq_getElem?_getD, List.getElem?_set_ne (fun q => c q.symm), List.getElem?_replicate]
        split <;> simp
    exact ⟨h, fun hS => row 0 hS h⟩
  | succ S ih =>
    intro hS
    obtain ⟨_, h2⟩ := ih (by omega)
    have h : Small n (S + 1) 0 (cntS W n (S + 1)) := small_row (h2 (by omega) n (Nat.le_refl _))
    exact ⟨h, fun hS => row _ hS h⟩
end Go.Proofs.Ytbgogcobkiaejac

/- What holds of cues that each name earlier ones only, as mathematics: FnCues' tests. No condition. -/
namespace Go.Proofs.Ytbgogcobkiaejac
set_option linter.unusedVariables false
set_option linter.unusedSimpArgs false
open Go.RowKit

theorem Way.down {E : Nat → Nat → Prop} {M i k : Nat} (he : ∀ i k, E i k → k < i) (h : Way E M i k) : k < i := by
  induction h with
  | one h => exact he _ _ h
  | cons h _ _ ih => have := he _ _ h; omega
theorem good_names {ls : List RCue} (h : GoodTo ls) : ∀ i k, Names ls i k → k < i := by
  rintro i k ⟨_, hi, j, hj, e⟩
  have := asc_get (h i hi).2.1 hj
  omega
theorem circ_none {ls : List RCue} (h : ∀ k, k < ls.length → ((waitSet ls).getD k 0).testBit k = false) : ∀ n, n ≤ ls.length → circTo ls n = [] := by
  intro n
  induction n with
  | zero => intro _; rfl
  | succ n ih =>
    intro hn
    unfold circTo
    rw [h n (by omega), if_neg (by simp)]
    exact ih (by omega)
theorem good_ok {ls : List RCue} (h : GoodTo ls) (hl : 1 ≤ ls.length ∧ ls.length ≤ 7) : cuesOk ls = true := by
  have hn : inB (ls.length : Int) 1 12 = true := by simp [inB]; omega
  rw [cuesOk_all hn (fun k hk => ?_)]
  · have hc : circleIn ls = [] := by
      unfold circleIn
      rw [if_pos (by omega)]
      refine circ_none (fun k hk => ?_) _ (Nat.le_refl _)
      cases c : ((waitSet ls).getD k 0).testBit k with
      | false => rfl
      | true =>
        have := Way.down (good_names h) ((wait_bit ls hk).1 c)
        omega
    rw [hc]
    rfl
  · obtain ⟨⟨a, b⟩, c, d⟩ := h k hk
    unfold cueFine
    rw [asc_rising c (show (k : Int) ≤ (ls.length : Int) - 1 + 1 by omega), asc_rising d (show (5 : Int) ≤ 6 + 1 by omega)]
    have e : inB ls[k].f0 1 50 = true := by simp [inB]; omega
    rw [e]
    rfl
/-- Which cue comes at place m, and what is over by then. -/
def pk (ls : List RCue) (m : Nat) : Nat := (nextTo (waitSet ls) (ordTo (waitSet ls) ls.length m).2 ls.length).toNat
def overAt (ls : List RCue) (m : Nat) : Nat := (ordTo (waitSet ls) ls.length m).2
theorem over_next (ls : List RCue) (m : Nat) : overAt ls (m + 1) = overAt ls m ||| 1 <<< pk ls m := rfl
section
variable {ls : List RCue} (hok : cuesOk ls = true)
include hok
theorem pk_free {m : Nat} (hm : m < ls.length) : pk ls m < ls.length ∧ nextTo (waitSet ls) (overAt ls m) ls.length = (pk ls m : Int) ∧ freeB (waitSet ls) (overAt ls m) (pk ls m) = true := by
  obtain ⟨k, h1, h2, h3⟩ := (ord_at hok m (by omega)).2 hm
  have e : pk ls m = k := by unfold pk; rw [h2, Int.toNat_natCast]
  rw [e]
  exact ⟨h1, h2, h3⟩
theorem ord_list : ∀ m, m ≤ ls.length → (ordTo (waitSet ls) ls.length m).1 = (List.range m).map fun j => (pk ls j : Int) := by
  intro m
  induction m with
  | zero => intro _; rfl
  | succ m ih =>
    intro hm
    rw [ordTo, ih (by omega), List.range_succ, List.map_append]
    congr 1
    have := (pk_free hok (m := m) (by omega)).2.1
    unfold overAt at this
    rw [this]
    rfl
theorem order_at {m : Nat} (hm : m < ls.length) : (cueOrder ls)[m]? = some (pk ls m : Int) := by
  unfold cueOrder
  rw [if_pos hok, ord_list hok _ (Nat.le_refl _)]
  simp [hm]
theorem order_len : (cueOrder ls).length = ls.length := by
  unfold cueOrder
  rw [if_pos hok, ord_len]
theorem over_mem {m : Nat} (hm : m ≤ ls.length) (j : Nat) : (overAt ls m).testBit j = true ↔ ∃ q, q < m ∧ pk ls q = j := by
  unfold overAt
  rw [(ord_at hok m hm).1.mem, ord_list hok m hm, List.mem_map]
  constructor
  · rintro ⟨q, h1, h2⟩
    exact ⟨q, List.mem_range.1 h1, by omega⟩
  · rintro ⟨q, h1, h2⟩
    exact ⟨q, List.mem_range.2 h1, by omega⟩
theorem pk_new {q m : Nat} (hm : m < ls.length) (hq : q < m) : pk ls q ≠ pk ls m := fun e => by
  have h1 := (over_mem hok (m := m) (by omega) (pk ls m)).2 ⟨q, hq, e⟩
  have h2 := (pk_free hok hm).2.2
  unfold freeB at h2
  rw [h1] at h2
  cases h2
theorem pk_inj {q m : Nat} (hq : q < ls.length) (hm : m < ls.length) (e : pk ls q = pk ls m) : q = m := by
  rcases Nat.lt_trichotomy q m with h | h | h
  · exact absurd e (pk_new hok hm h)
  · exact h
  · exact absurd e.symm (pk_new hok hq h)
omit hok in
theorem cnt_lt {s i : Nat} (h : s.testBit i = false) : ∀ n, i < n → cntB s n < n := by
  intro n
  induction n with
  | zero => intro h; omega
  | succ n ih =>
    intro hi
    have := cnt_le s n
    unfold cntB
    rcases (by omega : i < n ∨ i = n) with q | rfl
    · have := ih q
      split <;> omega
    · rw [h, if_neg (by simp)]
      omega
theorem over_all {i : Nat} (hi : i < ls.length) : (overAt ls ls.length).testBit i = true := by
  cases c : (overAt ls ls.length).testBit i with
  | true => rfl
  | false =>
    have := cnt_lt c ls.length hi
    have h : cntB (overAt ls ls.length) ls.length = ls.length := (ord_at hok _ (Nat.le_refl _)).1.cnt
    omega
theorem pk_all {i : Nat} (hi : i < ls.length) : ∃ m, m < ls.length ∧ pk ls m = i := (over_mem hok (Nat.le_refl _) i).1 (over_all hok hi)
theorem over_low {m j : Nat} (hm : m ≤ ls.length) (h : (overAt ls m).testBit j = true) : j < ls.length := (ord_at hok m hm).1.low j h
theorem over_full : overAt ls ls.length = 2 ^ ls.length - 1 := Nat.eq_of_testBit_eq fun j => by
  rw [Nat.testBit_two_pow_sub_one]
  by_cases c : j < ls.length
  · rw [over_all hok c, decide_eq_true c]
  · rw [decide_eq_false c]
    cases q : (overAt ls ls.length).testBit j with
    | false => rfl
    | true => exact absurd (over_low hok (Nat.le_refl _) q) c
theorem over_lt {m : Nat} (hm : m ≤ ls.length) : overAt ls m < 2 ^ ls.length := small_of fun _ h => over_low hok hm h
/-- The places, as the law sets them down. -/
def placeTo (ls : List RCue) : Nat → List Nat
  | 0 => List.replicate ls.length 0
  | k + 1 => (placeTo ls k).set (pk ls k) k
omit hok in
theorem place_len (k : Nat) : (placeTo ls k).length = ls.length := by
  induction k with
  | zero => simp [placeTo]
  | succ k ih => rw [placeTo, List.length_set, ih]
theorem place_at : ∀ k, k ≤ ls.length → ∀ m, m < k → (placeTo ls k).getD (pk ls m) 0 = m := by
  intro k
  induction k with
  | zero => intro _ m hm; omega
  | succ k ih =>
    intro hk m hm
    have hp := (pk_free hok (m := k) (by omega)).1
    rw [placeTo, List.getD_eq_getElem?_getD]
    rcases (by omega : m < k ∨ m = k) with q | rfl
    · rw [List.getElem?_set_ne (pk_new hok (by omega) q).symm, ← List.getD_eq_getElem?_getD]
      exact ih (by omega) m q
    · rw [List.getElem?_set_self (by rw [place_len]; exact hp)]
      rfl
theorem place_lt {i : Nat} (hi : i < ls.length) : (placeTo ls ls.length).getD i 0 < ls.length := by
  obtain ⟨m, hm, rfl⟩ := pk_all hok hi
  rw [place_at hok _ (Nat.le_refl _) m hm]
  exact hm
theorem waits_bit {i k : Nat} (hi : i < ls.length) (hk : k < ls.length) : waitsFor ls (i : Int) (k : Int) = ((waitSet ls).getD i 0).testBit k := by
  unfold waitsFor
  have e1 : inB (i : Int) 0 ((ls.length : Int) - 1) = true := by simp [inB]; omega
  have e2 : inB (k : Int) 0 ((ls.length : Int) - 1) = true := by simp [inB]; omega
  rw [hok, e1, e2]
  simp
theorem waits_place {i k : Nat} (hi : i < ls.length) (hk : k < ls.length) (h : waitsFor ls (i : Int) (k : Int) = true) :
    (placeTo ls ls.length).getD k 0 < (placeTo ls ls.length).getD i 0 ∧ waitsFor ls (k : Int) (i : Int) = false := by
  obtain ⟨hn, _, hc⟩ := cuesOk_has hok
  have hcc : circTo ls ls.length = [] := by unfold circleIn at hc; rwa [if_pos hn.2] at hc
  rw [waits_bit hok hi hk] at h
  rw [waits_bit hok hk hi]
  constructor
  · obtain ⟨m, hm, rfl⟩ := pk_all hok hi
    have hf := (pk_free hok hm).2.2
    unfold freeB at hf
    simp only [Bool.and_eq_true, decide_eq_true_eq] at hf
    have hb : (overAt ls m).testBit k = true := by
      rw [← hf.2, Nat.testBit_or, h]
      rfl
    obtain ⟨q, hq, rfl⟩ := (over_mem hok (by omega) k).1 hb
    rw [place_at hok _ (Nat.le_refl _) q (by omega), place_at hok _ (Nat.le_refl _) m hm]
    exact hq
  · cases c : ((waitSet ls).getD k 0).testBit i with
    | false => rfl
    | true =>
      have t := (wait_bit ls hi).2 (((wait_bit ls hi).1 h).trans hk ((wait_bit ls hk).1 c))
      rw [no_circle _ hcc i hi] at t
      cases t
theorem waits_after {i j : Nat} (hi : i < ls.length) (hj : j < ls[i].f1.length) : waitsFor ls (i : Int) (ls[i].f1[j]) = true := by
  obtain ⟨_, hf, _⟩ := cuesOk_has hok
  have h1 := hf i hi
  unfold cueFine at h1
  simp only [Bool.and_eq_true] at h1
  have h2 := (rise_iff _ _ _).1 h1.2.1 j hj
  unfold riseAt at h2
  simp only [Bool.and_eq_true] at h2
  have e : ls[i].f1.getD j 0 = ls[i].f1[j] := by rw [List.getD_eq_getElem?_getD, List.getElem?_eq_getElem hj]; rfl
  rw [e] at h2
  have h3 : 0 ≤ ls[i].f1[j] ∧ ls[i].f1[j] ≤ (ls.length : Int) - 1 := by simpa [inB] using h2.1
  obtain ⟨k, hk⟩ := Int.eq_ofNat_of_zero_le h3.1
  have hkl : k < ls.length := by omega
  rw [hk, waits_bit hok hi hkl, wait_bit ls hi]
  exact .one ⟨hkl, hi, j, hj, by rw [e, hk]⟩
omit hok in
theorem free_mem : ∀ n, n ≤ ls.length → ∀ i : Nat, (i : Int) ∈ freeTo ls n ↔ i < n ∧ (ls.getD i RCue.zero).f1.length = 0 := by
  intro n
  induction n with
  | zero => intro _ i; simp [freeTo]
  | succ n ih =>
    intro hn i
    unfold freeTo
    split
    · next c =>
      rw [List.mem_append, List.mem_singleton, ih (by omega)]
      constructor
      · rintro (⟨h1, h2⟩ | h)
        · exact ⟨by omega, h2⟩
        · have e : i = n := by omega
          exact ⟨by omega, by rw [e]; exact c⟩
      · rintro ⟨h1, h2⟩
        rcases (by omega : i < n ∨ i = n) with q | q
        · exact .inl ⟨q, h2⟩
        · exact .inr (by omega)
    · next c =>
      rw [ih (by omega)]
      exact ⟨fun ⟨h1, h2⟩ => ⟨by omega, h2⟩, fun ⟨h1, h2⟩ => ⟨by
        rcases (by omega : i < n ∨ i = n) with q | rfl
        · exact q
        · exact absurd h2 c, h2⟩⟩
theorem free_has {i : Nat} (hi : i < ls.length) : (i : Int) ∈ freeCues ls ↔ ls[i].f1.length = 0 := by
  unfold freeCues
  rw [if_pos hok, free_mem _ (Nat.le_refl _), List.getD_eq_getElem?_getD, List.getElem?_eq_getElem hi]
  exact ⟨fun h => h.2, fun h => ⟨hi, h⟩⟩
end
theorem free_some {ls : List RCue} (h : GoodTo ls) (hl : 1 ≤ ls.length ∧ ls.length ≤ 7) : 1 ≤ (freeCues ls).length := by
  have h0 := asc_len (h 0 (by omega)).2.1
  have m := (free_has (good_ok h hl) (i := 0) (by omega)).2 (by omega)
  exact List.length_pos_of_mem m
/-- A step of the count makes no entry less. -/
theorem cntK_up (W : List Nat) (S : Nat) (arr : List Nat) (t : Nat) : ∀ k k', k ≤ k' → (cntK W S arr k).getD t 0 ≤ (cntK W S arr k').getD t 0 := by
  have one : ∀ k, (cntK W S arr k).getD t 0 ≤ (cntK W S arr (k + 1)).getD t 0 := fun k => by
    rw [cntK]
    split
    · by_cases c : S ||| 1 <<< k = t
      · subst c
        by_cases q : (S ||| 1 <<< k) < (cntK W S arr k).length
        · rw [List.getD_eq_getElem?_getD (l := List.set _ _ _), List.getElem?_set_self q]
          exact Nat.le_add_right _ _
        · rw [List.set_eq_of_length_le (by omega)]
          exact Nat.le_refl _
      · rw [List.getD_eq_getElem?_getD (l := List.set _ _ _), List.getElem?_set_ne c, ← List.getD_eq_getElem?_getD]
        exact Nat.le_refl _
    · exact Nat.le_refl _
  intro k k' h
  induction k' with
  | zero => rw [Nat.le_zero.1 h]; exact Nat.le_refl _
  | succ k' ih =>
    rcases (by omega : k ≤ k' ∨ k = k' + 1) with q | rfl
    · exact Nat.le_trans (ih q) (one k')
    · exact Nat.le_refl _
theorem cntS_up (W : List Nat) (n t : Nat) : ∀ S S', S ≤ S' → (cntS W n S).getD t 0 ≤ (cntS W n S').getD t 0 := by
  intro S S' h
  induction S' with
  | zero => rw [Nat.le_zero.1 h]; exact Nat.le_refl _
  | succ S' ih =>
    rcases (by omega : S ≤ S' ∨ S = S' + 1) with q | rfl
    · exact Nat.le_trans (ih q) (cntK_up W S' (cntS W n S') t 0 n (by omega))
    · exact Nat.le_refl _
theorem count_over {ls : List RCue} (hok : cuesOk ls = true) : ∀ m, m ≤ ls.length → 1 ≤ (cntS (waitSet ls) ls.length (overAt ls m)).getD (overAt ls m) 0 := by
  intro m
  induction m with
  | zero =>
    intro _
    show 1 ≤ (cntS (waitSet ls) ls.length 0).getD 0 0
    rw [cntS, List.getD_eq_getElem?_getD, List.getElem?_set_self (by rw [List.length_replicate, Nat.shiftLeft_eq, Nat.one_mul]; exact Nat.pow_pos (by omega))]
    exact Nat.le_refl _
  | succ m ih =>
    intro hm
    have h := ih (by omega)
    obtain ⟨hp, _, hf⟩ := pk_free hok (m := m) (by omega)
    have hd : (overAt ls m).testBit (pk ls m) = false := by
      unfold freeB at hf
      simp only [Bool.and_eq_true, Bool.not_eq_true'] at hf
      exact hf.1
    have hlt : overAt ls m < overAt ls m ||| 1 <<< pk ls m := by
      refine Nat.lt_of_le_of_ne Nat.left_le_or fun e => ?_
      have q : (overAt ls m ||| 1 <<< pk ls m).testBit (pk ls m) = true := by rw [Nat.testBit_or, bit_one]; simp
      rw [← e, hd] at q
      cases q
    rw [over_next]
    refine Nat.le_trans ?_ (cntS_up _ _ _ (overAt ls m + 1) _ hlt)
    rw [cntS]
    refine Nat.le_trans ?_ (cntK_up _ _ _ _ (pk ls m + 1) ls.length hp)
    rw [cntK, if_pos hf, List.getD_eq_getElem?_getD (l := List.set _ _ _), List.getElem?_set_self (by
      rw [cntK_len, cntS_len]
      exact or_lt (by rw [Nat.shiftLeft_eq, Nat.one_mul]; exact over_lt hok (by omega)) hp)]
    refine Nat.le_trans (Nat.le_trans h (cntK_up _ _ _ _ 0 (pk ls m) (by omega))) (Nat.le_add_left _ _)
theorem count_some {ls : List RCue} (hok : cuesOk ls = true) (hl : ls.length ≤ 10) : 1 ≤ countOrders ls := by
  unfold countOrders
  rw [if_pos ⟨hok, hl⟩]
  have h := count_over hok ls.length (Nat.le_refl _)
  have e : overAt ls ls.length = 1 <<< ls.length - 1 := by rw [over_full hok, Nat.shiftLeft_eq, Nat.one_mul]
  rw [e] at h
  have h2 := cntS_up (waitSet ls) ls.length (1 <<< ls.length - 1) (1 <<< ls.length - 1) (1 <<< ls.length) (Nat.sub_le _ _)
  omega
def loopCues : List RCue := [⟨1, [1], []⟩, ⟨1, [0], []⟩]
theorem loop_circle : circleIn loopCues = [0, 1] := by decide
theorem loop_bad : cuesOk loopCues = false := by decide
theorem good_bulk {ls : List RCue} (h : GoodTo ls) (hl : ls.length ≤ 7) : bulkCue ls ≤ 100 := by
  have p : ∀ k, k ≤ ls.length → bulkC ls k ≤ 7 + k * 12 := by
    intro k
    induction k with
    | zero => intro _; rw [bulkC]; omega
    | succ k ih =>
      intro hk
      have a := ih (by omega)
      obtain ⟨_, b, c⟩ := h k (by omega)
      have b := asc_len b
      have c := asc_len (m := 5) c
      rw [bulkC_more (by omega)]
      unfold szC
      omega
  have := p ls.length (Nat.le_refl _)
  unfold bulkCue
  omega
end Go.Proofs.Ytbgogcobkiaejac
