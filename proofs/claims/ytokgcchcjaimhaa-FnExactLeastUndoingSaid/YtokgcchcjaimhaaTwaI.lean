/- The contracts of impl.twistBy and twistsAfter. Condition: the crossings lie in a row of their own. -/
import Derived.Test.YtokgcchcjaimhaaTwaM
import Derived.Test.YtokgcchcjaimhaaPaiI
import Derived.Deep.MidRow
import Derived.OwnWalk
import Derived.BigRegion
import Derived.Deep.RegionLaw
import Derived.Deep.DrawnRows
namespace Go.Proofs.Ytokgcchcjaimhaa
set_option linter.unusedVariables false
set_option linter.unusedSimpArgs false
open Go.RowKit

set_option maxRecDepth 100000 in
set_option maxHeartbeats 800000 in
theorem implBy (a : Int) (y : Bool) (w : World) :
    Calls Try.prog 47 #[.agg #[.int .i64 a, .bool y]] w fun e w' => e = .returned (.int .i64 (if y = true then 1 else -1)) ∧ w' = w.alloc (.cells #[.int .i64 a, .bool y] 60) := by
  cases y with
  | true =>
    go_enter Try.func47, Try.ntmps47
    go_wp2
    go_ret
    exact ⟨rfl, rfl⟩
  | false =>
    go_enter Try.func47, Try.ntmps47
    go_wp2
    go_ret
    exact ⟨rfl, rfl⟩

/-- The program's table lies in a block of its own. -/
def ArrT (w : World) (base g : Nat) (zs : List Int) : Prop := w.ownsRow base 53 1 (.slice (some ⟨g, 0, none⟩) 49 49) 49 (zs.map intV)
section
variable {w w' : World} {base g : Nat} {zs : List Int}
theorem ArrT.alloc (h : ArrT w base g zs) (o : Obj) : ArrT (w.alloc o) base g zs := World.ownsRow.alloc h o
theorem ArrT.lt (h : ArrT w base g zs) : base ≤ g ∧ g < w.heap.size := World.ownsRow.lt h g rfl
theorem ArrT.kept {row : Option Nat} (h : ArrT w base g zs) (hg : w.grownBy w' row) (hne : some g ≠ row) : ArrT w' base g zs := World.ownsRow.kept h hg (.inr hne)
theorem ArrT.below (h : ArrT w base g zs) (hb : Below w.heap.size w w') : ArrT w' base g zs := h.kept (grown_of_below hb none) (by simp)
theorem ArrT.len (h : ArrT w base g zs) : zs.length = 49 := by have := h.1; simpa using this
theorem ArrT.spot (h : ArrT w base g zs) {k : Nat} (hk : k < 49) : w.cell? ⟨g, k, none⟩ = some (.int .i64 (atI zs k)) ∧ w.frozen? ⟨g, k, none⟩ = false := by
  have hl := h.len
  refine ⟨?_, World.ownsRow.frozenAt h k⟩
  rw [World.ownsRow.cellAt h k (by omega), atI_of (by omega : k < zs.length)]
  simp [intV, hl, hk]
theorem ArrT.range (h : ArrT w base g zs) : w.rangeAt g 0 (zs.map intV) := by
  intro j v hv
  have hj : j < zs.length := by have := (List.getElem?_eq_some_iff.1 hv).1; simpa using this
  have hl := h.len
  rw [Nat.zero_add, World.ownsRow.cellAt h j (by omega)]
  exact hv
theorem ArrT.there (h : ArrT w base g zs) : w.there g 0 49 := by
  intro j hj
  rw [Nat.zero_add]
  exact ⟨by rw [(h.spot hj).1]; rfl, (h.spot hj).2⟩
theorem ArrT.set (h : ArrT w base g zs) (k : Nat) (s : Int) :
    ArrT (w.setCell ⟨g, k, none⟩ (.int .i64 (atI zs k + s))) base g (addA zs k s) ∧ w.grownBy (w.setCell ⟨g, k, none⟩ (.int .i64 (atI zs k + s))) (some g) := by
  unfold ArrT at *
  obtain ⟨h1, g1⟩ := World.ownsRow.stored h k (.int .i64 (atI zs k + s))
  unfold addA
  rw [List.map_set]
  exact ⟨h1, g1⟩
end

theorem results_one {fn : Func} {p : Tmp} {ty : TypeId} (h : fn.results = #[.cell p ty]) (tmps : Array Value) (P : Program) (w : World) :
    (results fn tmps).run P w = ((asAddr (tmps.getD p undef)).run P w).andThen fun a w1 => (loadVar ty a).run P w1 := by
  simp only [results, h]
  simp [Sem.run_bind, Result.andThen]
  try rfl
theorem setCells_grown (b : Nat) : ∀ (vs : List Value) (o : Nat) (w : World), w.grownBy (w.setCells b o vs) (some b)
  | [], _, w => ⟨rfl, rfl, rfl, Nat.le_refl _, fun _ _ _ => rfl⟩
  | v :: r, o, w => by
    have h := setCells_grown b r (o + 1) (w.setCell ⟨b, o, none⟩ v)
    exact grown_then (grown_cell w ⟨b, o, none⟩ v) h
/-- Two tables that are new. -/
theorem arrT_new (w : World) (cs : Array Value) (hcs : cs.toList = (List.replicate 49 (0 : Int)).map intV) : ArrT ((w.alloc (.cells cs 53)).alloc (.cells cs 53)) w.heap.size w.heap.size (List.replicate 49 0) ∧
    ArrT ((w.alloc (.cells cs 53)).alloc (.cells cs 53)) w.heap.size (w.heap.size + 1) (List.replicate 49 0) := by
  have hs : cs.size = 49 := by rw [← Array.length_toList, hcs]; simp
  have H : ∀ W : World, w.heap.size ≤ W.heap.size → ArrT (W.alloc (.cells cs 53)) w.heap.size W.heap.size (List.replicate 49 0) := fun W h =>
    ⟨by simp, .inr ⟨W.heap.size, 49, cs, rfl, h, heap_alloc_new W _, Nat.le_refl _, by simp only [maxLen]; omega, by omega, by rw [hcs]; rw [List.take_of_length_le (by simp)]⟩⟩
  refine ⟨(H w (Nat.le_refl _)).alloc _, ?_⟩
  have := H (w.alloc (.cells cs 53)) (by simp)
  simpa using this

set_option maxRecDepth 100000 in
set_option maxHeartbeats 3200000 in
theorem implAft (n : Int) (v : Value) (ls : List RCross) (b : Nat) (w : World) (h : OwnCross w b v ls) (hl : ls.length ≤ 2000000) (hc : crossOk n ls = true) :
    Calls Try.prog 40 #[.int .i64 n, v] w fun e w' => e = .returned (.agg ((aftTo n ls ls.length).map intV).toArray) ∧ Below w.heap.size w w' := by
  have CP := Lib.hid (fun W h => implPairs n v ls b W h hl)
  obtain ⟨A, c, rfl⟩ := h.slice
  have O := Lib.hid h
  clear h
  obtain ⟨hn7, hnn, h40, -⟩ := ok_fits hc
  have F := crossFacts hc
  have hpl := F.pairLen
  have R := Lib.hid (show ∀ i j, i < n.toNat → j < n.toNat → ∀ k, k ≤ ls.length → -(k : Int) ≤ atI (aftTo n ls k) (i * 7 + j) ∧ atI (aftTo n ls k) (i * 7 + j) ≤ (k : Int) from fun i j hi hj k hk => by rw [aft_ent hc hi hj k hk]; exact tab_small hc hi hj k hk)
  have DU := Lib.hid (fun k hk => duo_at hc (k := k) hk)
  have ST := Lib.hid (show ∀ k, aftTo n ls (k + 1) = addA (addA (aftTo n ls k) (pa ((pairsOf n ls).getD k []) * 7 + pb ((pairsOf n ls).getD k [])) (sgn (ls.getD k RCross.zero))) (pb ((pairsOf n ls).getD k []) * 7 + pa ((pairsOf n ls).getD k [])) (sgn (ls.getD k RCross.zero)) from fun k => rfl)
  have Z0 := Lib.hid (show aftTo n ls 0 = List.replicate 49 0 from rfl)
  have TL := Lib.hid (aft_len n ls)
  have HPL := Lib.hid hpl
  generalize pairsOf n ls = ps at CP DU ST HPL
  generalize aftTo n ls = T at R ST Z0 TL ⊢
  have hn7' : n.toNat ≤ 7 := hn7.2
  clear F hpl hc hnn hn7
  have NW := Lib.hid (arrT_new w (Array.replicate 49 (.int .i64 0)) (by simp [intV]))
  have B0 := Lib.hid (((Below.refl w.heap.size w).alloc (Nat.le_refl _) (.cells (Array.replicate 49 (.int .i64 0)) 53)).alloc (by simp) (.cells (Array.replicate 49 (.int .i64 0)) 53))
  have O0 := Lib.hid ((O.out.alloc (.cells (Array.replicate 49 (.int .i64 0)) 53)).alloc (.cells (Array.replicate 49 (.int .i64 0)) 53))
  go_enter Try.func40, Try.ntmps40
  go_wp2_with fail
  refine (CP.out _ O0.out).mono ?_
  rintro e w1 ⟨vp, rfl, p1, b1⟩
  have A0 := Lib.hid (NW.out.1.below b1)
  have A1 := Lib.hid (show ArrT w1 w.heap.size (w.heap.size + 1) (T 0) by rw [Z0.out]; exact NW.out.2.below b1)
  have B1 := Lib.hid (B0.out.trans (b1.mono B0.out.size))
  have top2 : ∃ top, top = w.heap.size + 2 ∧ OwnR w1 top vp ps := ⟨_, rfl, by simpa using p1⟩
  obtain ⟨top, htop, p2⟩ := top2
  obtain ⟨P, cp, rfl⟩ := p2.slice
  have P1 := Lib.hid p2
  have HT := Lib.hid htop
  clear p1 p2 b1 NW B0 O0 CP htop
  go_wp2_with fail
  go_loopw [14] (fun iv wr => ∃ j : Nat, j ≤ ps.length ∧ iv = .int .i64 (j : Int) ∧ Hid (ArrT wr w.heap.size w.heap.size (List.replicate 49 0)) ∧ Hid (ArrT wr w.heap.size (w.heap.size + 1) (T j)) ∧ Hid (OwnR wr top (.slice P ps.length cp) ps) ∧ Hid (Below w.heap.size w wr)) (fun iv _ => ps.length - (intOf iv).toNat)
  case atStart => exact ⟨0, by omega, rfl, A0, A1, P1, B1⟩
  case round =>
    clear A0 A1 P1 B1
    obtain ⟨j, hj, rfl, A0, A1, OP, BW⟩ := hrel
    by_cases hlt : j < ps.length
    rotate_left
    · obtain rfl : j = ps.length := by omega
      have LN := TL.out ps.length
      have hi : (Try.prog.info? 53).map (·.size) = some ((T ps.length).map intV).length := by
        rw [List.length_map, LN]
        kernel_rfl
      have hr := A1.out.range
      go_wp2_with (first
        | (refine wpList_load_mid rfl 53 _ rfl (w.heap.size + 1) 0 rfl ((T ps.length).map intV) _ hr Try.underlying53 rfl hi ?_)
        | (refine wpList_store_mid rfl 53 _ _ rfl w.heap.size 0 ((T ps.length).map intV).toArray rfl rfl (by have := A0.out.there; simpa [LN] using this) (by simpa using hi) (all_oneCell_toArray (fun v hv => by obtain ⟨z, -, rfl⟩ := List.mem_map.1 hv; rfl)) ?_))
      have F := Lib.hid (show T ls.length = T ps.length by rw [HPL.out])
      have hrl : (loadVar 53 ⟨w.heap.size, 0, none⟩).run Try.prog (wr.setCells w.heap.size 0 ((T ps.length).map intV)) = .ok (.agg ((T ps.length).map intV).toArray) (wr.setCells w.heap.size 0 ((T ps.length).map intV)) :=
        run_loadVar_mid _ _ 0 _ _ _ (World.rangeAt_setCells_same wr _ 0 _ (by rw [List.length_map, LN]; exact A0.out.there)) Try.underlying53 rfl hi
      refine bodyPost_ret (v := .agg ((T ps.length).map intV).toArray) ?_ rfl ⟨by rw [F.out], ?_⟩
      · rw [results_one rfl]
        exact hrl
      · exact BW.out.grown (setCells_grown _ _ _ _) BW.out.size (fun q hq => by have := Option.some.inj hq; omega)
    have hjl : j < ls.length := by have := HPL.out; omega
    have hj0 : (0 : Int) ≤ (j : Int) := by omega
    have hj1 : (j : Int) < (ps.length : Int) := by omega
    have hj2 : (j : Int) < (ls.length : Int) := by omega
    obtain ⟨gl, _, f1, _, lt1, z0, _⟩ := O.out.spot hjl
    simp only [Value.slice.injEq] at f1
    obtain ⟨rfl, -, rfl⟩ := f1
    have LC := Lib.hid (show ∀ W : World, Below w.heap.size w W → W.cell? ⟨gl, j * 2, none⟩ = some (.int .i64 ls[j].f0) ∧ W.cell? ⟨gl, j * 2 + 1, none⟩ = some (.bool ls[j].f1) from fun W h => ⟨(z0.below h lt1) 0 _ rfl, (z0.below h lt1) 1 _ rfl⟩)
    have hss : sgn (ls.getD j RCross.zero) = if ls[j].f1 = true then 1 else -1 := by rw [List.getD_eq_getElem?_getD, List.getElem?_eq_getElem hjl]; rfl
    obtain ⟨a, d, hz, had, ha, hd⟩ := DU.out j hjl
    have STJ := Lib.hid (ST.out j)
    rw [hz, hss] at STJ
    have EA : pa [(a : Int), (d : Int)] = a := by simp [pa, atI]
    have EB : pb [(a : Int), (d : Int)] = d := by simp [pb, atI]
    rw [EA, EB] at STJ
    rw [getD_row hlt] at hz
    obtain ⟨s, hs, hs1, hs2⟩ : ∃ s : Int, (if ls[j].f1 = true then (1 : Int) else -1) = s ∧ -1 ≤ s ∧ s ≤ 1 := ⟨_, rfl, by split <;> omega, by split <;> omega⟩
    rw [hs] at STJ
    have BY := Lib.hid (fun W => implBy ls[j].f0 ls[j].f1 W)
    rw [hs] at BY
    generalize ls[j].f0 = x at LC BY
    generalize ls[j].f1 = y at LC BY hs
    clear hs hss z0 EA EB
    obtain ⟨gp, cP, A2, c2, f2, p0, _, pr⟩ := OP.out.spot hlt
    simp only [Value.slice.injEq] at f2
    obtain ⟨rfl, -, rfl⟩ := f2
    rw [hz] at p0 pr
    obtain ⟨gq, cq, f2, _, _, q0, _⟩ := pr.spot (k := 0) (by simp)
    simp only [Value.slice.injEq] at f2
    obtain ⟨rfl, -, rfl⟩ := f2
    obtain ⟨_, _, f2, _, _, q1, _⟩ := pr.spot (k := 1) (by simp)
    simp only [Value.slice.injEq, Option.some.injEq, Addr.mk.injEq] at f2
    obtain ⟨⟨rfl, -⟩, -⟩ := f2
    simp only [List.getElem_cons_zero, List.getElem_cons_succ] at q0 q1
    replace p0 : wr.cell? ⟨gp, j, none⟩ = some (.slice (some ⟨gq, 0, none⟩) 2 c2) := p0
    clear pr hz
    have ha0 : (0 : Int) ≤ (a : Int) := by omega
    have ha1 : (a : Int) < 7 := by omega
    have hd0 : (0 : Int) ≤ (d : Int) := by omega
    have hd1 : (d : Int) < 7 := by omega
    go_wp2_with fail
    go_quiet (fail)
    have A02 := Lib.hid (A0.out.below (below_drewN (Below.refl _ _) nq))
    have A12 := Lib.hid (A1.out.below (below_drewN (Below.refl _ _) nq))
    have OP2 := Lib.hid (OP.out.below (below_drewN (Below.refl _ _) nq))
    have BW2 := Lib.hid (below_drewN BW.out nq)
    clear A0 A1 OP BW p0 q0 q1
    generalize wr.drewN nq = w2 at A02 A12 OP2 BW2 ⊢
    obtain ⟨l02, l12⟩ := LC.out _ BW2.out
    have hb := R.out a d ha hd j (by omega)
    have HB2 := Lib.hid (show -(j : Int) - 1 ≤ atI (addA (T j) (a * 7 + d) s) (d * 7 + a) ∧ atI (addA (T j) (a * 7 + d) s) (d * 7 + a) ≤ (j : Int) + 1 by
      rw [addA_at (by have := TL.out j; omega), if_neg (by omega)]
      have := R.out d a hd ha j (by omega)
      omega)
    obtain ⟨t0, t1⟩ := A12.out.spot (k := a * 7 + d) (by omega)
    obtain ⟨S1, G1⟩ := A12.out.set (a * 7 + d) s
    have hgl : gl < w2.heap.size := World.block_lt_of_cell? w2 _ l02
    have hga : w.heap.size + 1 < w2.heap.size := A12.out.lt.2
    have A13 := Lib.hid ((S1.alloc (.cells #[.int .i64 x, .bool y] 60)).below (Below.refl _ _).drew)
    have A03 := Lib.hid (((A02.out.kept G1 (by simp)).alloc (.cells #[.int .i64 x, .bool y] 60)).below (Below.refl _ _).drew)
    have OP3 := Lib.hid (((OP2.out.older G1 (fun q hq => by have := Option.some.inj hq; have := HT.out; omega)).alloc (.cells #[.int .i64 x, .bool y] 60)).below (Below.refl _ _).drew)
    have BW3 := Lib.hid (((BW2.out.grown G1 BW2.out.size (fun q hq => by have := Option.some.inj hq; omega)).alloc (Nat.le_trans BW2.out.size G1.size) (.cells #[.int .i64 x, .bool y] 60)).drew)
    obtain ⟨zq, hzq⟩ : ∃ zq, atI (T j) (a * 7 + d) = zq := ⟨_, rfl⟩
    rw [hzq] at t0 hb A13 A03 OP3 BW3
    clear S1 G1
    have ew : IntKind.i64.wrap (zq + s) = zq + s := IntWalk.i64_in _ (by omega)
    go_wp2_with fail
    go_region_law (first | (go_simp; go_at_call 47; refine (BY.out _).mono ?_; rintro e w' ⟨rfl, rfl⟩))
    all_goals clear l02 l12 A02 A12 OP2 BW2 t0 t1 ew hgl hga
    all_goals generalize World.drew _ = w3 at A13 A03 OP3 BW3 ⊢
    all_goals obtain ⟨l02, l12⟩ := LC.out _ BW3.out
    all_goals have hb := HB2.out
    all_goals obtain ⟨t0, t1⟩ := A13.out.spot (k := d * 7 + a) (by omega)
    all_goals obtain ⟨S1, G1⟩ := A13.out.set (d * 7 + a) s
    all_goals rw [← STJ.out] at S1
    all_goals have hgl : gl < w3.heap.size := World.block_lt_of_cell? w3 _ l02
    all_goals have hga : w.heap.size + 1 < w3.heap.size := A13.out.lt.2
    all_goals have A14 := Lib.hid ((S1.alloc (.cells #[.int .i64 x, .bool y] 60)).below (Below.refl _ _).drew)
    all_goals have A04 := Lib.hid (((A03.out.kept G1 (by simp)).alloc (.cells #[.int .i64 x, .bool y] 60)).below (Below.refl _ _).drew)
    all_goals have OP4 := Lib.hid (((OP3.out.older G1 (fun q hq => by have := Option.some.inj hq; have := HT.out; omega)).alloc (.cells #[.int .i64 x, .bool y] 60)).below (Below.refl _ _).drew)
    all_goals have BW4 := Lib.hid (((BW3.out.grown G1 BW3.out.size (fun q hq => by have := Option.some.inj hq; omega)).alloc (Nat.le_trans BW3.out.size G1.size) (.cells #[.int .i64 x, .bool y] 60)).drew)
    all_goals clear S1 G1 A03 OP3 BW3 A13
    all_goals generalize atI (addA (T j) (a * 7 + d) s) (d * 7 + a) = zr at t0 hb A14 A04 OP4 BW4
    all_goals have ew : IntKind.i64.wrap (zr + s) = zr + s := IntWalk.i64_in _ (by omega)
    all_goals go_wp2_with fail
    all_goals go_region_law (first | (go_simp; go_at_call 47; refine (BY.out _).mono ?_; rintro e w' ⟨rfl, rfl⟩))
    all_goals go_wp2
    all_goals exact ⟨⟨j + 1, by omega, by go_num, A04, A14, OP4, BW4⟩, by simp [intOf]; omega⟩
end Go.Proofs.Ytokgcchcjaimhaa
