/- An array of six numbers in a block of its own; the contract of the program's allHands. Condition: the players lie in a row of their own and are valid. -/
import Derived.Test.YtjpalndcfaeihaaFcaM
import Derived.Test.YtjpalndcfaeihaaArrK
import Derived.Test.YtjpalndcfaeihaaRowB
import Derived.OwnWalk
namespace Go.Proofs.Ytjpalndcfaeihaa
set_option linter.unusedVariables false
set_option linter.unusedSimpArgs false
open Go.RowKit

/-- Six numbers lie in block g. -/
def Arr6 (w : World) (base g : Nat) (zs : List Int) : Prop := w.ownsRow base 50 1 (.slice (some ⟨g, 0, none⟩) 6 6) 6 (zs.map intV)
theorem info6 : (Try.prog.info? 50).map (·.size) = some 6 := by kernel_rfl
section
variable {w w' : World} {base g : Nat} {zs : List Int}
theorem Arr6.alloc (h : Arr6 w base g zs) (o : Obj) : Arr6 (w.alloc o) base g zs := World.ownsRow.alloc h o
theorem Arr6.lt (h : Arr6 w base g zs) : base ≤ g ∧ g < w.heap.size := World.ownsRow.lt h g rfl
theorem Arr6.kept {row : Option Nat} (h : Arr6 w base g zs) (hg : w.grownBy w' row) (hne : some g ≠ row) : Arr6 w' base g zs := World.ownsRow.kept h hg (.inr hne)
theorem Arr6.below (h : Arr6 w base g zs) (hb : Below w.heap.size w w') : Arr6 w' base g zs := h.kept (grown_of_below hb none) (by simp)
theorem Arr6.len (h : Arr6 w base g zs) : zs.length = 6 := by have := h.1; simpa using this
theorem Arr6.spot (h : Arr6 w base g zs) {k : Nat} (hk : k < 6) : w.cell? ⟨g, k, none⟩ = some (.int .i64 (zs.getD k 0)) ∧ w.frozen? ⟨g, k, none⟩ = false := by
  have hl := h.len
  refine ⟨?_, World.ownsRow.frozenAt h k⟩
  rw [World.ownsRow.cellAt h k (by omega), List.getD_eq_getElem?_getD, List.getElem?_eq_getElem (by omega : k < zs.length)]
  simp [intV, hl, hk]
theorem Arr6.range (h : Arr6 w base g zs) : w.rangeAt g 0 (zs.map intV) := by
  intro j v hv
  have hj : j < zs.length := by have := (List.getElem?_eq_some_iff.1 hv).1; simpa using this
  have hl := h.len
  rw [Nat.zero_add, World.ownsRow.cellAt h j (by omega)]
  exact hv
theorem Arr6.there (h : Arr6 w base g zs) : w.there g 0 6 := by
  intro j hj
  rw [Nat.zero_add]
  exact ⟨by rw [(h.spot hj).1]; rfl, (h.spot hj).2⟩
theorem Arr6.set (h : Arr6 w base g zs) (k : Nat) (z : Int) : Arr6 (w.setCell ⟨g, k, none⟩ (.int .i64 z)) base g (zs.set k z) ∧ w.grownBy (w.setCell ⟨g, k, none⟩ (.int .i64 z)) (some g) := by
  unfold Arr6 at *
  obtain ⟨h1, g1⟩ := World.ownsRow.stored h k (.int .i64 z)
  rw [List.map_set]
  exact ⟨h1, g1⟩
theorem Arr6.sets (h : Arr6 w base g zs) {M : List Int} (hM : M.length = 6) : Arr6 (w.setCells g 0 (M.map intV)) base g M ∧ w.grownBy (w.setCells g 0 (M.map intV)) (some g) := by
  refine ⟨?_, setCells_grown g _ 0 w⟩
  have hl := h.len
  match zs, hl, M, hM with
  | [a0, a1, a2, a3, a4, a5], _, [b0, b1, b2, b3, b4, b5], _ =>
    exact ((((((h.set 0 b0).1.set 1 b1).1.set 2 b2).1.set 3 b3).1.set 4 b4).1.set 5 b5).1
theorem info6_len {M : List Int} (hM : M.length = 6) : (Try.prog.info? 50).map (·.size) = some (M.map intV).length := by rw [info6, List.length_map, hM]
theorem info6_arr {M : List Int} (hM : M.length = 6) : (Try.prog.info? 50).map (·.size) = some (M.map intV).toArray.size := by rw [info6]; simp [hM]
theorem one6 (M : List Int) : ((M.map intV).toArray).all (·.oneCell') = true := all_oneCell_toArray (fun v hv => by obtain ⟨z, -, rfl⟩ := List.mem_map.1 hv; rfl)
end
theorem arr6_new (w : World) (base : Nat) (cs : Array Value) (zs : List Int) (hcs : cs.toList = zs.map intV) (hz : zs.length = 6) (hb : base ≤ w.heap.size) : Arr6 (w.alloc (.cells cs 50)) base w.heap.size zs := by
  have hs : cs.size = 6 := by rw [← Array.length_toList, hcs, List.length_map, hz]
  exact ⟨by simp [hz], .inr ⟨w.heap.size, 6, cs, rfl, hb, heap_alloc_new w _, Nat.le_refl _, by simp only [maxLen]; omega, by omega, by rw [hcs, List.take_of_length_le (by simp [hz])]⟩⟩
/-- The free hands of the first k players; none of the others. -/
def handsAt (ls : List RPlayer) (k : Nat) : List Int := freeSix ls k ++ List.replicate (6 - k) 0
theorem handsAt_len (ls : List RPlayer) {k : Nat} (h : k ≤ 6) : (handsAt ls k).length = 6 := by unfold handsAt; rw [List.length_append, freeSix_len, List.length_replicate]; omega
theorem handsAt_next (ls : List RPlayer) {k : Nat} (h : k < 6) : handsAt ls (k + 1) = (handsAt ls k).set k (ls.getD k RPlayer.zero).f1 := by
  unfold handsAt
  rw [List.set_append_right _ _ (by rw [freeSix_len]; omega), freeSix_len, Nat.sub_self, show 6 - k = (6 - (k + 1)) + 1 by omega, List.replicate_succ, List.set_cons_zero, freeSix, List.append_assoc]
  rfl
theorem handsAt_all (ls : List RPlayer) (h : ls.length ≤ 6) : handsAt ls ls.length = freeSix ls 6 := by
  have go : ∀ j, freeSix ls (ls.length + j) = freeSix ls ls.length ++ List.replicate j 0 := by
    intro j
    induction j with
    | zero => simp
    | succ j ih =>
      rw [show ls.length + (j + 1) = ls.length + j + 1 by omega, freeSix, ih, List.append_assoc, List.replicate_succ', List.getD_eq_getElem?_getD, List.getElem?_eq_none (by omega)]
      rfl
  unfold handsAt
  rw [← go, show ls.length + (6 - ls.length) = 6 by omega]

set_option maxRecDepth 100000 in
set_option maxHeartbeats 3200000 in
theorem implAll (v : Value) (ls : List RPlayer) (b : Nat) (w : World) (h : OwnPlayer w b v ls) (hl : ls.length ≤ 6) :
    Calls Try.prog 37 #[v] w fun e w' => e = .returned (.agg ((freeSix ls 6).map intV).toArray) ∧ Below w.heap.size w w' := by
  obtain ⟨A, c, rfl⟩ := h.slice
  have O := Lib.hid h
  have HA := Lib.hid (handsAt_all ls hl)
  have HN := Lib.hid (fun k (hk : k < 6) => handsAt_next ls hk)
  have HZ := Lib.hid (fun k (hk : k ≤ 6) => handsAt_len ls hk)
  have z0 : (Array.replicate 6 (Value.int .i64 0)).toList = (handsAt ls 0).map intV := rfl
  have A0 := Lib.hid ((arr6_new w w.heap.size (Array.replicate 6 (.int .i64 0)) (handsAt ls 0) z0 rfl (Nat.le_refl _)).alloc (.cells (Array.replicate 6 (.int .i64 0)) 50))
  have A1 := Lib.hid (show Arr6 ((w.alloc (.cells (Array.replicate 6 (.int .i64 0)) 50)).alloc (.cells (Array.replicate 6 (.int .i64 0)) 50)) w.heap.size (w.heap.size + 1) (handsAt ls 0) from by
    have q := arr6_new (w.alloc (.cells (Array.replicate 6 (.int .i64 0)) 50)) w.heap.size (Array.replicate 6 (.int .i64 0)) (handsAt ls 0) z0 rfl (by simp)
    simpa using q)
  have B1 := Lib.hid (((Below.refl w.heap.size w).alloc (Nat.le_refl _) (.cells (Array.replicate 6 (.int .i64 0)) 50)).alloc (by simp) (.cells (Array.replicate 6 (.int .i64 0)) 50))
  clear h z0
  go_enter Try.func37, Try.ntmps37
  go_wp2_with fail
  go_loopw [8] (fun iv wr => ∃ k : Nat, k ≤ ls.length ∧ iv = .int .i64 (k : Int) ∧ Hid (Arr6 wr w.heap.size w.heap.size (handsAt ls 0)) ∧ Hid (Arr6 wr w.heap.size (w.heap.size + 1) (handsAt ls k)) ∧ Hid (Below w.heap.size w wr)) (fun iv _ => ls.length - (intOf iv).toNat)
  case atStart => exact ⟨0, by omega, rfl, A0, A1, B1⟩
  case round =>
    clear A0 A1 B1
    obtain ⟨k, hk, rfl, A0, A1, BW⟩ := hrel
    by_cases hlt : k < ls.length
    rotate_left
    · obtain rfl : k = ls.length := by omega
      have LN := HZ.out ls.length hl
      have hi := info6_len LN
      have hi2 := info6_arr LN
      have hr := A1.out.range
      go_wp2_with (first
        | (refine wpList_load_mid rfl 50 _ rfl (w.heap.size + 1) 0 rfl ((handsAt ls ls.length).map intV) _ hr Try.underlying50 rfl hi ?_)
        | (refine wpList_store_mid rfl 50 _ _ rfl w.heap.size 0 ((handsAt ls ls.length).map intV).toArray rfl rfl (by have := A0.out.there; simpa [LN] using this) hi2 (one6 _) ?_))
      have hrl : (loadVar 50 ⟨w.heap.size, 0, none⟩).run Try.prog (wr.setCells w.heap.size 0 ((handsAt ls ls.length).map intV)) = .ok (.agg ((handsAt ls ls.length).map intV).toArray) (wr.setCells w.heap.size 0 ((handsAt ls ls.length).map intV)) :=
        run_loadVar_mid _ _ 0 _ _ _ (World.rangeAt_setCells_same wr _ 0 _ (by rw [List.length_map, LN]; exact A0.out.there)) Try.underlying50 rfl hi
      refine bodyPost_ret (v := .agg ((handsAt ls ls.length).map intV).toArray) ?_ rfl ⟨by rw [HA.out], ?_⟩
      · rw [results_one rfl]
        exact hrl
      · exact BW.out.grown (setCells_grown _ _ _ _) BW.out.size (fun q hq => by have := Option.some.inj hq; omega)
    have hk0 : (0 : Int) ≤ (k : Int) := by omega
    have hk1 : (k : Int) < (ls.length : Int) := by omega
    have hk6 : (k : Int) < 6 := by omega
    obtain ⟨g, _, A2, c2, f1, -, ⟨x0, x1⟩, -, -⟩ := (O.out.below BW.out).spot hlt
    simp only [Value.slice.injEq] at f1
    obtain ⟨rfl, -, rfl⟩ := f1
    have NX := Lib.hid (show handsAt ls (k + 1) = (handsAt ls k).set k ls[k].f1 by rw [HN.out k (by omega), getP hlt])
    generalize ls[k].f1 = t at x1 NX
    generalize ls[k].f0.length = n1 at x0
    have hbs := BW.out.size
    have hgl := A1.out.lt.2
    obtain ⟨y0, y1⟩ := A1.out.spot (k := k) (by omega)
    obtain ⟨hS, hG⟩ := A1.out.set k t
    rw [← NX.out] at hS
    have A2' := Lib.hid (hS.alloc (.cells #[.slice A2 n1 c2, .int .i64 t] 57))
    have A3' := Lib.hid ((A0.out.kept hG (by simp)).alloc (.cells #[.slice A2 n1 c2, .int .i64 t] 57))
    have B2 := BW.out.grown hG hbs (fun q hq => by have := Option.some.inj hq; omega)
    have B3 := Lib.hid (B2.alloc B2.size (.cells #[.slice A2 n1 c2, .int .i64 t] 57))
    generalize (handsAt ls k).getD k 0 = old at y0
    clear hS hG A0 A1 B2
    go_wp2
    exact ⟨⟨k + 1, by omega, by go_num, A3', A2', B3⟩, by simp [intOf]; omega⟩
end Go.Proofs.Ytjpalndcfaeihaa
