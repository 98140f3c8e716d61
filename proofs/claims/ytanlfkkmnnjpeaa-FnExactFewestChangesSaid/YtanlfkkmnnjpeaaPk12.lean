/- Texts of this seat laid together, each with its own first sentence below: WatI FewI BntI NgtI. -/
import Derived.Test.YtanlfkkmnnjpeaaPk11
import Derived.Test.YtanlfkkmnnjpeaaPk6
import Derived.Test.YtanlfkkmnnjpeaaPk7
import Derived.Test.YtanlfkkmnnjpeaaPk4
import Derived.Deep.RegionHeld3
/- The contract of the program's waysThrough. Condition: the players and the rows of numbers are the call's own. -/
namespace Go.Proofs.Ytanlfkkmnnjpeaa
set_option linter.unusedVariables false
set_option linter.unusedSimpArgs false
open Go.RowKit
attribute [local go_sem] Oper.semAt_some

theorem infoWays : (Try.prog.info? 63).map (fun i => (i.zero, i.size, i.bytes)) = some (some (.slice none 0 0), 1, 24) := by kernel_rfl

theorem OwnR.vals {w : World} {b gn n d : Nat} {nt : List (List Int)} (h : OwnR w b (.slice (some ⟨gn, 0, none⟩) n d) nt) : ∃ VS : Nat → Value, ∀ j, j < nt.length → w.cell? ⟨gn, j, none⟩ = some (VS j) ∧ OwnI w b (VS j) (nt.getD j []) := by
  obtain ⟨vs, h⟩ := h
  refine ⟨fun j => vs.getD j (.slice none 0 0), fun j hj => ?_⟩
  have hv : j < vs.length := by rw [h.len]; exact hj
  have e1 : vs.getD j (.slice none 0 0) = vs[j] := by rw [List.getD_eq_getElem?_getD, List.getElem?_eq_getElem hv]; rfl
  have e2 : nt.getD j [] = nt[j] := by rw [List.getD_eq_getElem?_getD, List.getElem?_eq_getElem hj]; rfl
  obtain ⟨A, c, e3⟩ := (OwnRR.slice h)
  simp only [Value.slice.injEq] at e3
  obtain ⟨-, rfl, -⟩ := e3
  refine ⟨?_, ?_⟩
  · show w.cell? _ = some (vs.getD j (.slice none 0 0))
    rw [World.ownsRow.cellAt h.row j (by omega), List.getElem?_eq_getElem hv, e1]
  · show OwnI w b (vs.getD j (.slice none 0 0)) _
    rw [e1, e2]
    exact h.each j hv hj
theorem madeN (n : Nat) : (madeCells (Value.slice none 0 0).cells (n * 1)).toList = List.replicate n (Value.slice none 0 0) := by
  have hm : ∀ v ∈ (madeCells (Value.slice none 0 0).cells (n * 1)).toList, v = .slice none 0 0 := by
    intro v hv
    unfold madeCells at hv
    simp only [Array.toList_map, List.mem_map] at hv
    obtain ⟨j, _, rfl⟩ := hv
    show (#[Value.slice none 0 0])[j % 1]! = _
    rw [Nat.mod_one]
    rfl
  rw [List.eq_replicate_of_mem hm, Array.length_toList, size_madeCells, Nat.mul_one]
def encM (VS : Nat → Value) {n : Nat} (x : MomN n) : Array Value := #[.int .i64 (x.1 : Int), VS x.1]

set_option maxRecDepth 100000 in
set_option maxHeartbeats 6400000 in
theorem implWat1 (v : Value) (ls : List RPlayer) (b : Nat) (w : World) (h : OwnPlayer w b v ls) (hl : ls.length ≤ 2000000) (hr : ∀ k (hk : k < ls.length), ls[k].f0.length ≤ 2000000) (u : Value) (nt : List (List Int)) (b2 : Nat) (h2 : OwnR w b2 u nt) (hn : nt.length ≤ 2000000) (hnr : ∀ k (hk : k < nt.length), nt[k].length ≤ 2000000) (hok : nightOk ls nt = true) :
    Calls Try.prog 42 #[v, u] w (WatPost w ls nt) := by
  obtain ⟨i0, hi0, hz0, hz1, hz2⟩ := info_parts infoWays
  have CK := Lib.hid (hok ▸ implNOk v ls b ((w.alloc (.cells #[v] 24)).alloc (.cells #[.slice none 0 0] 57)) ((h.alloc _).alloc _) hl hr u nt b2 ((h2.alloc _).alloc _) hn hnr)
  have hn6 := (nok_has hok).2.1
  obtain ⟨A, c, rfl⟩ := h.slice
  obtain ⟨D, d, rfl⟩ := h2.slice
  have O := Lib.hid h
  have N := Lib.hid h2
  obtain ⟨gn, _, A1, c1, f1, n0, -, -⟩ := h2.spot (k := 0) (by omega)
  simp only [Value.slice.injEq] at f1
  obtain ⟨rfl, -, rfl⟩ := f1
  clear h h2 n0
  refine callsIn_wide.1 (callsIn_of_wp_marks (n := 9) Try.func42 rfl trivial (wpIn_wide.2 ?_) rfl)
  simp only [Try.ntmps42, List.size_toArray, List.length_cons, List.length_nil, Nat.reduceAdd, Nat.reduceSub, Array.replicate_succ, Array.replicate_zero, List.push_toArray, List.append_toArray, List.nil_append, List.cons_append]
  go_wp2_with fail
  refine CK.out.mono ?_
  rintro e w1 ⟨rfl, b1⟩
  have B1 := Lib.hid ((((Below.refl w.heap.size w).alloc (Nat.le_refl _) (.cells #[.slice A ls.length c] 24)).alloc (by simp) (.cells #[.slice none 0 0] 57)).trans (b1.mono (by simp; omega)))
  have x2 : w1.cell? ⟨w.heap.size, 0, none⟩ = some (.slice A ls.length c) := cell_below (by simp [go_sem]) b1
  have X4 := Lib.hid (show Bx w1 (w.heap.size + 1) (.slice none 0 0) from by
    have q := Bx.new (w.alloc (.cells #[.slice A ls.length c] 24)) (.slice none 0 0) 57
    rw [World.size_alloc] at q
    exact q.below b1)
  have hs1 := B1.out.size
  have hs1b : w.heap.size + 2 ≤ w1.heap.size := by have := b1.size; simp at this; omega
  clear b1 CK
  go_wp2_with (
    refine wpList_make_full _ rfl _ _ 57 rfl w1.heap.size 63 i0 (.slice none 0 0) 1 Try.underlying57 hi0 hz0 hz1 .i64 .i64 _ _ nt.length rfl rfl rfl rfl (by rw [hz2]; omega) (by simp only [maxLen]; omega) (by simp) ?_
    intro w2 own2 grown2
    have x22 := cell_below x2 (below_of_grown grown2)
    have OW := Lib.hid own2
    have BG := Lib.hid (below_of_grown grown2)
    clear own2 grown2)
  go_wp2_with (go_at_call 63; refine (backR_make _ _ _ _).mono ?_; rintro e w' ⟨rfl, rfl⟩)
  obtain ⟨W5, hW5⟩ : ∃ W5, (((w2.alloc (.cells #[.slice (some ⟨w1.heap.size, 0, none⟩) nt.length nt.length] 57)).alloc (.cells #[.slice none 0 0, .slice none 0 0, .int .i64 0] 60)).alloc (.cells #[.slice (some ⟨w2.heap.size + 1, 0, none⟩) 1 1] 63)).alloc (.cells #[.slice (some ⟨gn, 0, none⟩) nt.length d] 25) = W5 := ⟨_, rfl⟩
  have B25 : Below w2.heap.size w2 W5 := by rw [← hW5]; exact ((((Below.refl _ w2).alloc (Nat.le_refl _) _).alloc (by simp) _).alloc (by simp; omega) _).alloc (by simp; omega) _
  have hs5 : W5.heap.size = w2.heap.size + 4 := by rw [← hW5]; simp
  have OW2 : w2.ownsRow w1.heap.size 63 1 (.slice (some ⟨w1.heap.size, 0, none⟩) nt.length nt.length) nt.length (List.replicate nt.length (.slice none 0 0)) := madeN nt.length ▸ OW.out
  have hs12 : w1.heap.size < w2.heap.size := (World.ownsRow.lt OW2 _ rfl).2
  have c5 : W5.cell? ⟨w2.heap.size, 0, none⟩ = some (.slice (some ⟨w1.heap.size, 0, none⟩) nt.length nt.length) := by rw [← hW5]; simp [go_sem]
  have c6 : Bx W5 (w2.heap.size + 1 + 1) (.slice (some ⟨w2.heap.size + 1, 0, none⟩) 1 1) := by rw [← hW5]; exact ⟨by simp [go_sem], by simp [go_sem]⟩
  have cB : W5.cell? ⟨w2.heap.size + 3, 0, none⟩ = some (.slice (some ⟨gn, 0, none⟩) nt.length d) := by rw [← hW5]; simp [go_sem]
  have zz : View W5 (PV w nt.length W5.heap.size (fun _ => .slice none 0 0) W5) (.slice (some ⟨w2.heap.size + 1, 0, none⟩) 1 1) [RWay.zero] := by
    have q := (oneW (w2.alloc (.cells #[.slice (some ⟨w1.heap.size, 0, none⟩) nt.length nt.length] 57)) RWay.zero (PV w nt.length W5.heap.size (fun _ => .slice none 0 0) W5) 0 (Nat.zero_le _) (WayOk.zero _ _)).view (by simp)
    rw [World.size_alloc] at q
    refine q.below ?_
    rw [← hW5]
    exact ((Below.refl _ _).alloc (Nat.le_refl _) _).alloc (by simp) _
  have A6 : VarA w w.heap.size (w.heap.size + 1) w2.heap.size (w2.heap.size + 1 + 1) w1.heap.size W5.heap.size := ⟨by omega, by omega, by omega, by omega⟩
  have M0 : MW w nt.length w.heap.size (w.heap.size + 1) w2.heap.size (w2.heap.size + 1 + 1) w1.heap.size W5.heap.size (.slice A ls.length c) W5 (fun _ => .slice none 0 0) (fun _ => []) (.slice (some ⟨w2.heap.size + 1, 0, none⟩) 1 1) [RWay.zero] :=
    ⟨cell_below x22 B25, (X4.out.below (BG.out.mono (Nat.le_refl _))).below B25, c5, c6, fun m hm => ⟨cell_below (by rw [World.ownsRow.cellAt OW2 m (by omega), List.getElem?_replicate_of_lt hm]) B25, (B25.frozen (by simpa using hs12)).trans (World.ownsRow.frozenAt OW2 m), OwnW.nil _ _ _⟩,
     fun i j _ _ _ => .inl rfl, zz, Nat.le_refl _, fun m _ b e1 _ => by (cases e1), fun b e => by (have e2 : w2.heap.size + 1 = b := Option.some.inj e; omega), Nat.le_refl _, (B1.out.trans (BG.out.mono hs1)).trans (B25.mono (by omega))⟩
  have I0 : INV w ls nt hn6.1 w.heap.size (w.heap.size + 1) w2.heap.size (w2.heap.size + 1 + 1) w1.heap.size W5.heap.size (.slice A ls.length c) [] W5 :=
    ⟨_, _, _, _, M0, ⟨fun m _ => by simp, fun m _ l hl => (by cases hl), by simp, fun l hl => by rw [List.mem_singleton.1 hl]; exact ⟨by simp [RWay.zero], by simp [RWay.zero], by simp [RWay.zero], by simp [RWay.zero]⟩⟩, fun k e => by
      obtain rfl : k = 0 := by have := congrArg List.length e; rw [uptoM_len] at this; simpa using this.symm
      exact RGT.first hn6.1 (fun _ _ => rfl)⟩
  obtain ⟨VS, NV⟩ := N.out.vals
  have EB := Lib.hid (show ∀ k i, k + (i + 1) = nt.length → encM VS (backM hn6.1 k) = #[.int .i64 (i : Int), VS i] from fun k i e => by
    have e2 : nt.length - 1 - k = i := by omega
    unfold encM backM
    simp only [e2])
  have hc : ∀ j, j < nt.length → W5.cell? ⟨gn, j, none⟩ = some (VS j) := fun j hj => cell_below (NV j hj).1 M0.be
  have HNV := Lib.hid NV
  have AA := Lib.hid A6
  rw [hW5]
  clear hW5 x2 x22 X4 OW BG OW2 c5 c6 zz A6 NV
  refine wpIn_wide.1 (wpIn_rangeFunc_ownF rfl (by omega) (gf := 70) (lb := #[.pointer (some ⟨w2.heap.size + 1 + 1 + 1, 0, none⟩)]) rfl trivial (enters_of Try.func70 (by kernel_rfl) rfl)
    (backR_stops (backM hn6.1) (encM VS) (9 - 1) (w2.heap.size + 1 + 1 + 1) gn d nt.length VS (by omega) (by omega) EB.out W5 cB hc)
    Keep2.trans (fun W l o o' _ h ho _ => Keep2.put W l o o' h ho) (Below.refl _ _) (fun _ => rfl)
    (fun pre W => INV w ls nt hn6.1 w.heap.size (w.heap.size + 1) w2.heap.size (w2.heap.size + 1 + 1) w1.heap.size W5.heap.size (.slice A ls.length c) pre W) (fun co pre W => INX w ls nt hn6.1 (w.heap.size + 1) co pre W)
    (fun s A B row hs hg hr => let ⟨V, T, vn, nx, M, D, R⟩ := hs; ⟨V, T, vn, nx, M.other (by omega) hg hr, D, fun k e => (R k e).later hg.size⟩)
    (fun co s A B row hs hg hr => ⟨hs.1, cell_kept hs.2.1 hg (fun r e => (hr r e).2), hs.2.2.1.grown hg hs.2.2.1.size (fun k e => by have := (hr k e).1; omega), hs.2.2.2⟩)
    I0
    (fun x => { tmps := List.toArray ((.slice A ls.length c) :: (.slice (some ⟨gn, 0, none⟩) nt.length d) :: (.pointer (some ⟨w.heap.size, 0, none⟩)) :: undef :: (.pointer (some ⟨w.heap.size + 1, 0, none⟩)) :: (.pointer (some ⟨w2.heap.size, 0, none⟩)) :: (.pointer (some ⟨w2.heap.size + 1 + 1, 0, none⟩)) :: (.int .i64 (x.1 : Int)) :: (VS x.1) :: undef :: undef :: undef :: (.slice A ls.length c) :: (.slice (some ⟨gn, 0, none⟩) nt.length d) :: (.bool true) :: (.bool false) :: (.slice (some ⟨gn, 0, none⟩) nt.length d) :: (.int .i64 (nt.length : Int)) :: (.slice (some ⟨w1.heap.size, 0, none⟩) nt.length nt.length) :: (.agg #[.slice none 0 0, .slice none 0 0, .int .i64 0]) :: (.slice (some ⟨w2.heap.size + 1, 0, none⟩) 1 1) :: (.slice (some ⟨gn, 0, none⟩) nt.length d) :: (.func (.func 70) #[] #[.pointer (some ⟨w2.heap.size + 1 + 1 + 1, 0, none⟩)]) :: (.int .i64 (x.1 : Int)) :: (VS x.1) :: undef :: undef :: undef :: undef :: undef :: undef :: undef :: undef :: undef :: undef :: undef :: undef :: undef :: undef :: undef :: undef :: undef :: undef :: undef :: undef :: undef :: undef :: undef :: undef :: undef :: undef :: undef :: undef :: undef :: undef :: undef :: undef :: undef :: undef :: undef :: undef :: undef :: undef :: undef :: undef :: []), defers := [] }) ?assign ?body ?done ?stop)
  case assign =>
    intro l x W K hK
    unfold encM
    gi_wp2
    exact hK
  case stop =>
    rintro D co pre W hD ⟨k, hk, rfl⟩ ⟨rfl, hcr, hB, hno⟩ hK
    gi_wp2
    refine ⟨by simp, .inl ⟨_, _, rfl, run_takeDeferred hK, ?_⟩⟩
    have hc5 := cell_kept hcr (grownBy_putObj' _ D (.deferred none)) (fun r e => by cases e; exact ⟨_, hK, rfl⟩)
    refine ⟨.slice none 0 0, ?_, ⟨_, rfl, hB.trans (belowK_b (w := w) (Nat.le_refl _) W D _ _ (by omega) hK rfl rfl), .inr ⟨rfl, .inr ⟨hok, hno (k + 1) rfl⟩⟩⟩⟩
    simp [results, Try.results42, go_sem, hc5]
  case done =>
    rintro D ys W hD rfl hI hK
    have hI2 : INV w ls nt hn6.1 w.heap.size (w.heap.size + 1) w2.heap.size (w2.heap.size + 1 + 1) w1.heap.size W5.heap.size (.slice A ls.length c) (uptoM hn6.1 nt.length) W := hI
    have HI := Lib.hid hI2
    obtain ⟨V, T, vn, nx, M, -, -⟩ := hI
    have s5 := M.c5
    have s40 := M.c4.1
    have s41 := M.c4.2
    have hB := M.be
    have HB := Lib.hid hB
    clear hI2 M hB
    go_wp2
    have hK' := (KeepsOthers.setCell W ⟨w.heap.size + 1, 0, none⟩ (.slice (some ⟨w1.heap.size, 0, none⟩) nt.length nt.length)).same D _ hK rfl
    refine ⟨by simp, .inl ⟨_, _, rfl, run_takeDeferred hK', ?_⟩⟩
    have hc5 := cell_kept (World.cell?_setCell_same W ⟨w.heap.size + 1, 0, none⟩ (.slice (some ⟨w1.heap.size, 0, none⟩) nt.length nt.length) s40) (grownBy_putObj' _ D (.deferred none)) (fun r e => by cases e; exact ⟨_, hK', rfl⟩)
    obtain ⟨X, hX⟩ := tab_done hn6.2 HI.out AA.out (by omega) rfl (grownBy_putObj' (W.setCell ⟨w.heap.size + 1, 0, none⟩ (.slice (some ⟨w1.heap.size, 0, none⟩) nt.length nt.length)) D (.deferred none)) (fun r e => by cases e; exact ⟨_, hK', rfl⟩)
    refine ⟨.slice (some ⟨w1.heap.size, 0, none⟩) nt.length nt.length, ?_, ⟨_, rfl, (HB.out.setCell (p := ⟨w.heap.size + 1, 0, none⟩) (by simp) _).trans (belowK_b (w := w) (Nat.le_refl _) _ D _ _ (by omega) hK' rfl rfl), .inl ⟨w1.heap.size, X, rfl, hok, hX⟩⟩⟩
    simp [results, Try.results42, go_sem, hc5]
  case body =>
    rintro l pre ⟨m, hm⟩ W hI hlen
    obtain ⟨V, T, vn, nx, M, D, R⟩ := hI
    have hm0 : (0 : Int) ≤ (m : Int) := by omega
    have hm1 : (m : Int) < (nt.length : Int) := by omega
    obtain ⟨_, hVO⟩ := HNV.out m hm
    obtain ⟨A2, c2, e2⟩ := hVO.slice
    have hlm : (nt.getD m []).length ≤ 4 := by rw [List.getD_eq_getElem?_getD, List.getElem?_eq_getElem hm]; exact ((nok_has hok).2.2 m hm).1
    have CG := Lib.hid (implCgs (.slice A ls.length c) ls b W (O.out.below M.be) hl hr (VS m) (nt.getD m []) b2 (hVO.below M.be) (by omega))
    have CL := Lib.hid (show (castingsOf ls (nt.getD m [])) = csM ls nt m from rfl)
    rw [CL.out] at CG
    obtain ⟨ps, hps⟩ : ∃ ps, nt.getD m [] = ps := ⟨_, rfl⟩
    obtain ⟨cs, hcs⟩ : ∃ cs, csM ls nt m = cs := ⟨_, rfl⟩
    obtain ⟨np, hnp⟩ : ∃ n, ps.length = n := ⟨_, rfl⟩
    rw [hps] at hVO hlm e2
    rw [hcs] at CG
    rw [hnp] at e2 hlm
    rw [e2] at CG
    have HPS := Lib.hid hps
    have HCS := Lib.hid hcs
    have HNP := Lib.hid hnp
    have HCL := Lib.hid (show cs.length ≤ 1296 by rw [← hcs]; exact castings_few (nok_has hok).1 (by rw [getR hm]; exact ((nok_has hok).2.2 m hm).1))
    have HGN := Lib.hid (show gn < w.heap.size from World.block_lt_of_cell? w _ (HNV.out m hm).1)
    have HM := Lib.hid M
    have HVO := Lib.hid (e2 ▸ hVO)
    have HD := Lib.hid D
    have HR := Lib.hid R
    have x2 := M.c2
    show Code.wpIn _ _ _ _ _ { tmps := List.toArray ((.slice A ls.length c) :: (.slice (some ⟨gn, 0, none⟩) nt.length d) :: (.pointer (some ⟨w.heap.size, 0, none⟩)) :: undef :: (.pointer (some ⟨w.heap.size + 1, 0, none⟩)) :: (.pointer (some ⟨w2.heap.size, 0, none⟩)) :: (.pointer (some ⟨w2.heap.size + 1 + 1, 0, none⟩)) :: (.int .i64 (m : Int)) :: (VS m) :: undef :: undef :: undef :: (.slice A ls.length c) :: (.slice (some ⟨gn, 0, none⟩) nt.length d) :: (.bool true) :: (.bool false) :: (.slice (some ⟨gn, 0, none⟩) nt.length d) :: (.int .i64 (nt.length : Int)) :: (.slice (some ⟨w1.heap.size, 0, none⟩) nt.length nt.length) :: (.agg #[.slice none 0 0, .slice none 0 0, .int .i64 0]) :: (.slice (some ⟨w2.heap.size + 1, 0, none⟩) 1 1) :: (.slice (some ⟨gn, 0, none⟩) nt.length d) :: (.func (.func 70) #[] #[.pointer (some ⟨w2.heap.size + 1 + 1 + 1, 0, none⟩)]) :: (.int .i64 (m : Int)) :: (VS m) :: undef :: undef :: undef :: undef :: undef :: undef :: undef :: undef :: undef :: undef :: undef :: undef :: undef :: undef :: undef :: undef :: undef :: undef :: undef :: undef :: undef :: undef :: undef :: undef :: undef :: undef :: undef :: undef :: undef :: undef :: undef :: undef :: undef :: undef :: undef :: undef :: undef :: undef :: undef :: undef :: []), defers := [] } W
    rw [e2]
    clear hps hcs hnp hVO D R M CL e2
    have hgn := HGN.out
    gi_wp2_with (refine ⟨trivial, ?_⟩; gi_at_call 15; refine (CallsIn.inRound l (callsIn_wide.2 CG.out)).mono ?_; rintro e wc ⟨vc, rfl, oc, bc⟩; obtain ⟨A3, c3, rfl⟩ := oc.slice; have S0 := Lib.hid (STB.start (ls := ls) (nt := nt) (gn := gn) (Bs := w2.heap.size + 1 + 1 + 1) (m := m) HM.out bc oc); have hbc := bc.size; clear oc bc CG x2)
    gi_loopw [29] (fun iv wr => ∃ i : Nat, i ≤ cs.length ∧ iv = .int .i64 (i : Int) ∧ Hid (∃ V' ys, STB w ls nt w.heap.size (w.heap.size + 1) w2.heap.size (w2.heap.size + 1 + 1) w1.heap.size W5.heap.size (.slice A ls.length c) W wc.heap.size gn (w2.heap.size + 1 + 1 + 1) m T vn nx (.slice A3 cs.length c3) cs i wr V' ys)) (fun iv _ => cs.length - (intOf iv).toNat)
    case atStart => exact ⟨0, by omega, rfl, Lib.hid ⟨_, _, S0.out⟩⟩
    case round =>
      clear S0
      obtain ⟨i, hi, rfl, HS⟩ := hrel
      obtain ⟨V', ys, ST⟩ := HS.out
      clear HS
      have HT := Lib.hid ST
      obtain ⟨rc, rf, ro⟩ := ST.M.row m hm
      rw [upd_same] at ro
      obtain ⟨A5, c5, e5⟩ := ro.slice
      have HRO := Lib.hid ro
      have r5 := ST.M.c5
      by_cases hlt : i < cs.length
      rotate_left
      · obtain rfl : i = cs.length := by omega
        have HT2 := Lib.hid (show STB w ls nt w.heap.size (w.heap.size + 1) w2.heap.size (w2.heap.size + 1 + 1) w1.heap.size W5.heap.size (.slice A ls.length c) W wc.heap.size gn (w2.heap.size + 1 + 1 + 1) m T vn nx (.slice A3 cs.length c3) cs (csM ls nt m).length wr V' ys by rw [HCS.out]; exact HT.out)
        have r40 := ST.M.c4.1
        have r41 := ST.M.c4.2
        have r60 := ST.M.c6.1
        have r61 := ST.M.c6.2
        have E5 := Lib.hid e5
        rw [e5] at rc
        clear HRO ro ST HT
        by_cases h0 : (T m ++ ys).length = 0
        · have P := Lib.hid (HT2.out.stop (hn := hn6.1) (hm := hm) (pre := pre) AA.out h0)
          have H0 := Lib.hid h0
          rw [h0] at rc
          clear h0 e5
          gi_wp2
          exact P.out
        · have P := Lib.hid (HT2.out.go (hn := hn6.1) (hm := hm) (pre := pre) AA.out hgn (by omega) (by omega) hok HD.out HR.out hbc HM.out.be.size (by rw [HCS.out]; exact HCL.out) hlen)
          rw [e5] at P
          have h1 : (((T m ++ ys).length : Int) == 0) = false := by rw [beq_eq_false_iff_ne]; omega
          generalize (T m ++ ys).length = nL at rc h1 P
          clear h0 e5 E5
          gi_wp2
          exact P.out
      have hi0 : (0 : Int) ≤ (i : Int) := by omega
      have hi1 : (i : Int) < (cs.length : Int) := by omega
      have hle9 : i + 1 ≤ cs.length := by omega
      have MS9 := Lib.hid (show cs.length - (intOf (.int .i64 ((i : Int) + 1))).toNat < cs.length - (intOf (.int .i64 (i : Int))).toNat by simp [intOf]; omega)
      obtain ⟨g3, _, A4, c4, f1, x0, o4, b4⟩ := ST.C.at hlt
      simp only [Value.slice.injEq] at f1
      obtain ⟨rfl, -, rfl⟩ := f1
      have hgc : (csM ls nt m).getD i [] = cs[i] := by rw [HCS.out, List.getD_eq_getElem?_getD, List.getElem?_eq_getElem hlt]; rfl
      have hcl : cs[i].length ≤ 4 := by
        rw [← hgc, cast_len (cs_cast hm (by rw [HCS.out]; exact hlt)), HPS.out, HNP.out]
        exact hlm
      obtain ⟨ci, hci⟩ : ∃ ci, cs[i] = ci := ⟨_, rfl⟩
      rw [hci] at x0 o4 b4 hgc hcl
      obtain ⟨nq, hnq⟩ : ∃ q, ci.length = q := ⟨_, rfl⟩
      rw [hnq] at x0 o4 b4 hcl
      have GC := Lib.hid hgc
      have B4 := Lib.hid b4
      have O4 := Lib.hid o4
      obtain ⟨A6, c6, ev⟩ := ST.M.nxt.slice
      have hD1 := HD.out.nlen
      have BX := Lib.hid (show ∀ W9, Below wr.heap.size wr W9 → Calls Try.prog 43 #[.agg #[.slice A2 np c2, .slice A4 nq c4, .int .i64 0], vn] W9 (fun e w' => e = .returned (.tuple #[(bestW (sz ps ci) nx).agg, .int .i64 (sz ps ci (bestW (sz ps ci) nx))]) ∧ Below W9.heap.size W9 w') from fun W9 hb =>
        implBxt ⟨.slice A2 np c2, .slice A4 nq c4, ps, ci, 0⟩ (fun _ => True) _ vn nx W9 ⟨(HVO.out.below (ST.M.be.trans (hb.mono ST.M.be.size))).mono (Nat.zero_le _), (o4.below hb).mono (Nat.zero_le _), fun _ _ => trivial, fun _ _ => trivial⟩ (ST.M.nxt.below hb) (by omega) ST.M.one
          ⟨by have := HNP.out; show ps.length ≤ _; omega, by show ci.length ≤ _; omega, by show _ ≤ (0 : Int); omega, by show (0 : Int) ≤ _; omega⟩ (fun l hl => (HD.out.nlow l hl).low (by omega)))
      have r6 := ST.M.c6.1
      have BW := Lib.hid (ST.M.be)
      rw [ev] at BX r6
      have r6a := (elder r6).1 (.cells #[.slice A2 np c2, .slice A4 nq c4, .int .i64 0] 60)
      have EV := Lib.hid ev
      obtain ⟨nL, hnL⟩ : ∃ q, (T m ++ ys).length = q := ⟨_, rfl⟩
      have HNL := Lib.hid hnL
      rw [hnL] at e5
      clear hnL
      have E5 := Lib.hid e5
      have TT := Lib.hid (show sz ps ci (bestW (sz ps ci) nx) = sz ps ci (bestW (sz ps ci) nx) from rfl)
      generalize htt : sz ps ci (bestW (sz ps ci) nx) = t at BX
      have HTT := Lib.hid htt
      rw [e5] at rc
      clear htt TT ev ST o4 b4 ro e5 hgc hci hD1
      generalize bestW (sz ps ci) nx = bw at BX
      have BA := Lib.hid ((Below.refl wr.heap.size wr).alloc (Nat.le_refl _) (.cells #[.slice A2 np c2, .slice A4 nq c4, .int .i64 0] 60))
      gi_wp2_with (refine ⟨trivial, ?_⟩; gi_at_call 43; refine (CallsIn.inRound l (callsIn_wide.2 (BX.out _ BA.out))).mono ?_; rintro e w5 ⟨rfl, b5⟩; obtain ⟨n0, n1, n2, f0, f1, f2⟩ := newW b5; have B5 := Lib.hid (BA.out.trans (b5.mono BA.out.size)); clear b5 BX r6 r6a x0)
      rename_i K1 hK1
      have REST : ∀ (w9 : World) (V9 : Nat → Value) (y9 : List RWay) (q43 q44 q45 q46 q47 q48 q49 q50 q51 q52 q53 : Value), STB w ls nt w.heap.size (w.heap.size + 1) w2.heap.size (w2.heap.size + 1 + 1) w1.heap.size W5.heap.size (.slice A ls.length c) W wc.heap.size gn (w2.heap.size + 1 + 1 + 1) m T vn nx (.slice (some ⟨g3, 0, none⟩) cs.length c3) cs (i + 1) w9 V9 y9 → K1 { tmps := List.toArray ((.slice A ls.length c) :: (.slice (some ⟨gn, 0, none⟩) nt.length d) :: (.pointer (some ⟨w.heap.size, 0, none⟩)) :: undef :: (.pointer (some ⟨w.heap.size + 1, 0, none⟩)) :: (.pointer (some ⟨w2.heap.size, 0, none⟩)) :: (.pointer (some ⟨w2.heap.size + 1 + 1, 0, none⟩)) :: (.int .i64 (m : Int)) :: (.slice A2 np c2) :: undef :: (.slice A4 nq c4) :: (.pointer (some ⟨wr.heap.size, 0, none⟩)) :: (.slice A ls.length c) :: (.slice (some ⟨gn, 0, none⟩) nt.length d) :: (.bool true) :: (.bool false) :: (.slice (some ⟨gn, 0, none⟩) nt.length d) :: (.int .i64 (nt.length : Int)) :: (.slice (some ⟨w1.heap.size, 0, none⟩) nt.length nt.length) :: (.agg #[.slice none 0 0, .slice none 0 0, .int .i64 0]) :: (.slice (some ⟨w2.heap.size + 1, 0, none⟩) 1 1) :: (.slice (some ⟨gn, 0, none⟩) nt.length d) :: (.func (.func 70) #[] #[.pointer (some ⟨w2.heap.size + 1 + 1 + 1, 0, none⟩)]) :: (.int .i64 (m : Int)) :: (.slice A2 np c2) :: (.slice A ls.length c) :: (.slice A2 np c2) :: (.slice (some ⟨g3, 0, none⟩) cs.length c3) :: (.int .i64 (cs.length : Int)) :: (.int .i64 (i : Int)) :: (.bool true) :: (.pointer (some ⟨g3, i, none⟩)) :: (.slice A4 nq c4) :: (.slice A2 np c2) :: (.slice A4 nq c4) :: (.agg #[.slice A2 np c2, .slice A4 nq c4, .int .i64 0]) :: (.tuple #[bw.agg, .int .i64 t]) :: (.agg #[.slice A2 np c2, .slice A4 nq c4, .int .i64 0]) :: (.slice A6 nx.length c6) :: (.tuple #[bw.agg, .int .i64 t]) :: (bw.agg) :: (.int .i64 t) :: (.pointer (some ⟨wr.heap.size, 2, none⟩)) :: (q43) :: (q44) :: (q45) :: (q46) :: (q47) :: (q48) :: (q49) :: (q50) :: (q51) :: (q52) :: (q53) :: undef :: undef :: undef :: undef :: undef :: undef :: undef :: undef :: undef :: undef :: undef :: []), defers := [] } w9 := by
        intro w9 V9 y9 q43 q44 q45 q46 q47 q48 q49 q50 q51 q52 q53 st
        have P := Lib.hid (show ∃ V' ys, STB w ls nt w.heap.size (w.heap.size + 1) w2.heap.size (w2.heap.size + 1 + 1) w1.heap.size W5.heap.size (.slice A ls.length c) W wc.heap.size gn (w2.heap.size + 1 + 1 + 1) m T vn nx (.slice (some ⟨g3, 0, none⟩) cs.length c3) cs (i + 1) w9 V' ys from ⟨V9, y9, st⟩)
        clear st
        refine hK1 _ _ ?_
        clear hK1 n0 n1 n2 f0 f1 f2 rc rf r5
        have hcl9 := HCL.out
        have ei1 : IntKind.i64.wrap ((i : Int) + 1) = (i : Int) + 1 := IntWalk.i64_in _ (by omega)
        have ei2 : wrap64 ((i : Int) + 1) = (i : Int) + 1 := by unfold wrap64; omega
        gi_wp2
        exact ⟨⟨i + 1, hle9, by go_num, P⟩, MS9.out⟩
      have RESTH := Lib.hid REST
      clear REST hK1
      have hbw := BW.out.size
      have WB := Lib.hid HM.out.top
      obtain ⟨W6, hW6⟩ : ∃ W6, w5.setCell ⟨wr.heap.size, 2, none⟩ (.int .i64 t) = W6 := ⟨_, rfl⟩
      have B6 := Lib.hid (show Below wr.heap.size wr W6 by rw [← hW6]; exact B5.out.setCell (p := ⟨wr.heap.size, 2, none⟩) (Nat.le_refl _) _)
      have SF := Lib.hid (show ∀ W', Below W6.heap.size W6 W' → W'.cell? ⟨w2.heap.size, 0, none⟩ = some (.slice (some ⟨w1.heap.size, 0, none⟩) nt.length nt.length) ∧ W'.cell? ⟨wr.heap.size, 0, none⟩ = some (.slice A2 np c2) ∧ W'.cell? ⟨wr.heap.size, 1, none⟩ = some (.slice A4 nq c4) ∧ W'.cell? ⟨wr.heap.size, 2, none⟩ = some (.int .i64 t) from fun W' hb => by
        refine ⟨cell_below (cell_below r5 B6.out) hb, cell_below ?_ hb, cell_below ?_ hb, cell_below ?_ hb⟩
        · rw [← hW6]; exact (World.cell?_setCell_other _ _ _ _ (by intro e; injection e with _ e2 _; cases e2)).trans n0
        · rw [← hW6]; exact (World.cell?_setCell_other _ _ _ _ (by intro e; injection e with _ e2 _; cases e2)).trans n1
        · rw [← hW6]; exact World.cell?_setCell_same _ _ _ n2)
      have rc6 := cell_below rc B6.out
      rw [hW6]
      obtain ⟨W7, hW7⟩ : ∃ W7, W6.drew.alloc (.cells #[.slice A2 np c2, .slice A4 nq c4, .int .i64 t] 60) = W7 := ⟨_, rfl⟩
      have D7 := Lib.hid (show Below W6.heap.size W6 (W6.drew.alloc (.cells #[.slice A2 np c2, .slice A4 nq c4, .int .i64 t] 60)) from (Below.refl _ W6).drew.alloc (Nat.le_refl _) _)
      have B7 := Lib.hid (show Below wr.heap.size wr W7 by rw [← hW7]; exact B6.out.trans (D7.out.mono B6.out.size))
      have ST7 := Lib.hid (HT.out.below B7.out)
      have rc7 := cell_below rc B7.out
      have rc7' := rc7
      rw [← hW7] at rc7'
      have HO7 := Lib.hid (show OwnW W7 W5.heap.size (PV w nt.length W5.heap.size V' W7) (V' m) (T m ++ ys) by have q := (ST7.out.M.row m hm).2.2; rwa [upd_same] at q)
      have HV7 := Lib.hid (fun k (e : (V' m).ownBlock = some k) (p : PV w nt.length W5.heap.size V' W7 k) => (show False from p.2.2 m hm e))
      have HT7 := Lib.hid ST7.out.M.top
      have HL7 := Lib.hid (ST7.out.wayOk (t := t) HVO.out (O4.out.below B7.out) B4.out WB.out (by have := AA.out.lo.1; have := AA.out.hi.1; omega))
      have HX7 := Lib.hid (show W7.ownsRow W6.heap.size 60 3 (.slice (some ⟨W6.heap.size, 0, none⟩) 1 1) 1 [.slice A2 np c2, .slice A4 nq c4, .int .i64 t] by rw [← hW7]; exact oneWayRow W6.drew t (.slice A2 np c2) (.slice A4 nq c4) W6.heap.size (Nat.le_refl _))
      have HN7 := Lib.hid (show (T m ++ ys).length ≤ 1000000 by have := HD.out.len m hm; have := HT.out.Y.len; have := HCL.out; rw [List.length_append]; omega)
      have END := Lib.hid (show ∀ v8 w8, OwnW w8 W5.heap.size (PV w nt.length W5.heap.size V' W7) v8 ((T m ++ ys) ++ [⟨.slice A2 np c2, .slice A4 nq c4, ps, ci, t⟩]) → W7.grownBy w8 (V' m).ownBlock → (v8.ownBlock = (V' m).ownBlock ∨ v8.ownBlock = some W7.heap.size) →
          (∀ g j u, W7.cell? ⟨g, j, none⟩ = some u → ((V' m).ownBlock = some g → j < (T m ++ ys).length * 3) → w8.cell? ⟨g, j, none⟩ = some u) →
          (w8.cell? ⟨w1.heap.size, m, none⟩ = some (.slice A5 nL c5) ∧ w8.frozen? ⟨w1.heap.size, m, none⟩ = false ∧ STB w ls nt w.heap.size (w.heap.size + 1) w2.heap.size (w2.heap.size + 1 + 1) w1.heap.size W5.heap.size (.slice A ls.length c) W wc.heap.size gn (w2.heap.size + 1 + 1 + 1) m T vn nx (.slice (some ⟨g3, 0, none⟩) cs.length c3) cs (i + 1) (w8.setCell ⟨w1.heap.size, m, none⟩ v8) (upd V' m v8) (ys ++ [⟨.slice A2 np c2, .slice A4 nq c4, ps, ci, t⟩])) ∧
          (w8.cell? ⟨w2.heap.size, 0, none⟩ = some (.slice (some ⟨w1.heap.size, 0, none⟩) nt.length nt.length) ∧ w8.cell? ⟨wr.heap.size, 0, none⟩ = some (.slice A2 np c2) ∧ w8.cell? ⟨wr.heap.size, 1, none⟩ = some (.slice A4 nq c4) ∧ w8.cell? ⟨wr.heap.size, 2, none⟩ = some (.int .i64 t)) ∧
          ((w8.setCell ⟨w1.heap.size, m, none⟩ v8).cell? ⟨w2.heap.size, 0, none⟩ = some (.slice (some ⟨w1.heap.size, 0, none⟩) nt.length nt.length) ∧ (w8.setCell ⟨w1.heap.size, m, none⟩ v8).cell? ⟨wr.heap.size, 0, none⟩ = some (.slice A2 np c2) ∧ (w8.setCell ⟨w1.heap.size, m, none⟩ v8).cell? ⟨wr.heap.size, 1, none⟩ = some (.slice A4 nq c4) ∧ (w8.setCell ⟨w1.heap.size, m, none⟩ v8).cell? ⟨wr.heap.size, 2, none⟩ = some (.int .i64 t)) from by
        intro v8 w8 o8 g8 hat8 eld8
        have hvr := (HT.out.M.row m hm).2.2.lt
        have hgw1 : w1.heap.size < wr.heap.size := World.block_lt_of_cell? wr _ rc
        have q1 : ¬ ((V' m).ownBlock = some w2.heap.size) := fun e => by have := (hvr _ e).1; omega
        have q2 : ¬ ((V' m).ownBlock = some wr.heap.size) := fun e => by have := (hvr _ e).2; omega
        have q3 : ¬ ((V' m).ownBlock = some w1.heap.size) := fun e => by have := (hvr _ e).1; omega
        have s7 := SF.out W7 (by rw [← hW7]; exact D7.out)
        obtain ⟨a1, a2, a3, a4⟩ := s7
        have b1 := eld8 _ _ _ a1 (fun e => absurd e q1)
        have b2 := eld8 _ _ _ a2 (fun e => absurd e q2)
        have b3 := eld8 _ _ _ a3 (fun e => absurd e q2)
        have b4 := eld8 _ _ _ a4 (fun e => absurd e q2)
        have ne2 : w1.heap.size ≠ w2.heap.size := by omega
        have ne3 : w1.heap.size ≠ wr.heap.size := by omega
        have o1 : ∀ j, (w8.setCell ⟨w1.heap.size, m, none⟩ v8).cell? ⟨w2.heap.size, j, none⟩ = w8.cell? ⟨w2.heap.size, j, none⟩ := fun j => World.cell?_setCell_other _ _ _ _ (fun e => ne2 (congrArg Addr.block e))
        have o2 : ∀ j, (w8.setCell ⟨w1.heap.size, m, none⟩ v8).cell? ⟨wr.heap.size, j, none⟩ = w8.cell? ⟨wr.heap.size, j, none⟩ := fun j => World.cell?_setCell_other _ _ _ _ (fun e => ne3 (congrArg Addr.block e))
        refine ⟨⟨eld8 _ _ _ rc7 (fun e => absurd e q3), (frozen_in (grownIn_of g8) rc7 q3).trans (ST7.out.M.row m hm).2.1, ?_⟩, ⟨b1, b2, b3, b4⟩, (o1 0).trans b1, (o2 0).trans b2, (o2 1).trans b3, (o2 2).trans b4⟩
        exact ST7.out.push AA.out hm HGN.out ⟨by omega, by omega⟩ WB.out o8 g8 hat8 eld8 HPS.out.symm GC.out.symm (by rw [HPS.out, GC.out]; exact HTT.out.symm) B4.out)
      have D7w := Lib.hid (show Below W6.heap.size W6 W7 by rw [← hW7]; exact D7.out)
      clear hW6 n0 n1 n2 f0 f1 f2 rc r5 B5
      refine round_region_held (S := (fun W => W.cell? ⟨w2.heap.size, 0, none⟩ = some (.slice (some ⟨w1.heap.size, 0, none⟩) nt.length nt.length) ∧ W.cell? ⟨wr.heap.size, 0, none⟩ = some (.slice A2 np c2) ∧ W.cell? ⟨wr.heap.size, 1, none⟩ = some (.slice A4 nq c4) ∧ W.cell? ⟨wr.heap.size, 2, none⟩ = some (.int .i64 t))) (by kernel_rfl) (by kernel_rfl) (fun ⟨_, _, h⟩ => h) (SF.out _ (Below.refl _ _).drew) (fun hHeld => ?_)
      refine wpAnyH_take (i := 0) (v := .slice (some ⟨w1.heap.size, 0, none⟩) nt.length nt.length) rfl (by kernel_rfl) (by kernel_rfl) (by kernel_rfl) (fun _ _ _ h => h) (Or.inl ⟨by rfl, by intro W hSw; (try dsimp only at hSw); go_simp⟩) hHeld ?_
      try simp only [Act.put, List.getElem_toArray, List.getElem_cons_succ, List.getElem_cons_zero, List.setIfInBounds_toArray, List.set_cons_zero, List.set_cons_succ]
      refine wpAnyH_take (i := 1) (v := .int .i64 (m : Int)) rfl (by kernel_rfl) (by kernel_rfl) (by kernel_rfl) (fun _ _ _ h => h) (Or.inl ⟨by rfl, by intro W hSw; (try dsimp only at hSw); go_simp⟩) hHeld ?_
      try simp only [Act.put, List.getElem_toArray, List.getElem_cons_succ, List.getElem_cons_zero, List.setIfInBounds_toArray, List.set_cons_zero, List.set_cons_succ]
      refine wpAnyH_take (i := 2) (v := .slice (some ⟨w1.heap.size, 0, none⟩) nt.length nt.length) rfl (by kernel_rfl) (by kernel_rfl) (by kernel_rfl) (fun _ _ _ h => h) (Or.inl ⟨by rfl, by intro W hSw; (try dsimp only at hSw); go_simp⟩) hHeld ?_
      try simp only [Act.put, List.getElem_toArray, List.getElem_cons_succ, List.getElem_cons_zero, List.setIfInBounds_toArray, List.set_cons_zero, List.set_cons_succ]
      refine wpAnyH_take (i := 3) (v := .int .i64 (m : Int)) rfl (by kernel_rfl) (by kernel_rfl) (by kernel_rfl) (fun _ _ _ h => h) (Or.inl ⟨by rfl, by intro W hSw; (try dsimp only at hSw); go_simp⟩) hHeld ?_
      try simp only [Act.put, List.getElem_toArray, List.getElem_cons_succ, List.getElem_cons_zero, List.setIfInBounds_toArray, List.set_cons_zero, List.set_cons_succ]
      refine wpAnyH_take (i := 4) (v := .pointer (some ⟨w1.heap.size, m, none⟩)) rfl (by kernel_rfl) (by kernel_rfl) (by kernel_rfl) (fun _ _ _ h => h) (Or.inl ⟨by rfl, by intro W hSw; (try dsimp only at hSw); go_simp⟩) hHeld ?_
      try simp only [Act.put, List.getElem_toArray, List.getElem_cons_succ, List.getElem_cons_zero, List.setIfInBounds_toArray, List.set_cons_zero, List.set_cons_succ]
      refine wpAnyH_take (i := 6) (v := .agg #[.slice A2 np c2, .slice A4 nq c4, .int .i64 t]) rfl (by kernel_rfl) (by kernel_rfl) (by kernel_rfl) (fun _ _ _ h => h) (Or.inl ⟨by rfl, by intro W hSw; (try dsimp only at hSw); go_simp⟩) hHeld ?_
      try simp only [Act.put, List.getElem_toArray, List.getElem_cons_succ, List.getElem_cons_zero, List.setIfInBounds_toArray, List.set_cons_zero, List.set_cons_succ]
      refine wpAnyH_ready (rs := [5, 7]) (by kernel_rfl) (by simp) ?_
      refine AllReadyH.cons rfl (fun K hK => ?_) (AllReadyH.cons rfl (fun K hK => ?_) AllReadyH.nil)
      · go_simp
        go_wp2_with fail
        refine hK.out _ _ (SF.out _ (Below.refl _ _).drew) (fun hHeld => ?_)
        clear hK K
        try simp only [Act.put, List.getElem_toArray, List.getElem_cons_succ, List.getElem_cons_zero, List.setIfInBounds_toArray, List.set_cons_zero, List.set_cons_succ]
        refine wpAnyH_ready (rs := [7]) (by kernel_rfl) (by simp) ?_
        refine AllReadyH.cons rfl (fun K hK => ?_) AllReadyH.nil
        go_simp
        go_wp2_with fail
        refine hK.out _ _ (SF.out _ D7w.out) (fun hHeld => ?_)
        clear hK K
        try simp only [Act.put, List.getElem_toArray, List.getElem_cons_succ, List.getElem_cons_zero, List.setIfInBounds_toArray, List.set_cons_zero, List.set_cons_succ]
        refine wpAnyH_ready (rs := [8]) (by kernel_rfl) (by simp) ?_
        refine AllReadyH.cons rfl (fun K hK => ?_) AllReadyH.nil
        refine step_oneWay rfl (.tmp 48) (.tmp 50) rfl W5.heap.size W6.heap.size (PV w nt.length W5.heap.size V' W7) (V' m) (.slice (some ⟨W6.heap.size, 0, none⟩) 1 1) (T m ++ ys) ⟨.slice A2 np c2, .slice A4 nq c4, ps, ci, t⟩ (by rw [E5.out]; rfl) rfl HO7.out HV7.out HT7.out HL7.out HX7.out HN7.out ?_
        intro v8 w8 o8 g8 hat8 eld8
        obtain ⟨A8, c8, e8⟩ := o8.slice
        generalize (T m ++ ys ++ [(⟨.slice A2 np c2, .slice A4 nq c4, ps, ci, t⟩ : RWay)]).length = n8 at e8
        obtain ⟨R8, S8, S9⟩ := END.out v8 w8 o8 g8 hat8 eld8
        have R8 := Lib.hid R8
        have S8 := Lib.hid S8
        have S9 := Lib.hid S9
        have rc8 := R8.out.1
        have rf8 := R8.out.2.1
        have ST9 := Lib.hid R8.out.2.2
        clear o8 g8 hat8 eld8 R8
        subst e8
        go_wp2_with fail
        refine hK.out _ _ S8.out (fun hHeld => ?_)
        clear hK K
        try simp only [Act.put, List.getElem_toArray, List.getElem_cons_succ, List.getElem_cons_zero, List.setIfInBounds_toArray, List.set_cons_zero, List.set_cons_succ]
        refine wpAnyH_take (i := 9) (v := .pointer (some ⟨w1.heap.size, m, none⟩)) rfl (by kernel_rfl) (by kernel_rfl) (by kernel_rfl) (fun _ _ _ h => h) (Or.inl ⟨by rfl, by intro W hSw; (try dsimp only at hSw); go_simp⟩) hHeld ?_
        try simp only [Act.put, List.getElem_toArray, List.getElem_cons_succ, List.getElem_cons_zero, List.setIfInBounds_toArray, List.set_cons_zero, List.set_cons_succ]
        refine wpAnyH_ready (rs := [10]) (by kernel_rfl) (by simp) ?_
        refine AllReadyH.cons rfl (fun K hK => ?_) AllReadyH.nil
        go_simp
        go_wp2_with fail
        refine hK.out _ _ S9.out (fun hHeld => ?_)
        clear hK K
        try simp only [Act.put, List.getElem_toArray, List.getElem_cons_succ, List.getElem_cons_zero, List.setIfInBounds_toArray, List.set_cons_zero, List.set_cons_succ]
        refine wpAnyH_done (by kernel_rfl) ?_ _
        exact RESTH.out _ _ _ _ _ _ _ _ _ _ _ _ _ _ ST9.out
      · go_simp
        go_wp2_with fail
        refine hK.out _ _ (SF.out _ D7w.out) (fun hHeld => ?_)
        clear hK K
        try simp only [Act.put, List.getElem_toArray, List.getElem_cons_succ, List.getElem_cons_zero, List.setIfInBounds_toArray, List.set_cons_zero, List.set_cons_succ]
        refine wpAnyH_ready (rs := [5]) (by kernel_rfl) (by simp) ?_
        refine AllReadyH.cons rfl (fun K hK => ?_) AllReadyH.nil
        go_simp
        go_wp2_with fail
        refine hK.out _ _ (SF.out _ D7w.out) (fun hHeld => ?_)
        clear hK K
        try simp only [Act.put, List.getElem_toArray, List.getElem_cons_succ, List.getElem_cons_zero, List.setIfInBounds_toArray, List.set_cons_zero, List.set_cons_succ]
        refine wpAnyH_ready (rs := [8]) (by kernel_rfl) (by simp) ?_
        refine AllReadyH.cons rfl (fun K hK => ?_) AllReadyH.nil
        refine step_oneWay rfl (.tmp 48) (.tmp 50) rfl W5.heap.size W6.heap.size (PV w nt.length W5.heap.size V' W7) (V' m) (.slice (some ⟨W6.heap.size, 0, none⟩) 1 1) (T m ++ ys) ⟨.slice A2 np c2, .slice A4 nq c4, ps, ci, t⟩ (by rw [E5.out]; rfl) rfl HO7.out HV7.out HT7.out HL7.out HX7.out HN7.out ?_
        intro v8 w8 o8 g8 hat8 eld8
        obtain ⟨A8, c8, e8⟩ := o8.slice
        generalize (T m ++ ys ++ [(⟨.slice A2 np c2, .slice A4 nq c4, ps, ci, t⟩ : RWay)]).length = n8 at e8
        obtain ⟨R8, S8, S9⟩ := END.out v8 w8 o8 g8 hat8 eld8
        have R8 := Lib.hid R8
        have S8 := Lib.hid S8
        have S9 := Lib.hid S9
        have rc8 := R8.out.1
        have rf8 := R8.out.2.1
        have ST9 := Lib.hid R8.out.2.2
        clear o8 g8 hat8 eld8 R8
        subst e8
        go_wp2_with fail
        refine hK.out _ _ S8.out (fun hHeld => ?_)
        clear hK K
        try simp only [Act.put, List.getElem_toArray, List.getElem_cons_succ, List.getElem_cons_zero, List.setIfInBounds_toArray, List.set_cons_zero, List.set_cons_succ]
        refine wpAnyH_take (i := 9) (v := .pointer (some ⟨w1.heap.size, m, none⟩)) rfl (by kernel_rfl) (by kernel_rfl) (by kernel_rfl) (fun _ _ _ h => h) (Or.inl ⟨by rfl, by intro W hSw; (try dsimp only at hSw); go_simp⟩) hHeld ?_
        try simp only [Act.put, List.getElem_toArray, List.getElem_cons_succ, List.getElem_cons_zero, List.setIfInBounds_toArray, List.set_cons_zero, List.set_cons_succ]
        refine wpAnyH_ready (rs := [10]) (by kernel_rfl) (by simp) ?_
        refine AllReadyH.cons rfl (fun K hK => ?_) AllReadyH.nil
        go_simp
        go_wp2_with fail
        refine hK.out _ _ S9.out (fun hHeld => ?_)
        clear hK K
        try simp only [Act.put, List.getElem_toArray, List.getElem_cons_succ, List.getElem_cons_zero, List.setIfInBounds_toArray, List.set_cons_zero, List.set_cons_succ]
        refine wpAnyH_done (by kernel_rfl) ?_ _
        exact RESTH.out _ _ _ _ _ _ _ _ _ _ _ _ _ _ ST9.out

set_option maxRecDepth 100000 in
set_option maxHeartbeats 800000 in
theorem implWat (v : Value) (ls : List RPlayer) (b : Nat) (w : World) (h : OwnPlayer w b v ls) (hl : ls.length ≤ 2000000) (hr : ∀ k (hk : k < ls.length), ls[k].f0.length ≤ 2000000) (u : Value) (nt : List (List Int)) (b2 : Nat) (h2 : OwnR w b2 u nt) (hn : nt.length ≤ 2000000) (hnr : ∀ k (hk : k < nt.length), nt[k].length ≤ 2000000) :
    Calls Try.prog 42 #[v, u] w (WatPost w ls nt) := by
  cases hok : nightOk ls nt with
  | true => exact implWat1 v ls b w h hl hr u nt b2 h2 hn hnr hok
  | false =>
    have CK := Lib.hid (hok ▸ implNOk v ls b ((w.alloc (.cells #[v] 24)).alloc (.cells #[.slice none 0 0] 57)) ((h.alloc _).alloc _) hl hr u nt b2 ((h2.alloc _).alloc _) hn hnr)
    obtain ⟨A, c, rfl⟩ := h.slice
    obtain ⟨D, d, rfl⟩ := h2.slice
    have HOK := Lib.hid hok
    clear h h2 hok hr hnr
    go_enter Try.func42, Try.ntmps42
    go_wp2_with fail
    refine CK.out.mono ?_
    rintro e w1 ⟨rfl, b1⟩
    have B1 := Lib.hid ((((Below.refl w.heap.size w).alloc (Nat.le_refl _) (.cells #[.slice A ls.length c] 24)).alloc (by simp) (.cells #[.slice none 0 0] 57)).trans (b1.mono (by simp; omega)))
    have X4 := (show Bx w1 (w.heap.size + 1) (.slice none 0 0) from by
      have q := Bx.new (w.alloc (.cells #[.slice A ls.length c] 24)) (.slice none 0 0) 57
      rw [World.size_alloc] at q
      exact q.below b1)
    obtain ⟨x0, x1⟩ := X4
    clear b1 CK
    go_wp2
    have hc5 := World.cell?_setCell_same w1 ⟨w.heap.size + 1, 0, none⟩ (.slice none 0 0) x0
    refine bodyPost_ret (v := .slice none 0 0) (by simp [results, Try.results42, go_sem, hc5]) rfl ⟨_, rfl, B1.out.setCell (p := ⟨w.heap.size + 1, 0, none⟩) (by simp) _, .inr ⟨rfl, .inl HOK.out⟩⟩
end Go.Proofs.Ytanlfkkmnnjpeaa

/- The contract of the program's FewestChanges. Condition: the players and the rows of numbers are the call's own. -/
namespace Go.Proofs.Ytanlfkkmnnjpeaa
set_option linter.unusedVariables false
set_option linter.unusedSimpArgs false
open Go.RowKit

set_option maxRecDepth 100000 in
set_option maxHeartbeats 1600000 in
theorem implFew (v : Value) (ls : List RPlayer) (b : Nat) (w : World) (h : OwnPlayer w b v ls) (hl : ls.length ≤ 2000000) (hr : ∀ k (hk : k < ls.length), ls[k].f0.length ≤ 2000000) (u : Value) (nt : List (List Int)) (b2 : Nat) (h2 : OwnR w b2 u nt) (hn : nt.length ≤ 2000000) (hnr : ∀ k (hk : k < nt.length), nt[k].length ≤ 2000000) :
    Calls Try.prog 12 #[v, u] w fun e w' => e = .returned (.int .i64 (fewest ls nt)) ∧ Below w.heap.size w w' := by
  have CW := Lib.hid (implWat v ls b w h hl hr u nt b2 h2 hn hnr)
  obtain ⟨A, c, rfl⟩ := h.slice
  obtain ⟨D, d, rfl⟩ := h2.slice
  clear h h2 hr hnr
  go_enter Try.func12, Try.ntmps12
  go_wp2_with fail
  refine CW.out.mono ?_
  rintro e w1 ⟨x, rfl, b1, hx⟩
  have B1 := Lib.hid b1
  clear CW b1
  rcases hx with ⟨g, X, rfl, hok, tb⟩ | ⟨rfl, hno⟩
  · have hn6 := (nok_has hok).2.1
    have hlt : 0 < nt.length := by omega
    obtain ⟨V, hV, vw⟩ := tb.cell 0 hlt
    obtain ⟨w0, w0n⟩ := tb.ways 0 hlt
    have R := Lib.hid (few_seq hok tb.ways)
    have CB := Lib.hid (implBxt RWay.zero (fun _ => True) (fun _ => True) V (X 0) w1 (WayOk.zero _ _) vw (tb.few 0 hlt) w0n ⟨by simp [RWay.zero], by simp [RWay.zero], by simp [RWay.zero], by simp [RWay.zero]⟩ (tb.low 0 hlt))
    obtain ⟨A5, c5, e5⟩ := vw.slice
    have hwb := vw.ok _ (bestW_mem (sizeW RWay.zero) w0n)
    subst e5
    have n0 : ((nt.length : Int) == 0) = false := by rw [beq_eq_false_iff_ne]; omega
    have n1 : (0 : Int) < (nt.length : Int) := by omega
    rw [← R.out] at CB
    generalize bestW (sizeW RWay.zero) (X 0) = l at CB hwb
    obtain ⟨u1, u2, p1, q1, z1⟩ := l
    obtain ⟨A3, c3, rfl⟩ := OwnI.slice (show OwnI w1 0 u1 p1 from hwb.o1)
    obtain ⟨A4, c4, rfl⟩ := OwnI.slice (show OwnI w1 0 u2 q1 from hwb.o2)
    have CB2 := Lib.hid (show Calls Try.prog 43 #[.agg #[.slice none 0 0, .slice none 0 0, .int .i64 0], .slice A5 (X 0).length c5] w1 (fun e w' => e = .returned (.tuple #[.agg #[.slice A3 p1.length c3, .slice A4 q1.length c4, .int .i64 z1], .int .i64 (fewest ls nt)]) ∧ Below w1.heap.size w1 w') from CB.out)
    clear CB hwb vw w0 w0n tb R hok
    generalize (X 0).length = nx at hV CB2
    generalize hfw : fewest ls nt = fw at CB2
    have HF := Lib.hid hfw
    clear hfw
    go_wp2_with (go_at_call 43; refine CB2.out.mono ?_; rintro e w3 ⟨rfl, b3⟩; have B3 := Lib.hid (B1.out.trans (b3.mono B1.out.size)); clear b3)
    go_ret
    exact ⟨by rw [HF.out]; rfl, B3.out.alloc B3.out.size _⟩
  · have R := Lib.hid (show fewest ls nt = -1 by
      rcases hno with q | ⟨q, m, hm, e⟩
      · unfold fewest; rw [q]; rfl
      · exact (few_none q hm e).1)
    go_wp2
    go_ret
    exact ⟨by rw [R.out]; try rfl, B1.out⟩
end Go.Proofs.Ytanlfkkmnnjpeaa

/- The contract of the program's BestNight: its castings lie in blocks of their own. Condition: the players and the rows of numbers are the call's own. -/
namespace Go.Proofs.Ytanlfkkmnnjpeaa
set_option linter.unusedVariables false
set_option linter.unusedSimpArgs false
open Go.RowKit

section
variable {w w' : World} {base : Nat} {v : Value} {vs : List Value} {zss : List (List Int)}
/-- One row more behind rows that lie apart from it. -/
theorem snocRX {u v' : Value} {zs : List Int} (h : OwnRR w base v vs zss) (hu : OwnI w base u zs) (uoff : u.ownBlock = none ∨ u.ownBlock ≠ v.ownBlock) (uap : ∀ i (hi : i < vs.length), u.ownBlock = none ∨ u.ownBlock ≠ vs[i].ownBlock)
    (o : w'.ownsRow base 33 1 v' (zss.length + 1) (vs ++ [u])) (hg : w.grownBy w' v.ownBlock) (hat : v'.ownBlock = v.ownBlock ∨ v'.ownBlock = some w.heap.size) : OwnRR w' base v' (vs ++ [u]) (zss ++ [zs]) := by
  have lt1 : ∀ i (hi : i < vs.length) b, vs[i].ownBlock = some b → b < w.heap.size := fun i hi b e => ((h.each i hi (by rw [← h.len]; exact hi)).lt b e).2
  refine ⟨by simpa using o, by simp [h.len], fun i hi hi' => ?_, fun i hi => ?_, fun i j hi hj hij => ?_⟩
  · by_cases e : i < vs.length
    · rw [List.getElem_append_left e, List.getElem_append_left (by rw [← h.len]; exact e)]
      exact (h.each i e (by rw [← h.len]; exact e)).kept hg (h.off i e)
    · have e2 : i = vs.length := by simp at hi; omega
      subst e2
      have e3 : (zss ++ [zs])[vs.length] = zs := by rw [List.getElem_append_right (by rw [h.len]; exact Nat.le_refl _)]; simp [h.len]
      rw [e3]
      simp only [List.getElem_concat_length]
      exact hu.kept hg uoff
  · by_cases e : i < vs.length
    · rw [List.getElem_append_left e]
      rcases hat with hat | hat <;> rw [hat]
      · exact h.off i e
      · exact sep_of fun b e1 e2 => by have := lt1 i e b e1; have := Option.some.inj e2; omega
    · have e2 : i = vs.length := by simp at hi; omega
      subst e2
      simp only [List.getElem_concat_length]
      rcases hat with hat | hat <;> rw [hat]
      · exact uoff
      · exact sep_of fun b e1 e2 => by have := (hu.lt b e1).2; have := Option.some.inj e2; omega
  · by_cases e : i < vs.length
    · rw [List.getElem_append_left e]
      by_cases f : j < vs.length
      · rw [List.getElem_append_left f]
        exact h.apart i j e f hij
      · have e2 : j = vs.length := by simp at hj; omega
        subst e2
        simp only [List.getElem_concat_length]
        rcases uap i e with z | z
        · rw [z]; cases vs[i].ownBlock <;> simp
        · exact .inr (Ne.symm z)
    · have e2 : i = vs.length := by simp at hi; omega
      subst e2
      have f : j < vs.length := by simp at hj; omega
      rw [List.getElem_append_left f]
      simp only [List.getElem_concat_length]
      exact uap j f
theorem run_rowRX (ty : TypeId) (b2 : Nat) {u x : Value} {zs : List Int} (h : OwnRR w base v vs zss) (hu : OwnI w base u zs) (uoff : u.ownBlock = none ∨ u.ownBlock ≠ v.ownBlock) (uap : ∀ i (hi : i < vs.length), u.ownBlock = none ∨ u.ownBlock ≠ vs[i].ownBlock)
    (hx : w.ownsRow b2 33 1 x 1 [u]) (hw : base ≤ w.heap.size) (hl : zss.length ≤ 4000000) :
    ∃ v' w', (Builtin.append_ #[25, 25] ty #[v, x]).run Try.prog w = .ok v' w' ∧ OwnRR w' base v' (vs ++ [u]) (zss ++ [zs]) ∧ w.grownBy w' v.ownBlock ∧ (v'.ownBlock = v.ownBlock ∨ v'.ownBlock = some w.heap.size) := by
  obtain ⟨i, hi, hz, hs, hbd⟩ := info_parts info_ints
  obtain ⟨A, c, rfl⟩ := hu.slice
  rcases id hx.2 with ⟨_, hn⟩ | ⟨g, cap, cur, rfl, _⟩
  · omega
  · obtain ⟨v', w', hr, o, g1, _, hat⟩ := run_append_own_at (P := Try.prog) w base 25 ty 33 i (.slice none 0 0) 1 24 Try.underlying25 hi hz hs hbd rfl (by omega) v zss.length vs h.row
      ⟨g, 0, none⟩ 1 cap [.slice A zs.length c] (by simp) (World.ownsRow.cells hx rfl) (by simp [Value.oneCell']) (by simp only [maxLen]; omega) (by omega) hw
    exact ⟨v', w', hr, snocRX h hu uoff uap o g1 hat, g1, hat⟩
end
section
variable {w : World} {o : Oper} {a : Act} {Q : Exit → Act → World → Prop}
theorem wpList_rowRX {ops : Array Oper} {rest : List Oper} (hgd : o.guard = none) (s y : Operand) (ho : o.op = .call { callee := .builtin .append, args := #[s, y], argTypes := #[25, 25] })
    (base b2 : Nat) (v x u : Value) (vs : List Value) (zss : List (List Int)) (zs : List Int) (hs : a.eval s = v) (hy : a.eval y = x) (h : OwnRR w base v vs zss) (hu : OwnI w base u zs) (uoff : u.ownBlock = none ∨ u.ownBlock ≠ v.ownBlock) (uap : ∀ i (hi : i < vs.length), u.ownBlock = none ∨ u.ownBlock ≠ vs[i].ownBlock)
    (hx : w.ownsRow b2 33 1 x 1 [u]) (hw : base ≤ w.heap.size) (hl : zss.length ≤ 4000000)
    (hk : ∀ v' w', OwnRR w' base v' (vs ++ [u]) (zss ++ [zs]) → w.grownBy w' v.ownBlock → (v'.ownBlock = v.ownBlock ∨ v'.ownBlock = some w.heap.size) → wpList Try.prog ops Q rest (a.put o.dst v') w') : wpList Try.prog ops Q (o :: rest) a w :=
  wpList_plain hgd fun K hK => by
    obtain ⟨v', w', hrun, e2, e3, e4⟩ := run_rowRX (ty := o.type) b2 h hu uoff uap hx hw hl
    unfold Oper.wp execOp
    simp only [ho, resolve, invoke, builtin, Sem.run_bind, Sem.run_pure, Result.andThen_ok, List.map_toArray, List.map_cons, List.map_nil, hs, hy, hrun]
    exact hK _ _ (hk v' w' e2 e3 e4)
end
theorem OwnRR.inn {w w' : World} {base : Nat} {v : Value} {vs : List Value} {zss : List (List Int)} {P : Nat → Prop} (h : OwnRR w base v vs zss) (g : GrownIn w w' P) (hv : ∀ i, v.ownBlock = some i → ¬ P i) (hp : ∀ t (ht : t < vs.length) i, vs[t].ownBlock = some i → ¬ P i) : OwnRR w' base v vs zss :=
  ⟨ownsRow_in h.row g hv, h.len, fun i hi hi' => (h.each i hi hi').in g (hp i hi), h.off, h.apart⟩
theorem Bx3.in3 {W W' : World} {b : Nat} {x y z : Value} {Q : Nat → Prop} (h : Bx3 W b x y z) (g : GrownIn W W' Q) (hq : ¬ Q b) : Bx3 W' b x y z :=
  ⟨g.cell h.c0 hq, g.cell h.c1 hq, g.cell h.c2 hq, (frozen_in g h.c0 hq).trans h.f0, (frozen_in g h.c1 hq).trans h.f1, (frozen_in g h.c2 hq).trans h.f2⟩
theorem OwnI.raise {w : World} {b B : Nat} {v : Value} {zs : List Int} (h : OwnI w b v zs) (hB : ∀ k, v.ownBlock = some k → B ≤ k) : OwnI w B v zs := by
  obtain ⟨h1, h2⟩ := h
  refine ⟨h1, ?_⟩
  rcases h2 with h2 | ⟨g, cap, cur, e, _, rest⟩
  · exact .inl h2
  · exact .inr ⟨g, cap, cur, e, hB g (by rw [e]; rfl), rest⟩
/-- The castings of the first m moments, and the slices that hold them. -/
def ccs (X : Nat → List RWay) (m : Nat) : List (List Int) := (List.range m).map (fun k => (atS X (k + 1)).cs)
def ccv (X : Nat → List RWay) (m : Nat) : List Value := (List.range m).map (fun k => (atS X (k + 1)).u2)
theorem ccs_next (X : Nat → List RWay) (m : Nat) : ccs X (m + 1) = ccs X m ++ [(atS X (m + 1)).cs] := by unfold ccs; rw [List.range_succ, List.map_append]; rfl
theorem ccv_next (X : Nat → List RWay) (m : Nat) : ccv X (m + 1) = ccv X m ++ [(atS X (m + 1)).u2] := by unfold ccv; rw [List.range_succ, List.map_append]; rfl
theorem gap_chain {n : Nat} {lo hi : Nat → Nat} (h : ∀ m, m < n → (m + 1 < n → hi (m + 1) ≤ lo m) ∧ lo m ≤ hi m) {k m : Nat} (hk : k < m) (hm : m < n) : hi m ≤ lo k := by
  induction m with
  | zero => omega
  | succ m ih =>
    rcases (by omega : k = m ∨ k < m) with rfl | q
    · exact (h k (by omega)).1 hm
    · have := ih q (by omega)
      have a := (h m (by omega)).1 hm
      have b := (h m (by omega)).2
      omega

set_option maxRecDepth 100000 in
set_option maxHeartbeats 3200000 in
theorem implBnt (v : Value) (ls : List RPlayer) (b : Nat) (w : World) (h : OwnPlayer w b v ls) (hl : ls.length ≤ 2000000) (hr : ∀ k (hk : k < ls.length), ls[k].f0.length ≤ 2000000) (u : Value) (nt : List (List Int)) (b2 : Nat) (h2 : OwnR w b2 u nt) (hn : nt.length ≤ 2000000) (hnr : ∀ k (hk : k < nt.length), nt[k].length ≤ 2000000) :
    Calls Try.prog 13 #[v, u] w (RowsB w (bestNight ls nt)) := by
  have CW := Lib.hid (implWat v ls b w h hl hr u nt b2 h2 hn hnr)
  obtain ⟨A, c, rfl⟩ := h.slice
  obtain ⟨D, d, rfl⟩ := h2.slice
  clear h h2 hr hnr
  go_enter Try.func13, Try.ntmps13
  go_wp2_with fail
  refine CW.out.mono ?_
  rintro e w1 ⟨x, rfl, b1, hx⟩
  have B1 := Lib.hid b1
  have hs1 := b1.size
  clear CW b1
  rcases hx with ⟨g, X, rfl, hok, tb⟩ | ⟨rfl, hno⟩
  rotate_left
  · have R := Lib.hid (show bestNight ls nt = ([], false) by
      rcases hno with q | ⟨q, m, hm, e⟩
      · unfold bestNight fewest; rw [q]; rfl
      · exact (few_none q hm e).2)
    go_wp2
    go_ret2
    exact ⟨_, by rw [R.out]; rfl, by rw [R.out]; exact nilR _ _, B1.out⟩
  have hn6 := (nok_has hok).2.1
  have n0 : ((nt.length : Int) == 0) = false := by rw [beq_eq_false_iff_ne]; omega
  have R := Lib.hid (best_seq hok tb.ways)
  have TB := Lib.hid tb
  have AM := Lib.hid (show ∀ m, m < nt.length → atS X (m + 1) ∈ X m from fun m hm => bestW_mem (sizeW (atS X m)) (tb.ways m hm).2)
  have LOW := Lib.hid (show ∀ m, m ≤ nt.length → Low (atS X m) from fun m hm => by
    cases m with
    | zero => exact ⟨by simp [atS, RWay.zero], by simp [atS, RWay.zero], by simp [atS, RWay.zero], by simp [atS, RWay.zero]⟩
    | succ m => exact tb.low m (by omega) _ (AM.out m (by omega)))
  have OKW := Lib.hid (show ∀ m, m ≤ nt.length → WayOk w1 (fun _ => True) (atS X m) from fun m hm => by
    cases m with
    | zero => exact WayOk.zero _ _
    | succ m =>
      obtain ⟨V, _, vw⟩ := tb.cell m (by omega)
      exact vw.ok _ (AM.out m (by omega)))
  obtain ⟨lo, hi, G⟩ := tb.gap
  have BLK := Lib.hid (show ∀ m, m < nt.length → ∀ b, (atS X (m + 1)).u2.ownBlock = some b → w.heap.size ≤ b ∧ b < w1.heap.size ∧ ∀ k, k < m → (atS X (k + 1)).u2.ownBlock ≠ some b from fun m hm b e => by
    obtain ⟨g1, g2, g3, g4, g5⟩ := G m hm
    have q := g1 _ (AM.out m hm) b e
    refine ⟨by omega, by omega, fun k hk e2 => ?_⟩
    have q2 := (G k (by omega)).1 _ (AM.out k (by omega)) b e2
    have q3 := gap_chain (n := nt.length) (lo := lo) (hi := hi) (fun j hj => ⟨(G j hj).2.2.2.1, (G j hj).2.2.2.2⟩) hk hm
    omega)
  have X0 := Lib.hid (Bx3.new w1 (.slice none 0 0) (.slice none 0 0) (.int .i64 0) 60)
  have B2 := Lib.hid (show Below w1.heap.size w1 (w1.alloc (.cells #[.slice none 0 0, .slice none 0 0, .int .i64 0] 60)) from (Below.refl _ _).alloc (Nat.le_refl _) _)
  clear tb hok G
  have CVL := Lib.hid (show ∀ m t (ht : t < (ccv X m).length), t < m ∧ (ccv X m)[t] = (atS X (t + 1)).u2 from fun m t ht => ⟨by simpa [ccv] using ht, by simp [ccv]⟩)
  go_wp2_with fail
  go_loopw [7, 19] (fun ov mv wr => ∃ (m : Nat) (vo : Value), vo = ov ∧ m ≤ nt.length ∧ mv = .int .i64 (m : Int) ∧ Hid (OwnRR wr w.heap.size vo (ccv X m) (ccs X m)) ∧ Hid (∀ b, vo.ownBlock = some b → w1.heap.size < b) ∧ Hid (Bx3 wr w1.heap.size (atS X m).u1 (atS X m).u2 (.int .i64 (atS X m).ah)) ∧ Hid (Below w1.heap.size w1 wr)) (fun _ mv _ => nt.length - (intOf mv).toNat)
  case atStart => exact ⟨0, _, rfl, by omega, rfl, Lib.hid ⟨⟨rfl, .inl ⟨rfl, rfl⟩⟩, rfl, fun k hk => absurd hk (by simp [ccv]), fun k hk => absurd hk (by simp [ccv]), fun i j hi => absurd hi (by simp [ccv])⟩, Lib.hid (fun b e => by cases e), X0, B2⟩
  case round =>
    clear X0 B2
    obtain ⟨m, vo, rfl, hm, rfl, OO, VB, B8, BW⟩ := hrel
    by_cases hlt : m < nt.length
    rotate_left
    · obtain rfl : m = nt.length := by omega
      have F := Lib.hid (show OwnR wr w.heap.size vo (bestNight ls nt).1 by rw [R.out]; exact ⟨_, OO.out⟩)
      have F2 := Lib.hid (show (bestNight ls nt).2 = true by rw [R.out])
      go_wp2
      go_ret2
      exact ⟨_, by rw [F2.out]; rfl, F.out, B1.out.trans (BW.out.mono hs1)⟩
    have hm0 : (0 : Int) ≤ (m : Int) := by omega
    have hm1 : (m : Int) < (nt.length : Int) := by omega
    obtain ⟨V, hV, vw⟩ := TB.out.cell m hlt
    replace hV := cell_below hV BW.out
    have CB := Lib.hid (show Calls Try.prog 43 #[(atS X m).agg, V] wr (fun e w' => e = .returned (.tuple #[(atS X (m + 1)).agg, .int .i64 (sizeW (atS X m) (atS X (m + 1)))]) ∧ Below wr.heap.size wr w') from
      implBxt (atS X m) (fun _ => True) (fun _ => True) V (X m) wr ((OKW.out m hm).below BW.out) (vw.below BW.out) (TB.out.few m hlt) (TB.out.ways m hlt).2 (LOW.out m hm) (TB.out.low m hlt))
    obtain ⟨A5, c5, e5⟩ := vw.slice
    subst e5
    have hwa := OKW.out m hm
    have hwl := OKW.out (m + 1) (by omega)
    have BK := Lib.hid (BLK.out m hlt)
    have NX1 := Lib.hid (ccs_next X m)
    have NX2 := Lib.hid (ccv_next X m)
    have CV := Lib.hid (CVL.out m)
    have CLn := Lib.hid (show (ccs X m).length ≤ 4000000 by unfold ccs; rw [List.length_map, List.length_range]; omega)
    generalize sizeW (atS X m) (atS X (m + 1)) = tt at CB
    generalize hl' : atS X (m + 1) = l at CB hwl BK NX1 NX2
    have HL := Lib.hid hl'
    clear hl'
    generalize atS X m = a at CB hwa B8
    obtain ⟨a1, a2, a3, a4, a5⟩ := a
    obtain ⟨A1, c1, rfl⟩ := OwnI.slice (show OwnI w1 0 a1 a3 from hwa.o1)
    obtain ⟨A2, c2, rfl⟩ := OwnI.slice (show OwnI w1 0 a2 a4 from hwa.o2)
    obtain ⟨l1, l2, l3, l4, l5⟩ := l
    obtain ⟨A3, c3, rfl⟩ := OwnI.slice (show OwnI w1 0 l1 l3 from hwl.o1)
    obtain ⟨A4, c4, rfl⟩ := OwnI.slice (show OwnI w1 0 l2 l4 from hwl.o2)
    have CB2 := Lib.hid (show Calls Try.prog 43 #[.agg #[.slice A1 a3.length c1, .slice A2 a4.length c2, .int .i64 a5], .slice A5 (X m).length c5] wr (fun e w' => e = .returned (.tuple #[.agg #[.slice A3 l3.length c3, .slice A4 l4.length c4, .int .i64 l5], .int .i64 tt]) ∧ Below wr.heap.size wr w') from CB.out)
    have OU := Lib.hid (OwnI.raise (show OwnI w1 0 (.slice A4 l4.length c4) l4 from hwl.o2) (fun k e => (BK.out k e).1))
    have d0 := B8.out.c0
    have d1 := B8.out.c1
    have d2 := B8.out.c2
    dsimp only at d0 d1 d2
    dsimp only at NX1 NX2 BK
    clear CB hwa hwl vw
    generalize (X m).length = nx at hV CB2
    generalize a3.length = n3 at d0 CB2
    generalize a4.length = n4 at d1 CB2
    obtain ⟨k3, hk3⟩ : ∃ k, l3.length = k := ⟨_, rfl⟩
    rw [hk3] at CB2
    have HK3 := Lib.hid hk3
    clear hk3
    obtain ⟨k4, hk4⟩ : ∃ k, l4.length = k := ⟨_, rfl⟩
    rw [hk4] at CB2 OU BK NX2
    have HK4 := Lib.hid hk4
    clear hk4
    go_wp2_with fail
    refine CB2.out.mono ?_
    rintro e w3 ⟨rfl, b3⟩
    have hbr := BW.out.size
    have h3 := b3.size
    have Z8 := Lib.hid (B8.out.below b3)
    have W3 := Lib.hid (BW.out.trans (b3.mono hbr))
    have O3 := Lib.hid (OO.out.below b3)
    clear b3 CB2 d0 d1 d2 hV
    obtain ⟨W4, hW4⟩ : ∃ W4, ((w3.setCell ⟨w1.heap.size, 0, none⟩ (.slice A3 k3 c3)).setCell ⟨w1.heap.size, 1, none⟩ (.slice A4 k4 c4)).setCell ⟨w1.heap.size, 2, none⟩ (.int .i64 l5) = W4 := ⟨_, rfl⟩
    have Z4 := Lib.hid (show Bx3 W4 w1.heap.size (.slice A3 k3 c3) (.slice A4 k4 c4) (.int .i64 l5) from hW4 ▸ Z8.out.put)
    have G4 := Lib.hid (show w3.grownBy W4 (some w1.heap.size) from hW4 ▸ put3_grown w3 w1.heap.size (.slice A3 k3 c3) (.slice A4 k4 c4) (.int .i64 l5))
    have hs4 := G4.out.size
    have W4b := Lib.hid (W3.out.grown G4.out W3.out.size (fun k e => by have := Option.some.inj e; omega))
    have O4 := Lib.hid (O3.out.inn (grownIn_of G4.out) (fun i e q => by have := VB.out i e; have := Option.some.inj q; omega) (fun t ht i e q => by
      obtain ⟨q1, q2⟩ := CV.out t ht
      rw [q2] at e
      have := (BLK.out t (by omega) i e).2.1
      have := Option.some.inj q
      omega))
    have U4 := Lib.hid (OU.out.below W4b.out)
    have UO := Lib.hid (show (Value.slice A4 k4 c4).ownBlock = none ∨ (Value.slice A4 k4 c4).ownBlock ≠ vo.ownBlock from sep_of fun b e1 e2 => by have := (BK.out b e1).2.1; have := VB.out b e2; omega)
    have UA := Lib.hid (show ∀ i (hi : i < (ccv X m).length), (Value.slice A4 k4 c4).ownBlock = none ∨ (Value.slice A4 k4 c4).ownBlock ≠ (ccv X m)[i].ownBlock from fun i hi => sep_of fun b e1 e2 => by
      obtain ⟨q1, q2⟩ := CV.out i hi
      rw [q2] at e2
      exact (BK.out b e1).2.2 i q1 e2)
    have X5 := Lib.hid (oneRow W4 (.slice A4 k4 c4) W4.heap.size (Nat.le_refl _))
    have hw4 : w.heap.size ≤ W4.heap.size := by omega
    have p0 := Z8.out.c0
    have p1 := Z8.out.c1
    have p2 := Z8.out.c2
    have p3 := Z8.out.f0
    have p4 := Z8.out.f1
    have p5 := Z8.out.f2
    have r1 := Z4.out.c1
    clear OO B8 BW Z8 W3 O3
    have BAL := Lib.hid ((Below.refl W4.heap.size W4).alloc (Nat.le_refl _) (.cells #[.slice A4 k4 c4] 33))
    go_wp2_with (at_builtin; refine wpList_rowRX rfl (.tmp 29) (.tmp 32) rfl w.heap.size W4.heap.size vo (.slice (some ⟨W4.heap.size, 0, none⟩) 1 1) (.slice A4 k4 c4) (ccv X m) (ccs X m) l4 rfl rfl (O4.out.below BAL.out) (U4.out.below BAL.out) UO.out UA.out X5.out (by simp; omega) CLn.out ?_; intro v6 w6 o6 g6 hat6)
    have O6 := Lib.hid (show OwnRR w6 w.heap.size v6 (ccv X (m + 1)) (ccs X (m + 1)) by rw [NX1.out, NX2.out]; exact o6)
    have V6 := Lib.hid (show ∀ b, v6.ownBlock = some b → w1.heap.size < b from fun b e => by
      rcases hat6 with q | q
      · exact VB.out b (q ▸ e)
      · rw [q] at e; have := Option.some.inj e; simp at this; omega)
    have Z6 := Lib.hid ((Z4.out.below BAL.out).in3 (grownIn_of g6) (fun e => by have := VB.out _ e; omega))
    have W6 := Lib.hid ((W4b.out.alloc W4b.out.size _).grown g6 (by simp; omega) (fun k e => by have := VB.out k e; omega))
    clear o6 g6 hat6
    refine ⟨⟨m + 1, v6, rfl, by omega, by go_num, O6, V6, ?_, W6⟩, by simp [intOf]; omega⟩
    rw [HL.out]
    show Hid (Bx3 w6 w1.heap.size (.slice A3 l3.length c3) (.slice A4 l4.length c4) (.int .i64 l5))
    rw [HK3.out, HK4.out]
    exact Z6
end Go.Proofs.Ytanlfkkmnnjpeaa

/- The program's side of stage 15, gathered: NightOk, CastingsOf, ChangesBetween, FewestChanges, BestNight, CountChanges. No condition. -/
namespace Go.Proofs.Ytanlfkkmnnjpeaa
end Go.Proofs.Ytanlfkkmnnjpeaa
