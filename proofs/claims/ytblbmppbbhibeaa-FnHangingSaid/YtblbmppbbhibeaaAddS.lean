/- The contract of spec.AddLimb. Condition: the limbs lie in a row of their own. -/
import Derived.Test.YtblbmppbbhibeaaCopS
import Derived.Test.YtblbmppbbhibeaaAddM
namespace Go.Proofs.Ytblbmppbbhibeaa
set_option linter.unusedVariables false
set_option linter.unusedSimpArgs false
open Go.RowKit

def PairPost (w : World) (J : Int) (ls : List Lb) (ok : Bool) (e : Ending) (w' : World) : Prop := ∃ v, e = .returned (.tuple #[bodyV J v, .bool ok]) ∧ OwnL w' w.heap.size v ls ∧ Below w.heap.size w w'

/-- The world when the argument's box and the result's own one have been made. -/
abbrev w2 (w : World) (J : Int) (v : Value) : World := (w.alloc (.cells #[.int .i64 J, v] 26)).alloc (.cells #[.int .i64 0, .slice none 0 0] 26)
/-- What stays as it was there while the call goes on. -/
def AddOn (w : World) (J : Int) (v : Value) (base : Nat) (ls : List Lb) (W : World) : Prop :=
  BoxAt W w.heap.size J v ∧ (W.cell? ⟨w.heap.size + 1, 0, none⟩ = some (.int .i64 0) ∧ W.cell? ⟨w.heap.size + 1, 1, none⟩ = some (.slice none 0 0) ∧ W.frozen? ⟨w.heap.size + 1, 0, none⟩ = false ∧ W.frozen? ⟨w.heap.size + 1, 1, none⟩ = false) ∧
  OwnL W base v ls ∧ Below w.heap.size w W ∧ w.heap.size + 2 ≤ W.heap.size
theorem ownL_under {w w' : World} {base B : Nat} {v : Value} {ls : List Lb} (h : OwnL w base v ls) (hb : Below B w w') (hB : w.heap.size ≤ B) : OwnL w' base v ls := h.below (hb.mono hB)
theorem addOn_of {w : World} {J : Int} {v : Value} {base : Nat} {ls : List Lb} (h : OwnL w base v ls) {W : World} (hb : Below (w.heap.size + 2) (w2 w J v) W) : AddOn w J v base ls W := by
  have hb' : Below (w2 w J v).heap.size (w2 w J v) W := by simpa using hb
  refine ⟨((boxAt_new w J v).alloc _).below hb', newBox hb', ((h.alloc _).alloc _).below hb', (((Below.refl _ _).alloc (Nat.le_refl _) _).alloc (by simp) _).trans (hb.mono (by omega)), ?_⟩
  have := hb.size
  simpa using this
/-- The result's box filled at the end. -/
theorem add_done {w W : World} {J J2 : Int} {v v2 : Value} {base B : Nat} {ls ls2 : List Lb} (h : AddOn w J v base ls W) (h2 : OwnL W B v2 ls2) (hB : w.heap.size + 2 ≤ B) :
    OwnL ((W.setCell ⟨w.heap.size + 1, 0, none⟩ (.int .i64 J2)).setCell ⟨w.heap.size + 1, 1, none⟩ v2) w.heap.size v2 ls2 ∧ Below w.heap.size w ((W.setCell ⟨w.heap.size + 1, 0, none⟩ (.int .i64 J2)).setCell ⟨w.heap.size + 1, 1, none⟩ v2) :=
  ⟨((h2.setCell_below (by show w.heap.size + 1 < B; omega) _).setCell_below (by show w.heap.size + 1 < B; omega) _).mono (by omega),
    (h.2.2.2.1.setCell (by show w.heap.size ≤ w.heap.size + 1; omega) _).setCell (by show w.heap.size ≤ w.heap.size + 1; omega) _⟩
/-- An own box behind an append to a row that is elder than it. -/
theorem box_behind {W W3 : World} {b : Nat} {J : Int} {v : Value} {o : Obj} {row : Option Nat} (hb : BoxAt W b J v) (hg : (W.alloc o).grownBy W3 row) (hr : ∀ k, row = some k → k < b) (hf : ∀ j, W.frozen? ⟨b, j, none⟩ = false) :
    W3.cell? ⟨b, 0, none⟩ = some (.int .i64 J) ∧ W3.cell? ⟨b, 1, none⟩ = some v ∧ W3.frozen? ⟨b, 0, none⟩ = false ∧ W3.frozen? ⟨b, 1, none⟩ = false := by
  have hne : some b ≠ row := fun e => by have := hr b e.symm; omega
  have g := World.grownBy.trans (World.grownBy_alloc W o _) hg
  have h := hb.grown g hne
  exact ⟨h.1, h.2, (World.frozen?_of_block (g.block _ hb.lt hne)).trans (hf 0), (World.frozen?_of_block (g.block _ hb.lt hne)).trans (hf 1)⟩
theorem new_free (w : World) (cs : Array Value) (t : TypeId) (j : Nat) : (w.alloc (.cells cs t)).frozen? ⟨w.heap.size, j, none⟩ = false := frozen_of_row _ _ _ _ _ (heap_alloc_new w _)
theorem ownL_snoc {w : World} {base g n c : Nat} {ls : List Lb} {l : Lb} (h : w.ownsRow base 57 3 (.slice (some ⟨g, 0, none⟩) n c) (ls.length + 1) (flatL ls ++ l.cells)) : OwnL w base (.slice (some ⟨g, 0, none⟩) n c) (ls ++ [l]) := by
  unfold OwnL
  rw [List.length_append, flatL_append]
  exact h

theorem heap_new1 (w : World) (o o' : Obj) : ((w.alloc o).alloc o').heap[w.heap.size + 1]? = some o' := by
  have := heap_alloc_new (w.alloc o) o'
  rwa [World.size_alloc] at this
theorem lb_one (l : Lb) : ∀ u ∈ l.cells, u.oneCell' = true := by
  intro u hu
  simp only [Lb.cells, List.mem_cons, List.not_mem_nil, or_false] at hu
  rcases hu with rfl | rfl | rfl <;> rfl
/-- The two cells of an own box behind two stores into it, in either order, and a row that lies apart from it. -/
theorem row_kept2 {W : World} {base b g n c i k : Nat} {u u' : Value} {ls : List Lb} (h : OwnL W base (.slice (some ⟨g, 0, none⟩) n c) ls) (hne : g ≠ b) : OwnL ((W.setCell ⟨b, i, none⟩ u).setCell ⟨b, k, none⟩ u') base (.slice (some ⟨g, 0, none⟩) n c) ls :=
  (h.kept (grown_cell W ⟨b, i, none⟩ u) (.inr (by simp [Value.ownBlock, hne]))).kept (grown_cell _ ⟨b, k, none⟩ u') (.inr (by simp [Value.ownBlock, hne]))
theorem row_kept1 {W : World} {base b g n c i : Nat} {u : Value} {ls : List Lb} (h : OwnL W base (.slice (some ⟨g, 0, none⟩) n c) ls) (hne : g ≠ b) : OwnL (W.setCell ⟨b, i, none⟩ u) base (.slice (some ⟨g, 0, none⟩) n c) ls :=
  h.kept (grown_cell W ⟨b, i, none⟩ u) (.inr (by simp [Value.ownBlock, hne]))
theorem cells_set10 {w : World} {g : Nat} {u v x y : Value} (h0 : w.cell? ⟨g, 0, none⟩ = some x) (h1 : w.cell? ⟨g, 1, none⟩ = some y) :
    ((w.setCell ⟨g, 1, none⟩ v).setCell ⟨g, 0, none⟩ u).cell? ⟨g, 0, none⟩ = some u ∧ ((w.setCell ⟨g, 1, none⟩ v).setCell ⟨g, 0, none⟩ u).cell? ⟨g, 1, none⟩ = some v := by
  refine ⟨World.cell?_setCell_same (u := x) _ _ _ ?_, ?_⟩
  · rw [World.cell?_setCell_other _ _ _ _ (by simp), h0]
  · rw [World.cell?_setCell_other _ _ _ _ (by simp), World.cell?_setCell_same _ _ _ h1]

set_option maxRecDepth 100000 in
set_option maxHeartbeats 1600000 in
theorem specAdd_no (J j n : Int) (v : Value) (ls : List Lb) (base : Nat) (w : World) (hown : OwnL w base v ls) (hl : ls.length ≤ 2000000) (h : ¬ (bodyOk J ls = true ∧ hasB J j = true)) :
    Calls Try.prog 51 #[bodyV J v, .int .i64 j, .int .i64 n] w (PairPost w J ls false) := by
  have CO := Lib.hid (fun W h => specOk J v ls base W h)
  have CC := Lib.hid (fun W h => copyS_any J v ls base W h (by omega))
  obtain ⟨A, c, e⟩ := hown.slice
  subst e
  have CH := Lib.hid (fun v lo hi W => l01In_any v lo hi W)
  have AO := Lib.hid (fun W hb => addOn_of (J := J) hown (W := W) hb)
  clear hown
  unfold bodyV at CO CC ⊢
  cases hok : bodyOk J ls with
  | false =>
    rw [hok] at CO
    clear h hok
    go_enter Try.func51, Try.ntmps51
    go_wp2_with fail
    have K0 := Lib.hid (AO.out (w2 w J (.slice A ls.length c)) (Below.refl _ _))
    refine (CO.out _ K0.out.2.2.1).mono ?_
    rintro e w3 ⟨rfl, b3⟩
    simp only [World.size_alloc] at b3
    have K3 := Lib.hid (AO.out w3 b3)
    have B3 := Lib.hid b3
    clear b3
    obtain ⟨x0, x1⟩ := K3.out.1
    go_wp2_with fail
    refine (CC.out _ K3.out.2.2.1).mono ?_
    rintro e w4 ⟨v4, rfl, o4, b4⟩
    obtain ⟨A4, c4, rfl⟩ := o4.slice
    have K4 := Lib.hid (AO.out w4 (B3.out.trans (b4.mono K3.out.2.2.2.2)))
    have O4 := Lib.hid o4
    obtain ⟨d0, d1, f0, f1⟩ := K4.out.2.1
    have k0 := World.cell?_setCell_same w4 ⟨w.heap.size + 1, 0, none⟩ (.int .i64 J) d0
    obtain ⟨_, k1⟩ := cells_set2 (u := .int .i64 J) (v := .slice A4 ls.length c4) ⟨_, d0⟩ ⟨_, d1⟩
    clear b4 o4 x0 x1
    unfold bodyV
    go_wp2
    refine bodyPost_ret (v := .tuple #[bodyV J (.slice A4 ls.length c4), .bool false]) (by simp [results, Try.results51, go_sem, k0, k1, bodyV]) rfl ⟨_, rfl, add_done K4.out O4.out K3.out.2.2.2.2⟩
  | true =>
    rw [hok] at CO
    have hj : inB j 0 (J - 1) = false := inB_no (fun x => h ⟨hok, hasB_yes (by omega)⟩)
    obtain ⟨-, -, hJ1, hJ2⟩ := ok_len hok
    clear h hok
    go_enter Try.func51, Try.ntmps51
    go_wp2_with fail
    have K0 := Lib.hid (AO.out (w2 w J (.slice A ls.length c)) (Below.refl _ _))
    refine (CO.out _ K0.out.2.2.1).mono ?_
    rintro e w3 ⟨rfl, b3⟩
    simp only [World.size_alloc] at b3
    have K3 := Lib.hid (AO.out w3 b3)
    have hs3 := K3.out.2.2.2.2
    have B3 := Lib.hid b3
    have K3a := Lib.hid (AO.out w3 b3)
    clear b3
    obtain ⟨x0, x1⟩ := K3.out.1
    go_wp2_with (go_at_call 43; refine (CH.out _ _ _ _).mono ?_; rintro e w' ⟨rfl, rfl⟩)
    refine (CC.out _ K3a.out.2.2.1).mono ?_
    rintro e w4 ⟨v4, rfl, o4, b4⟩
    obtain ⟨A4, c4, rfl⟩ := o4.slice
    have K4 := Lib.hid (AO.out w4 (B3.out.trans (b4.mono K3a.out.2.2.2.2)))
    have O4 := Lib.hid o4
    obtain ⟨d0, d1, f0, f1⟩ := K4.out.2.1
    have k0 := World.cell?_setCell_same w4 ⟨w.heap.size + 1, 0, none⟩ (.int .i64 J) d0
    obtain ⟨_, k1⟩ := cells_set2 (u := .int .i64 J) (v := .slice A4 ls.length c4) ⟨_, d0⟩ ⟨_, d1⟩
    clear b4 o4 x0 x1
    unfold bodyV
    go_wp2
    refine bodyPost_ret (v := .tuple #[bodyV J (.slice A4 ls.length c4), .bool false]) (by simp [results, Try.results51, go_sem, k0, k1, bodyV]) rfl ⟨_, rfl, add_done K4.out O4.out K3a.out.2.2.2.2⟩

set_option maxRecDepth 100000 in
set_option maxHeartbeats 1600000 in
theorem specAdd_yes (J j n : Int) (v : Value) (ls : List Lb) (base : Nat) (w : World) (hown : OwnL w base v ls) (hok : bodyOk J ls = true) (hj : hasB J j = true) :
    Calls Try.prog 51 #[bodyV J v, .int .i64 j, .int .i64 n] w (PairPost w (addJ J j n ls) (addL J j n ls) (addOk J j n ls)) := by
  obtain ⟨hll, -, hJ1, hJ2⟩ := ok_len hok
  have CO := Lib.hid (fun W h => hok ▸ specOk J v ls base W h)
  have CC := Lib.hid (fun W h => copyS_any J v ls base W h (by omega))
  have hadd : addOk J j n ls = bodyOk (J + 1) (more J j n ls) := by simp [addOk, hok, hj]
  have CN := Lib.hid (fun v b W h => specOk (J + 1) v (more J j n ls) b W h)
  have ADD := Lib.hid (And.intro (show addJ J j n ls = if bodyOk (J + 1) (more J j n ls) = true then J + 1 else J by rw [← hadd]; rfl) (And.intro (show addL J j n ls = if bodyOk (J + 1) (more J j n ls) = true then more J j n ls else ls by rw [← hadd]; rfl) hadd))
  obtain ⟨A, c, e⟩ := hown.slice
  subst e
  have CH := Lib.hid (fun v lo hi W => l01In_any v lo hi W)
  have hin : inB j 0 (J - 1) = true := inB_yes (by have := of_decide_eq_true hj; omega)
  have AO := Lib.hid (fun W hb => addOn_of (J := J) hown (W := W) hb)
  obtain ⟨i0, hi0, hz0, hz1, hz2⟩ := info_parts info_limb
  have hpos3 : 0 < 3 := by omega
  have hpos : 0 < 1 := by omega
  have hmax : ls.length + 1 ≤ maxLen := by simp only [maxLen]; omega
  have hbd : (ls.length + 1) * 24 ≤ 140737488355328 := by omega
  clear hown hadd hok hj
  generalize bodyOk (J + 1) (more J j n ls) = r at ADD CN
  unfold bodyV at CO CC CN ⊢
  rw [ADD.out.1, ADD.out.2.1, ADD.out.2.2]
  clear ADD
  cases r
  all_goals
    first | rw [if_pos rfl, if_pos rfl] | rw [if_neg (by decide), if_neg (by decide)]
    go_enter Try.func51, Try.ntmps51
    go_wp2_with fail
    have K0 := Lib.hid (AO.out (w2 w J (.slice A ls.length c)) (Below.refl _ _))
    refine (CO.out _ K0.out.2.2.1).mono ?_
    rintro e w3 ⟨rfl, b3⟩
    simp only [World.size_alloc] at b3
    have K3 := Lib.hid (AO.out w3 b3)
    have hs3 := K3.out.2.2.2.2
    have B3 := Lib.hid b3
    have K3a := Lib.hid (AO.out w3 b3)
    clear b3
    obtain ⟨x0, x1⟩ := K3.out.1
    go_wp2_with (go_at_call 43; refine (CH.out _ _ _ _).mono ?_; rintro e w' ⟨rfl, rfl⟩)
    refine (CC.out _ K3a.out.2.2.1).mono ?_
    rintro e w4 ⟨v4, rfl, o4, b4⟩
    obtain ⟨A4, c4, rfl⟩ := o4.slice
    have B4 := Lib.hid (B3.out.trans (b4.mono K3a.out.2.2.2.2))
    have K4 := Lib.hid (AO.out w4 B4.out)
    have hs4 := K4.out.2.2.2.2
    have own4 := (o4.mono (b := w.heap.size + 2) K3a.out.2.2.2.2).alloc (.cells #[.int .i64 (J + 1), .slice A4 ls.length c4] 26)
    have l4 := fun k hk => (⟨Nat.le_trans K3a.out.2.2.2.2 (o4.lt k hk).1, (o4.lt k hk).2⟩ : w.heap.size + 2 ≤ k ∧ k < w4.heap.size)
    have NB := Lib.hid (World.news_of_block (heap_new1 w4 (.cells #[.int .i64 (J + 1), .slice A4 ls.length c4] 26) (.cells #[.int .i64 j, .int .i64 J, .int .i64 n] 57)))
    clear b4 x0 x1 o4
    obtain ⟨x0, x1⟩ := K4.out.1
    obtain ⟨y0, z0, -⟩ := elder x0
    obtain ⟨y1, z1, -⟩ := elder x1
    unfold bodyV
    go_wp2_with (at_builtin; refine wpList_append_lies _ rfl (.tmp 29) (.tmp 35) 24 rfl (w.heap.size + 2) 57 i0 Lb.zero.val 3 24 Try.underlying24 hi0 hz0 hz1 hz2 rfl hpos3 (.slice A4 ls.length c4) _ _ rfl (own4.alloc _) ⟨w4.heap.size + 1, 0, none⟩ 1 1 (Lb.cells ⟨j, J, n⟩) rfl rfl NB.out (lb_one _) hpos hmax hbd ?_ (w4.heap.size + 1 + 1) ?_ ?_; (simp; omega); (simp); intro gg cap w5 hown5 hgrow hat hlt'; have own5 := Lib.hid (ownL_snoc hown5); obtain ⟨e0, e1, f0, f1⟩ := box_behind (boxAt_new w4 (J + 1) (.slice A4 ls.length c4)) hgrow (fun k hk => (l4 k hk).2) (new_free w4 _ _); have B5 := Lib.hid (((B4.out.alloc hs4 _).alloc (by simp; omega) _).grown hgrow (by simp; omega) (fun k hk => (l4 k hk).1)); have hgne : gg ≠ w4.heap.size := (by rcases hat with hat | hat; exact Nat.ne_of_lt (l4 _ hat).2; omega); clear hown5 hgrow own4 x0 x1 y0 y1 z0 z1 hat)
    have O5 := Lib.hid (row_kept1 (i := 1) (u := .slice (some ⟨gg, 0, none⟩) (ls.length + 1) cap) own5.out hgne)
    have h0 := (World.cell?_setCell_other w5 ⟨w4.heap.size, 1, none⟩ ⟨w4.heap.size, 0, none⟩ (.slice (some ⟨gg, 0, none⟩) (ls.length + 1) cap) (by simp)).trans e0
    have h1 := World.cell?_setCell_same w5 ⟨w4.heap.size, 1, none⟩ (.slice (some ⟨gg, 0, none⟩) (ls.length + 1) cap) e1
    refine (CN.out _ _ _ O5.out).mono ?_
    rintro e w7 ⟨rfl, b7⟩
    replace h0 := cell_below h0 b7
    replace h1 := cell_below h1 b7
    have O7 := Lib.hid (O5.out.below b7)
    have B7 := Lib.hid ((B5.out.setCell (p := ⟨w4.heap.size, 1, none⟩) hs4 (.slice (some ⟨gg, 0, none⟩) (ls.length + 1) cap)).trans (b7.mono (by have := B5.out.size; simp at this ⊢; omega)))
    have K7 := Lib.hid (AO.out w7 B7.out)
    have hs7 := K7.out.2.2.2.2
    clear b7 e0 e1 f0 f1 O5 own5 B5
    obtain ⟨x0, x1⟩ := K7.out.1
    obtain ⟨d0, d1, f0, f1⟩ := K7.out.2.1
  · clear h0 h1 d0 d1 f0 f1
    go_wp2_with fail
    refine (CC.out _ K7.out.2.2.1).mono ?_
    rintro e w8 ⟨v8, rfl, o8, b8⟩
    obtain ⟨A8, c8, rfl⟩ := o8.slice
    have K8 := Lib.hid (AO.out w8 (B7.out.trans (b8.mono hs7)))
    have O8 := Lib.hid o8
    obtain ⟨d0, d1, f0, f1⟩ := K8.out.2.1
    have k0 := World.cell?_setCell_same w8 ⟨w.heap.size + 1, 0, none⟩ (.int .i64 J) d0
    obtain ⟨_, k1⟩ := cells_set2 (u := .int .i64 J) (v := .slice A8 ls.length c8) ⟨_, d0⟩ ⟨_, d1⟩
    clear b8 o8 x0 x1
    unfold bodyV
    go_wp2
    refine bodyPost_ret (v := .tuple #[bodyV J (.slice A8 ls.length c8), .bool false]) (by simp [results, Try.results51, go_sem, k0, k1, bodyV]) rfl ⟨_, rfl, add_done K8.out O8.out hs7⟩
  · have k0 := World.cell?_setCell_same w7 ⟨w.heap.size + 1, 0, none⟩ (.int .i64 (J + 1)) d0
    obtain ⟨_, k1⟩ := cells_set2 (u := .int .i64 (J + 1)) (v := .slice (some ⟨gg, 0, none⟩) (ls.length + 1) cap) ⟨_, d0⟩ ⟨_, d1⟩
    go_wp2
    refine bodyPost_ret (v := .tuple #[bodyV (J + 1) (.slice (some ⟨gg, 0, none⟩) (ls.length + 1) cap), .bool true]) (by simp [results, Try.results51, go_sem, k0, k1, bodyV]) rfl ⟨_, rfl, add_done K7.out O7.out (Nat.le_refl _)⟩

theorem specAdd (J j n : Int) (v : Value) (ls : List Lb) (base : Nat) (w : World) (hown : OwnL w base v ls) (hl : ls.length ≤ 2000000) :
    Calls Try.prog 51 #[bodyV J v, .int .i64 j, .int .i64 n] w (PairPost w (addJ J j n ls) (addL J j n ls) (addOk J j n ls)) := by
  by_cases h : bodyOk J ls = true ∧ hasB J j = true
  · exact specAdd_yes J j n v ls base w hown h.1 h.2
  · have e := addOk_no (n := n) h
    rw [show addJ J j n ls = J by simp [addJ, e], show addL J j n ls = ls by simp [addL, e], e]
    exact specAdd_no J j n v ls base w hown hl h
end Go.Proofs.Ytblbmppbbhibeaa
