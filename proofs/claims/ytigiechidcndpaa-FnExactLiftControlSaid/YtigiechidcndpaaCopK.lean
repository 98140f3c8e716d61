/- The contracts of slices.Clone at cords and of the program's copy of a control. Condition: the arms and the cords lie in rows of their own. -/
import Derived.Test.YtigiechidcndpaaCtl
import Derived.Test.YtigiechidcndpaaRowC
import Derived.Test.YtigiechidcndpaaRowI
import Derived.Laws.CopyOwn
namespace Go.Proofs.Ytigiechidcndpaa
set_option linter.unusedVariables false
open Go.RowKit

def CordsPost (w : World) (cs : List Lb) (e : Ending) (w' : World) : Prop := ∃ v, e = .returned v ∧ OwnC w' w.heap.size v cs ∧ Below w.heap.size w w'
set_option maxHeartbeats 800000 in
theorem cloneC_any (v : Value) (ls : List Lb) (base : Nat) (w : World) (hown : OwnC w base v ls) (hl : ls.length ≤ 3000000) :
    Calls Try.prog 54 #[v] w (CordsPost w ls) := by
  rcases id hown.2 with ⟨rfl, hn⟩ | ⟨g, cap, cur, rfl, _⟩
  · have hy : ls = [] := List.eq_nil_of_length_eq_zero hn
    subst hy
    have ke := fun W => Lib.run_eql_slice_nil (P := Try.prog) W 25 55 none 0 0 0 0 Try.underlying25
    clear hown hn
    go_enter Try.func54, Try.ntmps54
    go_wp2
    go_ret
    exact ⟨_, rfl, ⟨rfl, .inl ⟨rfl, rfl⟩⟩, Below.refl _ _⟩
  · have OWN := Lib.hid (hown.alloc (.cells #[] 55))
    have O0 := Lib.hid (ownC_empty w w.heap.size w.heap.size #[] rfl (Nat.le_refl _) rfl)
    have ke := fun W => Lib.run_eql_slice_nil (P := Try.prog) W 25 55 (some ⟨g, 0, none⟩) ls.length cap 0 0 Try.underlying25
    clear hown
    go_enter Try.func54, Try.ntmps54
    go_wp2_with (at_builtin; refine wpList_rowsC rfl (.tmp 5) (.tmp 6) rfl w.heap.size base (.slice (some ⟨w.heap.size, 0, none⟩) 0 0) (.slice (some ⟨g, 0, none⟩) ls.length cap) [] ls rfl rfl O0.out OWN.out ?_ ?_ ?_; (simp; omega); (simp); intro v' w1 own1 hgrow hat)
    go_ret
    refine ⟨_, rfl, own1, ((Below.refl w.heap.size w).alloc (Nat.le_refl _) _).grown hgrow (by simp) (fun k hk => ?_)⟩
    have : w.heap.size = k := by simpa [Value.ownBlock] using hk
    omega

theorem size_int : (Try.prog.info? 3).map (·.size) = some 1 := by kernel_rfl
theorem spliceI {w : World} {base g n : Nat} {cur : List Value} {zs : List Int} (hb : base ≤ g) (hn : n = zs.length) (hc : cur.length = n) (hm : n ≤ maxLen)
    (h : w.heap[g]? = some (.cells (splice cur 0 (zs.map intV)).toArray 3 (0, 0))) : OwnI w base (.slice (some ⟨g, 0, none⟩) n n) zs := by
  subst hn
  have e : splice cur 0 (zs.map intV) = zs.map intV := by
    unfold splice
    rw [List.take_zero, List.nil_append, List.drop_eq_nil_of_le (by simp; omega), List.append_nil]
  rw [e] at h
  exact ⟨by simp, .inr ⟨g, zs.length, _, rfl, hb, h, Nat.le_refl _, hm, by simp, by simpa using List.take_of_length_le (by simp)⟩⟩

theorem madeRow {w : World} {base g n c : Nat} {xs : List Value} (h : w.ownsRow base 3 1 (.slice (some ⟨g, 0, none⟩) n c) n xs) (hc : c = n) : ∃ cur : List Value, cur.length = n ∧ w.heap[g]? = some (.cells cur.toArray 3 (0, 0)) := by
  rcases h.2 with ⟨e, _⟩ | ⟨g', cap, cu, e, _, hh, _, _, hcs, _⟩
  · simp at e
  · simp only [Value.slice.injEq, Option.some.injEq, Addr.mk.injEq] at e
    obtain ⟨⟨rfl, _⟩, _, rfl⟩ := e
    exact ⟨cu.toList, by simp [hcs, hc], by simpa using hh⟩

set_option maxRecDepth 100000 in
set_option maxHeartbeats 1600000 in
theorem copyControl_any (H : Int) (va vc : Value) (zs : List Int) (cs : List Lb) (b : Nat) (w : World) (hown : OwnK w b va vc zs cs) (hz : zs.length ≤ 2000000) (hc : cs.length ≤ 2000000) :
    Calls Try.prog 36 #[ctlV H va vc] w (CtlPost w H zs cs) := by
  have CC := Lib.hid (fun W h => cloneC_any vc cs b W h (by omega))
  obtain ⟨i, hi, hi0, his, hib⟩ := info_parts info_int
  obtain ⟨A, a, C, c, rfl, rfl⟩ := hown.slice
  have OWN := Lib.hid ((hown.alloc (.cells #[.int .i64 H, .slice A zs.length a, .slice C cs.length c] 27)).alloc (.cells #[.int .i64 0, .slice none 0 0, .slice none 0 0] 27))
  have X0 := Lib.hid ((boxV_new w [.int .i64 H, .slice A zs.length a, .slice C cs.length c] 27).alloc (.cells #[.int .i64 0, .slice none 0 0, .slice none 0 0] 27))
  have AD := Lib.hid (show 0 < zs.length → ∃ g, A = some ⟨g, 0, none⟩ from fun h => by obtain ⟨g, _, e, _⟩ := hown.1.spot h; simp only [Value.slice.injEq] at e; exact ⟨g, e.1⟩)
  clear hown
  unfold ctlV
  go_enter Try.func36, Try.ntmps36
  go_wp2_with (first
    | (refine wpList_make_full _ rfl _ _ 24 rfl (w.heap.size + 2) 3 i (.int .i64 0) 1 Try.underlying24 hi hi0 his .i64 .i64 _ _ zs.length rfl rfl rfl rfl (by rw [hib]; omega) (by simp only [maxLen]; omega) (by simp) ?_; intro w1 own1 grown1; have B1 := Lib.hid (below_of_grown grown1); have x1 := (X0.out.below B1.out) 1 _ rfl; obtain ⟨cur, hcl, hcu⟩ := madeRow own1 rfl; have HC := Lib.hid (show w1.heap[w.heap.size + 2]? = some (.cells cur.toArray 3 (0, 0)) by simpa [Nat.add_assoc] using hcu); have P1 := Lib.hid (OWN.out.below B1.out); have z1 := B1.out.size; clear own1 grown1 hcu)
    | (refine wpList_copy_splice (o := ⟨some 11, _, _, _, _, _⟩) rfl (.tmp 8) (.tmp 10) 24 24 rfl 3 Try.underlying24 size_int (some ⟨w.heap.size + 1 + 1, 0, none⟩) A zs.length zs.length zs.length a rfl rfl (w.heap.size + 2) 0 cur 3 HC.out (zs.map intV) (by simp) (by intro hp; obtain ⟨g, rfl⟩ := AD.out (by simpa using hp); exact ⟨rfl, _, rfl, World.ownsRow.cells P1.out.1 rfl⟩) (by simp [hcl]) (intV_one zs) (w.heap.size + 2) ((w.alloc (.cells #[.int .i64 H, .slice A zs.length a, .slice C cs.length c] 27)).alloc (.cells #[.int .i64 0, .slice none 0 0, .slice none 0 0] 27)) (B1.out.mono (by simp)) (Nat.le_refl _) ?_; intro w2 hh b2; have O2 := Lib.hid (spliceI (base := w.heap.size + 2) (Nat.le_refl _) rfl hcl (by simp only [maxLen]; omega) hh.out); have X2 := Lib.hid (X0.out.below (b2.mono (by simp))); have x0 := X2.out 0 _ rfl; have x2 := X2.out 2 _ rfl; have B2 := Lib.hid b2; clear hh b2 x1))
  have P2 := Lib.hid (OWN.out.2.1.below (B2.out.mono (by simp)))
  have z2 := B2.out.size
  simp only [World.size_alloc] at z2
  clear B1 P1 HC z1 AD hcl
  go_wp2
  go_region_held3 (fun w' => w'.cell? ⟨w.heap.size, 0, none⟩ = some (.int .i64 H) ∧ w'.cell? ⟨w.heap.size, 2, none⟩ = some (.slice C cs.length c))
    (first | exact ⟨x0, x2⟩ | exact K3.out | exact KS.out _ _ _) (first | (go_at_call 54; refine (CC.out _ ?_).mono ?_; (exact P2.out); rintro e w3 ⟨v3, rfl, o3, b3'⟩; have b3 := undrew b3'; obtain ⟨C3, c3, rfl⟩ := o3.slice; have X3 := Lib.hid (X2.out.below b3); have K3 := Lib.hid (And.intro (X3.out 0 _ rfl) (X3.out 2 _ rfl)); have KS := Lib.hid (fun u v z : Value => And.intro ((((X3.out.setCell ⟨w.heap.size + 1, 0, none⟩ u (show w.heap.size + 1 ≠ w.heap.size by omega)).setCell ⟨w.heap.size + 1, 1, none⟩ v (show w.heap.size + 1 ≠ w.heap.size by omega)).setCell ⟨w.heap.size + 1, 2, none⟩ z (show w.heap.size + 1 ≠ w.heap.size by omega)) 0 _ rfl) ((((X3.out.setCell ⟨w.heap.size + 1, 0, none⟩ u (show w.heap.size + 1 ≠ w.heap.size by omega)).setCell ⟨w.heap.size + 1, 1, none⟩ v (show w.heap.size + 1 ≠ w.heap.size by omega)).setCell ⟨w.heap.size + 1, 2, none⟩ z (show w.heap.size + 1 ≠ w.heap.size by omega)) 2 _ rfl)); obtain ⟨d0, d1, d2, f0, f1, f2⟩ := newBox3 ((B2.out.mono (by simp)).trans (b3.mono (by simpa using z2)))))
  obtain ⟨k0, k1, k2⟩ := cells_set3 (g := w.heap.size + 1) (u := .int .i64 H) (v := .slice (some ⟨w.heap.size + 1 + 1, 0, none⟩) zs.length zs.length) (x := .slice C3 cs.length c3) d0 d1 d2
  have lt2 : w.heap.size + 2 < w2.heap.size := (O2.out.lt _ rfl).2
  have KO := Lib.hid (show OwnK w3 (w.heap.size + 2) (.slice (some ⟨w.heap.size + 1 + 1, 0, none⟩) zs.length zs.length) (.slice C3 cs.length c3) zs cs from ⟨OwnI.below O2.out b3, o3.mono (by simpa using z2), fun k h1 h2 => by have h3 : w.heap.size + 1 + 1 = k := Option.some.inj h1; have := (o3.lt k h2).1; simp at this; omega⟩)
  have B3 := Lib.hid ((((Below.refl w.heap.size w).alloc (Nat.le_refl _) _).alloc (by simp) _).trans ((B2.out.mono (by omega)).trans (b3.mono (by simp; omega))))
  clear o3 b3 b3' d0 d1 d2 O2 B2 P2 X2 X3 KS K3
  go_wp2
  have far : ∀ k, BlkK (.slice (some ⟨w.heap.size + 1 + 1, 0, none⟩) zs.length zs.length) (.slice C3 cs.length c3) k → w.heap.size + 2 ≤ k := fun k hk => (KO.out.ltB k hk).1
  refine bodyPost_ret (v := ctlV H (.slice (some ⟨w.heap.size + 1 + 1, 0, none⟩) zs.length zs.length) (.slice C3 cs.length c3)) (by simp [results, Try.results36, go_sem, k0, k1, k2, ctlV]) rfl ⟨_, _, rfl, ?_, ?_⟩
  · exact (((KO.out.mono (by omega)).setCell ⟨w.heap.size + 1, 0, none⟩ _ (fun k hk => by have := far k hk; show w.heap.size + 1 ≠ k; omega)).setCell ⟨w.heap.size + 1, 1, none⟩ _ (fun k hk => by have := far k hk; show w.heap.size + 1 ≠ k; omega)).setCell ⟨w.heap.size + 1, 2, none⟩ _ (fun k hk => by have := far k hk; show w.heap.size + 1 ≠ k; omega)
  · exact ((B3.out.setCell (show w.heap.size ≤ w.heap.size + 1 by omega) _).setCell (show w.heap.size ≤ w.heap.size + 1 by omega) _).setCell (show w.heap.size ≤ w.heap.size + 1 by omega) _
end Go.Proofs.Ytigiechidcndpaa
