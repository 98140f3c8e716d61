/- The contracts of spec.l02Body and spec.DrawBody: a valid body. Condition: at most 1048576 bytes. -/
import Derived.Test.YtblbmppbbhibeaaNewA
import Derived.Test.YtblbmppbbhibeaaStK
import Derived.Test.YtblbmppbbhibeaaAddS
import Derived.Test.YtblbmppbbhibeaaSamS
import Derived.Deep.RegionWith
import Derived.Deep.DrawnRows
namespace Go.Proofs.Ytblbmppbbhibeaa
set_option linter.unusedVariables false
set_option linter.unusedSimpArgs false
open Go.RowKit
attribute [local go_sem ↓] Go.wp_at_zero Go.wp_at_succ

/-- A body's box that may be written. -/
def BoxF (W : World) (b : Nat) (J : Int) (v : Value) : Prop := BoxAt W b J v ∧ W.frozen? ⟨b, 0, none⟩ = false ∧ W.frozen? ⟨b, 1, none⟩ = false
section
variable {W W' : World} {b g : Nat} {J J' : Int} {v u u' : Value} {row : Option Nat}
theorem boxF_new (W : World) (J : Int) (v : Value) : BoxF (W.alloc (.cells #[.int .i64 J, v] 26)) W.heap.size J v := ⟨boxAt_new W J v, new_free _ _ _ _, new_free _ _ _ _⟩
theorem BoxF.lt (h : BoxF W b J v) : b < W.heap.size := h.1.lt
theorem BoxF.grown (h : BoxF W b J v) (hg : W.grownBy W' row) (hne : some b ≠ row) : BoxF W' b J v :=
  ⟨h.1.grown hg hne, (World.frozen?_of_block (hg.block _ h.lt hne)).trans h.2.1, (World.frozen?_of_block (hg.block _ h.lt hne)).trans h.2.2⟩
theorem BoxF.below (h : BoxF W b J v) (hb : Below W.heap.size W W') : BoxF W' b J v := h.grown (grown_of_below hb none) (by simp)
theorem BoxF.alloc (h : BoxF W b J v) (o : Obj) : BoxF (W.alloc o) b J v := h.below ((Below.refl _ _).alloc (Nat.le_refl _) _)
theorem BoxF.apart (h : BoxF W b J v) (hne : b ≠ g) : BoxF ((W.setCell ⟨g, 0, none⟩ u).setCell ⟨g, 1, none⟩ u') b J v :=
  (h.grown (grown_cell W ⟨g, 0, none⟩ u) (by simp [hne])).grown (grown_cell _ ⟨g, 1, none⟩ u') (by simp [hne])
theorem BoxF.stored (h : BoxF W b J v) : BoxF ((W.setCell ⟨b, 0, none⟩ (.int .i64 J')).setCell ⟨b, 1, none⟩ u) b J' u := by
  obtain ⟨k0, k1⟩ := cells_set2 (u := .int .i64 J') (v := u) ⟨_, h.1.1⟩ ⟨_, h.1.2⟩
  exact ⟨⟨k0, k1⟩, by simp [go_sem, h.2.1], by simp [go_sem, h.2.2]⟩
end
theorem sample_ok : bodyOk 7 sampleL = true := by decide
def BodyPost (w0 : World) (a : Option Addr) (n cap : Nat) (w : World) (b : Nat) (e : Ending) (w' : World) : Prop :=
  ∃ J v ls, e = .returned (bodyV J v) ∧ OwnL w' w.heap.size v ls ∧ bodyOk J ls = true ∧ St w0 a n cap w' b ∧ w.grownBy w' (some b)

set_option maxRecDepth 100000 in
set_option maxHeartbeats 1600000 in
theorem body_any (w0 : World) (a : Option Addr) (n cap : Nat) (z : List Int) (hr : IsRow .u8 w0 a n cap z) (w : World) (b : Nat) (hs : St w0 a n cap w b) :
    Calls Try.prog 34 #[.pointer (some ⟨b, 0, none⟩)] w (BodyPost w0 a n cap w b) := by
  have ON := Lib.hid (fun W h => once_any w0 a n cap z hr W b h 5)
  have BE := Lib.hid (fun (m : Int) W h => below_any w0 a n cap z hr W b h m)
  have hbw := hs.cur.lt
  have hw0 := hs.below.size
  have ST0 := Lib.hid (hs.alloc (.cells #[.int .i64 0, .slice none 0 0] 26))
  have R0 := Lib.hid (boxF_new w 0 (.slice none 0 0))
  clear hr hs
  go_enter Try.func34, Try.ntmps34
  go_wp2_with fail
  refine (ON.out _ ST0.out).mono ?_
  rintro e w1 ⟨x, rfl, st1, g1⟩
  have R1 := Lib.hid (R0.out.grown g1 (by simp; omega))
  have ST1 := Lib.hid st1
  have G1 := Lib.hid (World.grownBy.trans (World.grownBy_alloc w _ _) g1)
  have hz1 := R1.out.lt
  clear g1 st1 R0 ST0
  cases x with
  | true =>
    have SA := Lib.hid sampleS
    go_wp2_with fail
    refine (SA.out _).mono ?_
    rintro e w2 ⟨v2, rfl, o2, b2⟩
    obtain ⟨A2, c2, rfl⟩ := o2.slice
    have R2 := Lib.hid (R1.out.below b2)
    have ST2 := Lib.hid (ST1.out.below' b2)
    have G2 := Lib.hid (World.grownBy.trans G1.out (grown_of_below b2 _))
    have O2 := Lib.hid o2
    obtain ⟨⟨d0, d1⟩, f0, f1⟩ := R2.out
    have k0 := World.cell?_setCell_same w2 ⟨w.heap.size, 0, none⟩ (.int .i64 7) d0
    obtain ⟨_, k1⟩ := cells_set2 (u := .int .i64 7) (v := .slice A2 sampleL.length c2) ⟨_, d0⟩ ⟨_, d1⟩
    clear b2 o2
    unfold bodyV
    go_wp2
    refine bodyPost_ret (v := bodyV 7 (.slice A2 sampleL.length c2)) (by simp [results, Try.results34, go_sem, k0, k1, bodyV]) rfl ⟨_, _, sampleL, rfl, ?_, sample_ok, (ST2.out.set hw0 (by omega) 0).set hw0 (by omega) 1, grown_late (grown_late G2.out (Nat.le_refl _) 0) (Nat.le_refl _) 1⟩
    exact ((O2.out.setCell_below hz1 _).setCell_below hz1 _).mono (by omega)
  | false =>
    have BX1 := Lib.hid (boxF_new w1 1 (.slice none 0 0))
    have R1a := Lib.hid (R1.out.alloc (.cells #[.int .i64 1, .slice none 0 0] 26))
    have ST1a := Lib.hid (ST1.out.alloc (.cells #[.int .i64 1, .slice none 0 0] 26))
    have G1a := Lib.hid (World.grownBy.trans G1.out (World.grownBy_alloc w1 (.cells #[.int .i64 1, .slice none 0 0] 26) _))
    go_wp2_with fail
    refine (BE.out 7 _ ST1a.out).mono ?_
    rintro e w3 ⟨k0, rfl, ⟨hk0, hk7, -⟩, st3, g3⟩
    obtain ⟨K, rfl⟩ := Int.eq_ofNat_of_zero_le hk0
    have hK : K ≤ 6 := by have := hk7 (by omega); omega
    have R3 := Lib.hid (R1a.out.grown g3 (by simp; omega))
    have BX3 := Lib.hid (BX1.out.grown g3 (by simp; omega))
    have ST3 := Lib.hid st3
    have G3 := Lib.hid (World.grownBy.trans G1a.out g3)
    have hz3 := BX3.out.lt
    clear g3 st3 hk7 hk0 R1 R1a BX1 ST1 ST1a G1 G1a ON
    go_wp2_with fail
    go_loopw [4] (fun iv wr => ∃ (k : Nat) (J : Int) (v : Value) (ls : List Lb), k ≤ 6 ∧ iv = .int .i64 (k : Int) ∧ BoxF wr w.heap.size 0 (.slice none 0 0) ∧ BoxF wr w1.heap.size J v ∧ OwnL wr (w1.heap.size + 1) v ls ∧ Hid (bodyOk J ls = true) ∧ Hid (St w0 a n cap wr b) ∧ Hid (w.grownBy wr (some b))) (fun iv _ => (intOf iv).toNat)
    case atStart => exact ⟨K, 1, .slice none 0 0, [], hK, rfl, R3.out, BX3.out, ⟨rfl, .inl ⟨rfl, rfl⟩⟩, one_ok, ST3.out, G3.out⟩
    case round =>
      clear R3 BX3 ST3 G3 hK hz3
      obtain ⟨k, J, v, ls, hk, rfl, hR, hB, hown, hok, hst, hg⟩ := hrel
      obtain ⟨A, c, rfl⟩ := hown.slice
      have HR := Lib.hid hR
      have HB := Lib.hid hB
      have HO := Lib.hid hown
      have hlt := hB.lt
      clear hR hB hown
      by_cases hpos : 0 < k
      · obtain ⟨k, rfl⟩ : ∃ k', k = k' + 1 := ⟨k - 1, by omega⟩
        have hlen := (ok_len hok.out).1
        have BJ := Lib.hid (BE.out J)
        have B9 := Lib.hid (BE.out 9)
        have CA := Lib.hid (fun j n W h => specAdd J j n (.slice A ls.length c) ls (w1.heap.size + 1) W h (by omega))
        obtain ⟨⟨x0, x1⟩, -, -⟩ := HB.out
        unfold bodyV at CA
        go_wp2_with fail
        go_region_with (first | (go_at_call 50; ((with_reducible refine (BJ.out _ ?_).mono ?_); (exact hst.out.below' (Below.refl _ _).drew); rintro e w5 ⟨y, rfl, -, st5, g5⟩; have HR5 := Lib.hid (BoxF.grown (by exact HR.out) g5 (by simp; omega)); have HB5 := Lib.hid (BoxF.grown (by exact HB.out) g5 (by simp; omega)); have HO5 := Lib.hid (OwnL.kept (by exact HO.out) g5 (.inr (by intro e; have := (HO.out.lt _ e).1; omega))); have ST5 := Lib.hid st5; have G5 := Lib.hid (World.grownBy.trans hg.out (undrewG g5)); obtain ⟨⟨x50, x51⟩, -, -⟩ := HB5.out)) | (go_at_call 50; ((with_reducible refine (B9.out _ ?_).mono ?_); (exact ST5.out); rintro e w6 ⟨y9, rfl, ⟨hy0, hy9, -⟩, st6, g6⟩; have hy9' := hy9 (by omega); clear hy9; have HR6 := Lib.hid (BoxF.grown HR5.out g6 (by simp; omega)); have HB6 := Lib.hid (BoxF.grown HB5.out g6 (by simp; omega)); have HO6 := Lib.hid (OwnL.kept HO5.out g6 (.inr (by intro e; have := (HO5.out.lt _ e).1; omega))); have ST6 := Lib.hid st6; have G6 := Lib.hid (World.grownBy.trans G5.out g6); obtain ⟨⟨x60, x61⟩, -, -⟩ := HB6.out)) | (go_at_call 51; refine (CA.out _ _ _ HO6.out).mono ?_; rintro e w7 ⟨v7, rfl, o7, b7⟩; obtain ⟨A7, c7, rfl⟩ := o7.slice; have HR7 := Lib.hid (HR6.out.below b7); have HB7 := Lib.hid (HB6.out.below b7); have ST7 := Lib.hid (ST6.out.below' b7); have G7 := Lib.hid (World.grownBy.trans G6.out (grown_of_below b7 _)); obtain ⟨⟨x70, x71⟩, f70, f71⟩ := HB7.out; unfold bodyV))
        all_goals
          generalize IntKind.i64.wrap (1 + y9) = q at o7 ⊢
          have hb6 := HB6.out.lt
          have HRf := Lib.hid (HR7.out.apart (g := w1.heap.size) (u := .int .i64 (addJ J y q ls)) (u' := .slice A7 (addL J y q ls).length c7) (by omega))
          have HBf := Lib.hid (HB7.out.stored (J' := addJ J y q ls) (u := .slice A7 (addL J y q ls).length c7))
          have HOf := Lib.hid (((o7.setCell_below (a := ⟨w1.heap.size, 0, none⟩) hb6 (.int .i64 (addJ J y q ls))).setCell_below (a := ⟨w1.heap.size, 1, none⟩) hb6 (.slice A7 (addL J y q ls).length c7)).mono (b := w1.heap.size + 1) (by omega))
          have OKf := Lib.hid (add_valid (j := y) (n := q) hok.out)
          have STf := Lib.hid ((ST7.out.set (g := w1.heap.size) (u := .int .i64 (addJ J y q ls)) (by omega) (by omega) 0).set (g := w1.heap.size) (u := .slice A7 (addL J y q ls).length c7) (by omega) (by omega) 1)
          have Gf := Lib.hid (grown_late (u := .slice A7 (addL J y q ls).length c7) (grown_late (u := .int .i64 (addJ J y q ls)) G7.out (Nat.le_of_lt hz1) 0) (Nat.le_of_lt hz1) 1)
          clear x0 x1 st5 g5 x50 x51 st6 g6 x60 x61 b7 o7 x70 x71 f70 f71 HR5 HB5 HO5 ST5 G5 HR6 HB6 HO6 ST6 G6 HR7 HB7 ST7 G7
          go_wp2
          exact ⟨⟨k, _, _, _, by omega, by go_num, HRf.out, HBf.out, HOf.out, OKf.out, STf.out, Gf.out⟩, by simp [intOf]⟩
      · obtain rfl : k = 0 := by omega
        obtain ⟨⟨d0, d1⟩, f0, f1⟩ := HR.out
        obtain ⟨⟨x0, x1⟩, -, -⟩ := HB.out
        have k0 := World.cell?_setCell_same wr ⟨w.heap.size, 0, none⟩ (.int .i64 J) d0
        obtain ⟨_, k1⟩ := cells_set2 (u := .int .i64 J) (v := .slice A ls.length c) ⟨_, d0⟩ ⟨_, d1⟩
        go_wp2
        refine bodyPost_ret (v := bodyV J (.slice A ls.length c)) (by simp [results, Try.results34, go_sem, k0, k1, bodyV]) rfl ⟨_, _, ls, rfl, ?_, hok.out, (hst.out.set hw0 (by omega) 0).set hw0 (by omega) 1, grown_late (grown_late hg.out (Nat.le_refl _) 0) (Nat.le_refl _) 1⟩
        exact ((HO.out.setCell_below (by show w.heap.size < _; omega) _).setCell_below (by show w.heap.size < _; omega) _).mono (by omega)
end Go.Proofs.Ytblbmppbbhibeaa
