/- The drawing of numbers out of a law's bytes: the cursor, and the contracts of the functions that move it. No condition but that the bytes can be read. -/
import Derived.Test.YtanlfkkmnnjpeaaPk1
import Derived.Laws.BitsLemmas
import Derived.BigQuiet
import Derived.Deep.QuietTactic
import Derived.Deep.Draws
import Derived.Laws.Pointers
namespace Go.Proofs.Ytanlfkkmnnjpeaa
set_option linter.unusedVariables false
open Go.RowKit

theorem i64_and255 (n : Int) : bits .and .i64 n 255 = n % 256 := by
  have hm : (BitVec.ofInt 64 255).toNat = 2 ^ 8 - 1 := by decide
  have key : (BitVec.ofInt 64 n &&& BitVec.ofInt 64 255).toNat = (n % ((2 ^ 64 : Nat) : Int)).toNat % 2 ^ 8 := by
    rw [BitVec.toNat_and, BitVec.toNat_ofInt, hm, Nat.and_two_pow_sub_one_eq_mod]
  show IntKind.i64.wrap ((BitVec.ofInt 64 n &&& BitVec.ofInt 64 255).toNat : Nat) = n % 256
  rw [key, IntKind.wrap_i64]
  omega
theorem i64_and30 (n : Int) : bits .and .i64 n 1073741823 = n % 1073741824 := by
  have hm : (BitVec.ofInt 64 1073741823).toNat = 2 ^ 30 - 1 := by decide
  have key : (BitVec.ofInt 64 n &&& BitVec.ofInt 64 1073741823).toNat = (n % ((2 ^ 64 : Nat) : Int)).toNat % 2 ^ 30 := by
    rw [BitVec.toNat_and, BitVec.toNat_ofInt, hm, Nat.and_two_pow_sub_one_eq_mod]
  show IntKind.i64.wrap ((BitVec.ofInt 64 n &&& BitVec.ofInt 64 1073741823).toNat : Nat) = n % 1073741824
  rw [key, IntKind.wrap_i64]
  omega

/-- Block b is a cursor over the bytes 'code' (a slice value of n elements). -/
def CurAt (w : World) (b : Nat) (a : Option Addr) (n cap : Nat) : Prop :=
  ∃ i h : Int, 0 ≤ i ∧ i ≤ (n : Int) ∧ w.heap[b]? = some (.cells #[.slice a n cap, .int .i64 i, .int .i64 h] 81 (0, 0))

/-- A cursor of the call's own: below the blocks of w0 nothing has turned. -/
structure St (w0 : World) (a : Option Addr) (n cap : Nat) (w : World) (b : Nat) : Prop where
  below : Below w0.heap.size w0 w
  own : w0.heap.size ≤ b
  cur : CurAt w b a n cap

theorem CurAt.lt {w : World} {b : Nat} {a : Option Addr} {n cap : Nat} (h : CurAt w b a n cap) : b < w.heap.size := by
  obtain ⟨i, x, _, _, hb⟩ := h
  exact (Array.getElem?_eq_some_iff.1 hb).1

theorem grown_drewN {a w : World} {row : Option Nat} (h : a.grownBy w row) (n : Nat) : a.grownBy (w.drewN n) row := ⟨h.os, h.tape, h.output, h.size, h.block⟩
theorem grown_set {a w : World} {b o : Nat} {u : Value} (h : a.grownBy w (some b)) : a.grownBy (w.setCell ⟨b, o, none⟩ u) (some b) :=
  ⟨h.os, h.tape, h.output, by simpa [World.setCell] using h.size, fun k hk hne => (Below.heap_setCell _ _ _ _ (by rintro rfl; exact hne rfl)).trans (h.block k hk hne)⟩
theorem st_grown {w0 w w' : World} {b : Nat} (hb : Below w0.heap.size w0 w) (ho : w0.heap.size ≤ b) (hg : w.grownBy w' (some b)) : Below w0.heap.size w0 w' :=
  hb.grown hg hb.size (by intro k hk; injection hk with hk; omega)
theorem row_len {w : World} {a : Option Addr} {n cap : Nat} {z : List Int} (hr : IsRow .u8 w a n cap z) : n ≤ 9223372036854775807 := by
  rcases hr with ⟨_, rfl, _, _⟩ | ⟨x, rfl, hl, hm, _⟩
  · omega
  · simp only [maxLen] at hm; omega

/-- One element of the bytes. -/
theorem row_at {w : World} {a : Option Addr} {n cap : Nat} {z : List Int} (hr : IsRow .u8 w a n cap z) {j : Nat} (hj : j < n) :
    ∃ (xb xo : Nat) (v : Int), a = some ⟨xb, xo, none⟩ ∧ w.cell? ⟨xb, xo + j, none⟩ = some (.int .u8 v) ∧ 0 ≤ v ∧ v < 256 ∧ xb < w.heap.size := by
  rcases hr with ⟨_, rfl, _, _⟩ | ⟨x, rfl, hl, hm, hz, hcell, hwz⟩
  · omega
  · obtain ⟨xb, xo, spot⟩ := x
    have hc := hcell j (by omega)
    have hspot : spot = none := by simpa [Addr.add] using World.cell?_spot (hcell 0 (by omega))
    subst hspot
    have he : (⟨xb, xo, none⟩ : Addr).add j = ⟨xb, xo + j, none⟩ := by unfold Addr.add; split <;> simp_all
    rw [he] at hc
    have hv := hwz (z.getD j 0) (by rw [List.getD_eq_getElem?_getD, List.getElem?_eq_getElem (by omega)]; exact List.getElem_mem _)
    have hb : 0 ≤ z.getD j 0 ∧ z.getD j 0 ≤ 255 := by simpa [Lit.wf, IntKind.min, IntKind.max, IntKind.signed, IntKind.bits] using hv
    exact ⟨xb, xo, z.getD j 0, rfl, hc, hb.1, by omega, World.block_lt_of_cell? w _ hc⟩

theorem st_moved {w0 w w1 : World} {a : Option Addr} {n cap b : Nat} {j h h2 : Int} (hb : Below w0.heap.size w0 w) (ho : w0.heap.size ≤ b) (hg1 : w.grownBy w1 (some b))
    (hc1 : w1.heap[b]? = some (.cells (#[.slice a n cap, .int .i64 j, .int .i64 h].setIfInBounds 2 (.int .i64 h2)) 81 (0, 0))) (h0 : 0 ≤ j) (h1 : j + 1 ≤ (n : Int)) (N : Nat) :
    St w0 a n cap ((w1.drewN N).setCell ⟨b, 1, none⟩ (.int .i64 (j + 1))) b ∧ w.grownBy ((w1.drewN N).setCell ⟨b, 1, none⟩ (.int .i64 (j + 1))) (some b) :=
  have hg2 := grown_set (o := 1) (u := .int .i64 (j + 1)) (grown_drewN hg1 N)
  ⟨⟨st_grown hb ho hg2, ho, j + 1, h2, by omega, by omega, heap_setCell_same (w1.drewN N) b 1 _ _ (.int .i64 (j + 1)) hc1⟩, hg2⟩

/-- What a function that draws one number comes to: a number of which P holds, the cursor moved, nothing else turned. -/
def NumPost (w0 : World) (a : Option Addr) (n cap : Nat) (w : World) (b : Nat) (P : Int → Prop) (e : Ending) (w' : World) : Prop :=
  ∃ x : Int, e = .returned (.int .i64 x) ∧ P x ∧ St w0 a n cap w' b ∧ w.grownBy w' (some b)
theorem grown_trans {a b c : World} {row : Option Nat} (h : a.grownBy b row) (k : b.grownBy c row) : a.grownBy c row :=
  ⟨k.os.trans h.os, k.tape.trans h.tape, k.output.trans h.output, Nat.le_trans h.size k.size, fun i hi hne => (k.block i (Nat.lt_of_lt_of_le hi h.size) hne).trans (h.block i hi hne)⟩

set_option maxRecDepth 100000 in
theorem byte_any (w0 : World) (a : Option Addr) (n cap : Nat) (z : List Int) (hr : IsRow .u8 w0 a n cap z) (w : World) (b : Nat) (hs : St w0 a n cap w b) :
    Calls Try.prog 69 #[.pointer (some ⟨b, 0, none⟩)] w (NumPost w0 a n cap w b fun x => 0 ≤ x ∧ x < 256) := by
  obtain ⟨hb, ho, i, h, hi0, hi1, hc⟩ := hs
  obtain ⟨j, rfl⟩ := Int.eq_ofNat_of_zero_le hi0
  have c0 : w.cell? ⟨b, 0, none⟩ = some (.slice a n cap) := by rw [cell_of_row w b 0 _ _ _ hc]; rfl
  have c1 : w.cell? ⟨b, 1, none⟩ = some (.int .i64 (j : Int)) := by rw [cell_of_row w b 1 _ _ _ hc]; rfl
  have c2 : w.cell? ⟨b, 2, none⟩ = some (.int .i64 h) := by rw [cell_of_row w b 2 _ _ _ hc]; rfl
  have f1 : w.frozen? ⟨b, 1, none⟩ = false := frozen_of_row w b 1 _ _ hc
  have f2 : w.frozen? ⟨b, 2, none⟩ = false := frozen_of_row w b 2 _ _ hc
  go_enter Try.func69, Try.ntmps69
  go_wp2
  generalize wrap64 (wrap64 (h * 6364136223846793005) + 1442695040888963407) = h2
  have hc1 := heap_setCell_same w b 2 _ _ (.int .i64 h2) hc
  have hg1 : w.grownBy (w.setCell ⟨b, 2, none⟩ (.int .i64 h2)) (some b) := ⟨rfl, rfl, rfl, by simp [World.setCell], fun k _ hk => Below.heap_setCell _ _ _ _ (by rintro rfl; exact hk rfl)⟩
  generalize w.setCell ⟨b, 2, none⟩ (.int .i64 h2) = w1 at *
  clear c0 c1 c2 f1 f2
  have c0 : w1.cell? ⟨b, 0, none⟩ = some (.slice a n cap) := by rw [cell_of_row w1 b 0 _ _ _ hc1]; rfl
  have c1 : w1.cell? ⟨b, 1, none⟩ = some (.int .i64 (j : Int)) := by rw [cell_of_row w1 b 1 _ _ _ hc1]; rfl
  have c2 : w1.cell? ⟨b, 2, none⟩ = some (.int .i64 h2) := by rw [cell_of_row w1 b 2 _ _ _ hc1]; rfl
  have f1 : w1.frozen? ⟨b, 1, none⟩ = false := frozen_of_row w1 b 1 _ _ hc1
  have hand := i64_and255
  go_quiet (fail)
  have hx0 : 0 ≤ bits BinOp.xor IntKind.i64 (h2 / 8589934592) (h2 / 35184372088832) % 256 := by omega
  have hx1 : bits BinOp.xor IntKind.i64 (h2 / 8589934592) (h2 / 35184372088832) % 256 < 256 := by omega
  generalize bits BinOp.xor IntKind.i64 (h2 / 8589934592) (h2 / 35184372088832) = y at hx0 hx1 ⊢
  generalize y % 256 = x0 at hx0 hx1 ⊢
  go_wp2
  by_cases hlt : j < n
  · obtain ⟨xb, xo, v, rfl, hv, hv0, hv1, hxb⟩ := row_at hr hlt
    have hv' : w1.cell? ⟨xb, xo + j, none⟩ = some (.int .u8 v) := by
      rw [World.cell?_of_block (hg1.block xb (by have := hb.size; omega) (by simp; omega)), hb.cell hxb]
      exact hv
    have hltI : (j : Int) < (n : Int) := by omega
    have hj0 : (0 : Int) ≤ (j : Int) := by omega
    have hmx := row_len hr
    go_quiet (fail)
    go_wp2
    go_quiet (fail)
    go_wp2
    go_ret
    exact ⟨_, rfl, ⟨by omega, by omega⟩, st_moved hb ho hg1 hc1 (by omega) (by omega) _⟩
  · have hltI : decide ((j : Int) < (n : Int)) = false := by simp; omega
    go_quiet (fail)
    go_wp2
    go_ret
    exact ⟨_, rfl, ⟨by omega, by omega⟩, ⟨st_grown hb ho (grown_drewN (grown_drewN hg1 _) _), ho, (j : Int), h2, by omega, by omega, hc1⟩, grown_drewN (grown_drewN hg1 _) _⟩

theorem below_any (w0 : World) (a : Option Addr) (n cap : Nat) (z : List Int) (hr : IsRow .u8 w0 a n cap z) (w : World) (b : Nat) (hs : St w0 a n cap w b) (m : Int) :
    Calls Try.prog 61 #[.pointer (some ⟨b, 0, none⟩), .int .i64 m] w (NumPost w0 a n cap w b fun x => 0 ≤ x ∧ (0 < m → x < m) ∧ (m ≤ 0 → x ≤ 0)) := by
  have C := Lib.hid (byte_any w0 a n cap z hr)
  clear hr
  by_cases h0 : m ≤ 0
  · go_enter Try.func61, Try.ntmps61
    go_wp2
    go_ret
    exact ⟨_, rfl, ⟨by omega, by omega, by omega⟩, hs, World.grownBy.refl w _⟩
  · by_cases h1 : m ≤ 256
    · go_enter Try.func61, Try.ntmps61
      go_wp2_with fail
      refine (C.out _ _ hs).mono ?_
      rintro e w1 ⟨x, rfl, ⟨hx0, hx1⟩, hs1, hg1⟩
      go_wp2
      go_ret
      exact ⟨_, rfl, ⟨Int.emod_nonneg _ (by omega), fun _ => Int.emod_lt_of_pos _ (by omega), by omega⟩, hs1, hg1⟩
    · go_enter Try.func61, Try.ntmps61
      go_wp2_with fail
      refine (C.out _ _ hs).mono ?_
      rintro e w1 ⟨x, rfl, ⟨hx0, hx1⟩, hs1, hg1⟩
      go_wp2_with fail
      refine (C.out _ _ hs1).mono ?_
      rintro e w2 ⟨y, rfl, ⟨hy0, hy1⟩, hs2, hg2⟩
      go_wp2_with fail
      refine (C.out _ _ hs2).mono ?_
      rintro e w3 ⟨v, rfl, ⟨hv0, hv1⟩, hs3, hg3⟩
      go_wp2_with fail
      refine (C.out _ _ hs3).mono ?_
      rintro e w4 ⟨u, rfl, ⟨hu0, hu1⟩, hs4, hg4⟩
      go_wp2
      go_ret
      exact ⟨_, rfl, ⟨Int.emod_nonneg _ (by omega), fun _ => Int.emod_lt_of_pos _ (by omega), by omega⟩, hs4, grown_trans hg1 (grown_trans hg2 (grown_trans hg3 hg4))⟩
end Go.Proofs.Ytanlfkkmnnjpeaa
