/- The contracts of slices.Grow at nil and slices.Concat at two rows of crossings, and of the program's followedBy and leftInFront. Condition: the crossings lie in rows of their own. -/
import Derived.Test.YthijfipjfdmoeaaUnwM
import Derived.Test.YthijfipjfdmoeaaCrossA
import Derived.Lib.AppendZeros
namespace Go.Proofs.Ythijfipjfdmoeaa
set_option linter.unusedVariables false
set_option linter.unusedSimpArgs false
open Go.RowKit

theorem ownCross_none (w : World) (base : Nat) : OwnCross w base (.slice none 0 0) [] := ⟨rfl, .inl ⟨rfl, rfl⟩⟩

set_option maxRecDepth 100000 in
set_option maxHeartbeats 1600000 in
theorem growX (n : Nat) (w : World) (hn : n ≤ 4000000) :
    Calls Try.prog 69 #[.slice none 0 0, .int .i64 (n : Int)] w (CrossPost w []) := by
  rcases Nat.eq_zero_or_pos n with rfl | hp
  · go_enter Try.func69, Try.ntmps69
    go_wp2
    go_ret
    exact ⟨_, rfl, ownCross_none _ _, Below.refl _ _⟩
  obtain ⟨i, hi, hz, hs, hb⟩ := info_parts infoCross
  have hrz := fun ty => Lib.run_append_nil_zeros (P := Try.prog) w 24 3 ty 56 i RCross.zero.val .i64 .i64 Try.underlying24 Try.underlying3 hi hz n hp (by omega) (by omega) (by rw [hb]; omega)
  have hge : n ≤ grownCap w n 0 56 := grownCap_ge w _ _ _
  have hle : grownCap w n 0 56 ≤ maxLen := grownCap_le_maxLen w _ _ _ (by simp only [maxLen]; omega)
  generalize grownCap w n 0 56 = G at hrz hge hle
  have hcs : (Builtin.zeroCells RCross.zero.val.cells n ++ Builtin.zeroCells RCross.zero.val.cells (G - n)).size = G * 2 := by
    rw [Array.size_append, size_zeroCells, size_zeroCells, ← Nat.add_mul, show n + (G - n) = G by omega]; rfl
  generalize Builtin.zeroCells RCross.zero.val.cells n ++ Builtin.zeroCells RCross.zero.val.cells (G - n) = CS at hrz hcs
  have OWN := Lib.hid (show OwnCross (w.drew.alloc (.cells CS 56)) w.heap.size (.slice (some ⟨w.heap.size, 0, none⟩) 0 G) [] from
    ⟨rfl, .inr ⟨w.heap.size, G, CS, rfl, Nat.le_refl _, heap_alloc_new w.drew _, Nat.zero_le _, hle, hcs, by simp [flatCross]⟩⟩)
  have BEL := Lib.hid (((Below.refl w.heap.size w).drew).alloc (Nat.le_refl _) (.cells CS 56))
  have hn0 : ¬ (n : Int) < 0 := by omega
  have hn1 : (0 : Int) < (n : Int) := by omega
  have hG : G ≤ 9223372036854775807 := by simp only [maxLen] at hle; omega
  clear hs hb hi hz hcs
  go_enter Try.func69, Try.ntmps69
  go_wp2_with (at_builtin; refine Lib.wpList_append_run _ rfl _ _ _ _ rfl _ _ rfl rfl _ _ (hrz _) ?_)
  all_goals
    go_ret
    exact ⟨_, rfl, OWN.out, BEL.out⟩

/-- How many crossings stand in the first k of two rows. -/
def catN (a b : Nat) : Nat → Nat
  | 0 => 0
  | 1 => a
  | _ => a + b
def catL (xs ys : List RCross) : Nat → List RCross
  | 0 => []
  | 1 => xs
  | _ => xs ++ ys

set_option maxRecDepth 100000 in
set_option maxHeartbeats 1600000 in
theorem concatX (g : Nat) (v1 v2 : Value) (xs ys : List RCross) (b1 b2 : Nat) (w : World) (hg : g < w.heap.size) (c1 : w.cell? ⟨g, 0, none⟩ = some v1) (c2 : w.cell? ⟨g, 1, none⟩ = some v2)
    (h1 : OwnCross w b1 v1 xs) (h2 : OwnCross w b2 v2 ys) (hx : xs.length ≤ 2000000) (hy : ys.length ≤ 2000000) :
    Calls Try.prog 58 #[.slice (some ⟨g, 0, none⟩) 2 2] w (CrossPost w (xs ++ ys)) := by
  obtain ⟨A, c, rfl⟩ := h1.slice
  obtain ⟨P, p, rfl⟩ := h2.slice
  have O1 := Lib.hid h1
  have O2 := Lib.hid h2
  have X1 := Lib.hid (fun W (hb : Below w.heap.size w W) => (show W.cell? ⟨g, 0, none⟩ = some (.slice A xs.length c) from (hb.cell hg).trans c1))
  have X2 := Lib.hid (fun W (hb : Below w.heap.size w W) => (show W.cell? ⟨g, 1, none⟩ = some (.slice P ys.length p) from (hb.cell hg).trans c2))
  have GX := Lib.hid (fun W => growX (xs.length + ys.length) W (by omega))
  have e0 : IntKind.i64.wrap ((xs.length : Int)) = (xs.length : Int) := IntWalk.i64_in _ (by omega)
  have e1 : IntKind.i64.wrap ((xs.length : Int) + (ys.length : Int)) = ((xs.length + ys.length : Nat) : Int) := by rw [IntWalk.i64_in _ (by omega)]; omega
  have hx0 : ¬ (xs.length : Int) < 0 := by omega
  have hx1 : ¬ ((xs.length + ys.length : Nat) : Int) < 0 := by omega
  have HX := Lib.hid hx
  have HY := Lib.hid hy
  clear h1 h2
  go_enter Try.func58, Try.ntmps58
  go_wp2_with fail
  go_loopw [3, 11] (fun sv iv wr => w = wr ∧ ∃ k : Nat, k ≤ 2 ∧ iv = .int .i64 (k : Int) ∧ sv = .int .i64 ((catN xs.length ys.length k : Nat) : Int)) (fun _ iv _ => 2 - (intOf iv).toNat)
  case atStart => exact ⟨rfl, 0, by omega, rfl, rfl⟩
  case round =>
    obtain ⟨rfl, k, hk, rfl, rfl⟩ := hrel
    rcases (by omega : k = 0 ∨ k = 1 ∨ k = 2) with rfl | rfl | rfl
    · simp only [catN]
      go_wp2
      exact ⟨⟨trivial, 1, by omega, by go_num, by simp [catN]⟩, by simp [intOf]⟩
    · simp only [catN]
      go_wp2
      exact ⟨⟨trivial, 2, by omega, by go_num, by simp [catN]⟩, by simp [intOf]⟩
    · simp only [catN]
      clear c1 c2
      go_wp2_with (go_at_call 69; refine (GX.out _).mono ?_; rintro e w1 ⟨v0, rfl, o0, b0⟩; have O0 := Lib.hid o0; have B0 := Lib.hid b0; clear o0 b0)
      go_loopw [6, 27] (fun ov iv wr => ∃ (k : Nat) (vo : Value), vo = ov ∧ k ≤ 2 ∧ iv = .int .i64 (k : Int) ∧ Hid (OwnCross wr w.heap.size vo (catL xs ys k)) ∧ Hid (Below w.heap.size w wr)) (fun _ iv _ => 2 - (intOf iv).toNat)
      case atStart => exact ⟨0, _, rfl, by omega, rfl, O0, B0⟩
      case round =>
        clear O0 B0
        obtain ⟨k, vo, rfl, hk, rfl, OO, BW⟩ := hrel
        have d1 := X1.out _ BW.out
        have d2 := X2.out _ BW.out
        have hsz := BW.out.size
        have P1 := Lib.hid (O1.out.below BW.out)
        have P2 := Lib.hid (O2.out.below BW.out)
        rcases (by omega : k = 0 ∨ k = 1 ∨ k = 2) with rfl | rfl | rfl
        · simp only [catL] at OO
          go_wp2_with (at_builtin; refine wpList_rowsCross rfl (.tmp 31) (.tmp 32) rfl w.heap.size b1 vo (.slice A xs.length c) [] xs rfl rfl OO.out P1.out ?_ ?_ ?_; (have := HX.out; simp; omega); (exact hsz); intro v3 w3 o3 g3 hat3; have B3 := Lib.hid (mineCross BW.out hsz OO.out g3); have O3 := Lib.hid o3; clear o3 g3 hat3)
          exact ⟨⟨1, _, rfl, by omega, by go_num, O3, B3⟩, by simp [intOf]⟩
        · simp only [catL] at OO
          go_wp2_with (at_builtin; refine wpList_rowsCross rfl (.tmp 31) (.tmp 32) rfl w.heap.size b2 vo (.slice P ys.length p) xs ys rfl rfl OO.out P2.out ?_ ?_ ?_; (have := HX.out; have := HY.out; omega); (exact hsz); intro v3 w3 o3 g3 hat3; have B3 := Lib.hid (mineCross BW.out hsz OO.out g3); have O3 := Lib.hid o3; clear o3 g3 hat3)
          exact ⟨⟨2, _, rfl, by omega, by go_num, O3, B3⟩, by simp [intOf]⟩
        · simp only [catL] at OO
          go_wp2
          go_ret
          exact ⟨_, rfl, OO.out, BW.out⟩

set_option maxRecDepth 100000 in
set_option maxHeartbeats 1600000 in
theorem followX (v1 v2 : Value) (xs ys : List RCross) (b1 b2 : Nat) (w : World) (h1 : OwnCross w b1 v1 xs) (h2 : OwnCross w b2 v2 ys) (hx : xs.length ≤ 2000000) (hy : ys.length ≤ 2000000) :
    Calls Try.prog 35 #[v1, v2] w (CrossPost w (xs ++ ys)) := by
  have hnew : (w.alloc (.cells #[v1, v2] 24)).heap[w.heap.size]? = some (.cells [v1, v2].toArray 24 (0, 0)) := heap_alloc_new w _
  have CC := Lib.hid (concatX w.heap.size v1 v2 xs ys b1 b2 (w.alloc (.cells #[v1, v2] 24)) (by simp) (World.news_of_block hnew 0 v1 rfl) (World.news_of_block hnew 1 v2 rfl) (h1.alloc _) (h2.alloc _) hx hy)
  obtain ⟨A, c, rfl⟩ := h1.slice
  obtain ⟨P, p, rfl⟩ := h2.slice
  clear h1 h2 hnew
  go_enter Try.func35, Try.ntmps35
  go_wp2_with fail
  refine CC.out.mono ?_
  rintro e w1 ⟨v0, rfl, o0, b0⟩
  go_wp2
  go_ret
  exact ⟨_, rfl, o0.mono (by simp), ((Below.refl w.heap.size w).alloc (Nat.le_refl _) _).trans (b0.mono (by simp))⟩

set_option maxRecDepth 100000 in
set_option maxHeartbeats 1600000 in
theorem leftX (K I D : Nat) (hK : K = I + 1 + D) (h7 : K ≤ 7) (w : World) :
    Calls Try.prog 40 #[.int .i64 (K : Int), .int .i64 ((I : Int) + 1)] w (CrossPost w (downL K D)) := by
  have HK := Lib.hid hK
  have FX := Lib.hid (fun v2 b1 b2 v1 xs y W h1 h2 hx => followX v1 v2 xs [y] b1 b2 W h1 h2 hx (by simp))
  clear hK
  go_enter Try.func40, Try.ntmps40
  go_wp2_with fail
  go_loopw [5, 6] (fun ov iv wr => ∃ (m : Nat) (vo : Value), vo = ov ∧ m ≤ D ∧ iv = .int .i64 ((K : Int) - (m : Int)) ∧ Hid (OwnCross wr w.heap.size vo (downL K m)) ∧ Hid (Below w.heap.size w wr)) (fun _ iv _ => (intOf iv).toNat)
  case atStart => exact ⟨0, _, rfl, by omega, by simp, Lib.hid (ownCross_none _ _), Lib.hid (Below.refl _ _)⟩
  case round =>
    obtain ⟨m, vo, rfl, hm, rfl, OO, BW⟩ := hrel
    have hd := HK.out
    have hsz := BW.out.size
    by_cases hlt : m < D
    · have hp : (I : Int) + 1 < (K : Int) - (m : Int) := by omega
      have ew : IntKind.i64.wrap ((K : Int) - (m : Int) - 1) = (K : Int) - 1 - (m : Int) := by rw [IntWalk.i64_in _ (by omega)]; omega
      have hlen := downL_len K m
      have DM := Lib.hid (show downL K (m + 1) = downL K m ++ [⟨(K : Int) - 1 - (m : Int), false⟩] from rfl)
      have MZ : ((K : Int) - 1 - (m : Int)).toNat < ((K : Int) - (m : Int)).toNat := by omega
      have NX : (K : Int) - 1 - (m : Int) = (K : Int) - ((m + 1 : Nat) : Int) := by omega
      have HNX := Lib.hid NX
      have ONE := Lib.hid (oneCross wr w.heap.size ⟨(K : Int) - 1 - (m : Int), false⟩ hsz)
      have C := Lib.hid (FX.out _ w.heap.size w.heap.size vo (downL K m) ⟨(K : Int) - 1 - (m : Int), false⟩ _ (OO.out.alloc _) ONE.out (by omega))
      rw [← DM.out] at C
      generalize (K : Int) - (m : Int) = p at hp ew MZ ⊢
      generalize (K : Int) - 1 - (m : Int) = q at ew MZ C HNX ⊢
      clear hlen NX DM ONE hd
      go_wp2_with fail
      refine C.out.mono ?_
      rintro e w1 ⟨v1, rfl, o1, b1⟩
      have O1 := Lib.hid (o1.mono (b := w.heap.size) (by simp; omega))
      have B1 := Lib.hid ((BW.out.alloc hsz _).trans (b1.mono (by simp; omega)))
      clear o1 b1 OO BW
      go_wp2
      exact ⟨⟨m + 1, _, rfl, by omega, by rw [HNX.out], O1, B1⟩, by simpa [intOf] using MZ⟩
    · obtain rfl : m = D := by omega
      have hp : ¬ (I : Int) + 1 < (K : Int) - (m : Int) := by omega
      generalize (K : Int) - (m : Int) = p at hp ⊢
      clear hd
      go_wp2
      go_ret
      exact ⟨_, rfl, OO.out, BW.out⟩
end Go.Proofs.Ythijfipjfdmoeaa
