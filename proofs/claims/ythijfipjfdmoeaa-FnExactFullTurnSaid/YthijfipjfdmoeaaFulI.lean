/- The contracts of the program's FullTurn and JoinCrosses. Condition: the crossings lie in rows of their own. -/
import Derived.Test.YthijfipjfdmoeaaConI
import Derived.Test.YthijfipjfdmoeaaUndI
import Derived.Test.YthijfipjfdmoeaaUnwS
import Derived.Test.YthijfipjfdmoeaaUnxM
import Derived.Test.YthijfipjfdmoeaaInR
namespace Go.Proofs.Ythijfipjfdmoeaa
set_option linter.unusedVariables false
set_option linter.unusedSimpArgs false
open Go.RowKit

theorem implJoin (v1 v2 : Value) (xs ys : List RCross) (b1 b2 : Nat) (w : World) (h1 : OwnCross w b1 v1 xs) (h2 : OwnCross w b2 v2 ys) (hx : xs.length ≤ 2000000) (hy : ys.length ≤ 2000000) :
    Calls Try.prog 11 #[v1, v2] w (CrossPost w (xs ++ ys)) := by
  have C := Lib.hid (followX v1 v2 xs ys b1 b2 w h1 h2 hx hy)
  obtain ⟨A, c, rfl⟩ := h1.slice
  obtain ⟨P, p, rfl⟩ := h2.slice
  clear h1 h2
  go_enter Try.func11, Try.ntmps11
  go_wp2_with fail
  refine C.out.mono ?_
  rintro e w1 ⟨v0, rfl, o0, b0⟩
  go_wp2
  go_ret
  exact ⟨_, rfl, o0, b0⟩

set_option maxRecDepth 100000 in
set_option maxHeartbeats 1600000 in
theorem implFull (n i k : Int) (f : Bool) (w : World) :
    Calls Try.prog 14 #[.int .i64 n, .int .i64 i, .int .i64 k, .bool f] w (CrossB w (fullTurn n i k f)) := by
  have C0 := Lib.hid (fun v lo hi W => (inRange_any v lo hi W).mono fun e w' h => (show _ ∧ W = w' from ⟨h.1, h.2.symm⟩))
  cases h1 : inB n 2 7 with
  | false =>
    have R := Lib.hid (turn_no (i := i) (k := k) (f := f) (.inl h1))
    go_enter Try.func14, Try.ntmps14
    go_wp2_with (go_at_call 39; refine (C0.out _ _ _ _).mono ?_; rintro e w' ⟨rfl, rfl⟩; rw [h1])
    go_ret2
    exact ⟨_, by rw [R.out]; rfl, by rw [R.out]; exact ownCross_none _ _, Below.refl _ _⟩
  | true =>
  have hn : 2 ≤ n ∧ n ≤ 7 := by simpa [inB] using h1
  by_cases hi : i < 0
  · have R := Lib.hid (turn_no (n := n) (k := k) (f := f) (.inr (.inr (show inB i 0 (k - 1) = false by unfold inB; exact decide_eq_false (by omega)))))
    go_enter Try.func14, Try.ntmps14
    go_wp2_with (go_at_call 39; refine (C0.out _ _ _ _).mono ?_; rintro e w' ⟨rfl, rfl⟩; rw [h1])
    go_ret2
    exact ⟨_, by rw [R.out]; rfl, by rw [R.out]; exact ownCross_none _ _, Below.refl _ _⟩
  by_cases hik : k ≤ i
  · have R := Lib.hid (turn_no (n := n) (k := k) (f := f) (.inr (.inr (show inB i 0 (k - 1) = false by unfold inB; exact decide_eq_false (by omega)))))
    go_enter Try.func14, Try.ntmps14
    go_wp2_with (go_at_call 39; refine (C0.out _ _ _ _).mono ?_; rintro e w' ⟨rfl, rfl⟩; rw [h1])
    go_ret2
    exact ⟨_, by rw [R.out]; rfl, by rw [R.out]; exact ownCross_none _ _, Below.refl _ _⟩
  by_cases hkn : n ≤ k
  · have R := Lib.hid (turn_no (n := n) (i := i) (f := f) (.inr (.inl (show inB k 1 (n - 1) = false by unfold inB; exact decide_eq_false (by omega)))))
    go_enter Try.func14, Try.ntmps14
    go_wp2_with (go_at_call 39; refine (C0.out _ _ _ _).mono ?_; rintro e w' ⟨rfl, rfl⟩; rw [h1])
    go_ret2
    exact ⟨_, by rw [R.out]; rfl, by rw [R.out]; exact ownCross_none _ _, Below.refl _ _⟩
  have R := Lib.hid (show fullTurn n i k f = (turnL i.toNat k.toNat f, true) by
    unfold fullTurn
    rw [if_pos ⟨h1, by unfold inB; exact decide_eq_true (by omega), by unfold inB; exact decide_eq_true (by omega)⟩])
  obtain ⟨I, rfl⟩ := Int.eq_ofNat_of_zero_le (show 0 ≤ i by omega)
  obtain ⟨K, rfl⟩ := Int.eq_ofNat_of_zero_le (show 0 ≤ k by omega)
  rw [Int.toNat_natCast, Int.toNat_natCast] at R
  obtain ⟨D, hD⟩ : ∃ D : Nat, K = I + 1 + D := ⟨K - I - 1, by omega⟩
  have RT := Lib.hid (show turnL I K f = downL K D ++ [⟨(I : Int), f⟩, ⟨(I : Int), f⟩] ++ upL I D by unfold turnL; rw [show K - 1 - I = D by omega])
  have CL := Lib.hid (fun W => leftX K I D hD (by omega) W)
  have UD := Lib.hid (show undo (downL K D) = upL I D by rw [undo_down (i := I) (k := K) (by omega) D (by omega), show K - 1 - D = I by omega])
  have CU := Lib.hid (fun v b W h => implUndo v (downL K D) b W h (by rw [downL_len]; omega))
  rw [UD.out] at CU
  have ei : IntKind.i64.wrap ((I : Int) + 1) = (I : Int) + 1 := IntWalk.i64_in _ (by omega)
  have CF1 := Lib.hid (fun v1 v2 b1 b2 W g1 g2 => followX v1 v2 (downL K D) [⟨(I : Int), f⟩, ⟨(I : Int), f⟩] b1 b2 W g1 g2 (by rw [downL_len]; omega) (by simp))
  have CF2 := Lib.hid (fun v1 v2 b1 b2 W g1 g2 => followX v1 v2 (downL K D ++ [⟨(I : Int), f⟩, ⟨(I : Int), f⟩]) (upL I D) b1 b2 W g1 g2 (by rw [List.length_append, downL_len]; simp; omega) (by rw [upL_len]; omega))
  rw [← RT.out] at CF2
  have TW := Lib.hid (fun W base (hb : base ≤ W.heap.size) => twoCross W base ⟨(I : Int), f⟩ ⟨(I : Int), f⟩ hb)
  have hi0 : (0 : Int) ≤ (I : Int) := by omega
  have hik0 : (I : Int) < (K : Int) := by omega
  have hkn0 : (K : Int) < n := by omega
  generalize downL K D ++ [⟨(I : Int), f⟩, ⟨(I : Int), f⟩] = ts at CF1 CF2
  generalize turnL I K f = tt at CF2 R
  generalize downL K D = ds at CL CU CF1
  generalize upL I D = us at CU CF2
  clear hD RT UD hi hik hkn
  go_enter Try.func14, Try.ntmps14
  go_wp2_with (go_at_call 39; refine (C0.out _ _ _ _).mono ?_; rintro e w' ⟨rfl, rfl⟩; rw [h1])
  refine (CL.out _).mono ?_
  rintro e w1 ⟨v1, rfl, o1, b1⟩
  have O1 := Lib.hid o1
  have B1 := Lib.hid b1
  clear o1 b1 CL
  obtain ⟨A1, c1, rfl⟩ := O1.out.slice
  go_wp2_with fail
  refine (CU.out _ _ _ O1.out).mono ?_
  rintro e w2 ⟨v2, rfl, o2, b2⟩
  have O2 := Lib.hid o2
  have P2 := Lib.hid (O1.out.below b2)
  have B2 := Lib.hid (B1.out.trans (b2.mono B1.out.size))
  clear o2 b2 O1 B1 CU
  obtain ⟨A2, c2, rfl⟩ := O2.out.slice
  go_wp2_with fail
  have hs2 := B2.out.size
  have T3 := Lib.hid (TW.out (w2.alloc (.cells #[.int .i64 (I : Int), .bool f] 56)) w.heap.size (by simp; omega))
  simp only [World.size_alloc] at T3
  refine (CF1.out _ _ w.heap.size w.heap.size _ ((P2.out.alloc _).alloc _) T3.out).mono ?_
  rintro e w3 ⟨v3, rfl, o3, b3⟩
  have B3 := Lib.hid (((B2.out.alloc hs2 (.cells #[.int .i64 (I : Int), .bool f] 56)).alloc (by simp; omega) (.cells #[.int .i64 (I : Int), .bool f, .int .i64 (I : Int), .bool f] 56)).trans (b3.mono (by simp; omega)))
  have O3 := Lib.hid (o3.mono (b := w.heap.size) (by simp; omega))
  have Q3 := Lib.hid (((O2.out.alloc (.cells #[.int .i64 (I : Int), .bool f] 56)).alloc (.cells #[.int .i64 (I : Int), .bool f, .int .i64 (I : Int), .bool f] 56)).below b3)
  clear o3 b3 T3 P2 B2 O2 CF1 TW hs2
  obtain ⟨A3, c3, rfl⟩ := O3.out.slice
  go_wp2_with fail
  refine (CF2.out _ _ _ _ _ O3.out Q3.out).mono ?_
  rintro e w4 ⟨v4, rfl, o4, b4⟩
  have hs3 := B3.out.size
  have O4 := Lib.hid (o4.mono hs3)
  have B4 := Lib.hid (B3.out.trans (b4.mono hs3))
  clear o4 b4 O3 B3 Q3 CF2
  go_wp2
  go_ret2
  exact ⟨_, by rw [R.out]; rfl, by rw [R.out]; exact O4.out, B4.out⟩
end Go.Proofs.Ythijfipjfdmoeaa
