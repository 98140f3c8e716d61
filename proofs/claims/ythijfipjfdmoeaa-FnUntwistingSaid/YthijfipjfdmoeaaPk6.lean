/- Texts of this seat laid together, each with its own first sentence below: InR FulI MulI RepX TwaM OrdW MadZ CroI NowM PrsM. -/
import Derived.Test.YthijfipjfdmoeaaPk1
import Derived.Test.YthijfipjfdmoeaaPk3
import Derived.Test.YthijfipjfdmoeaaPk5
import Derived.Test.YthijfipjfdmoeaaPk2
import Derived.Laws.Bits64b
import Derived.Deep.Slices
import Derived.Laws.CopyOwn
import Derived.Deep.RegionLaw
/- The contract of the program's look whether one number lies in a range. -/
namespace Go.Proofs.Ythijfipjfdmoeaa
set_option linter.unusedVariables false
open Go.RowKit

theorem inRange_yes {v lo hi : Int} (h : lo ≤ v ∧ v ≤ hi) (w : World) :
    Calls Try.prog 39 #[.int .i64 v, .int .i64 lo, .int .i64 hi] w fun e w' => e = .returned (.bool true) ∧ w' = w := by
  obtain ⟨h1, h2⟩ := h
  go_enter Try.func39, Try.ntmps39
  go_wp2
  go_ret
  exact ⟨rfl, rfl⟩
theorem inRange_no {v lo hi : Int} (h : ¬ (lo ≤ v ∧ v ≤ hi)) (w : World) :
    Calls Try.prog 39 #[.int .i64 v, .int .i64 lo, .int .i64 hi] w fun e w' => e = .returned (.bool false) ∧ w' = w := by
  by_cases h1 : lo ≤ v
  · have h2 : ¬ v ≤ hi := fun x => h ⟨h1, x⟩
    go_enter Try.func39, Try.ntmps39
    go_wp2
    go_ret
    exact ⟨rfl, rfl⟩
  · go_enter Try.func39, Try.ntmps39
    go_wp2
    go_ret
    exact ⟨rfl, rfl⟩
theorem inRange_any (v lo hi : Int) (w : World) :
    Calls Try.prog 39 #[.int .i64 v, .int .i64 lo, .int .i64 hi] w fun e w' => e = .returned (.bool (inB v lo hi)) ∧ w' = w := by
  by_cases h : lo ≤ v ∧ v ≤ hi
  · rw [inB_yes h]
    exact inRange_yes h w
  · rw [inB_no h]
    exact inRange_no h w
end Go.Proofs.Ythijfipjfdmoeaa

/- The contracts of the program's FullTurn and JoinCrosses. Condition: the crossings lie in rows of their own. -/
namespace Go.Proofs.Ythijfipjfdmoeaa
set_option linter.unusedVariables false
set_option linter.unusedSimpArgs false
open Go.RowKit

theorem implJoin (v1 v2 : Value) (xs ys : List RCross) (b1 b2 : Nat) (w : World) (h1 : OwnCross w b1 v1 xs) (h2 : OwnCross w b2 v2 ys) (hx : xs.length ≤ 2000000) (hy : ys.length ≤ 2000000) :
    Calls Try.prog 11 #[v1, v2] w (CrossPost w (xs ++ ys)) := by
  have C := Lib.hid (followX v1 v2 xs ys b1 b2 w h1 h2 hx hy)
  obtain ⟨A, c, rfl⟩ := h1.slice
  obtain ⟨P, p, rfl⟩ := h2.slice
  clear h1 h2
  go_enter Try.func11, Try.ntmps11
  go_wp2_with fail
  refine C.out.mono ?_
  rintro e w1 ⟨v0, rfl, o0, b0⟩
  go_wp2
  go_ret
  exact ⟨_, rfl, o0, b0⟩

set_option maxRecDepth 100000 in
set_option maxHeartbeats 1600000 in
theorem implFull (n i k : Int) (f : Bool) (w : World) :
    Calls Try.prog 14 #[.int .i64 n, .int .i64 i, .int .i64 k, .bool f] w (CrossB w (fullTurn n i k f)) := by
  have C0 := Lib.hid (fun v lo hi W => (inRange_any v lo hi W).mono fun e w' h => (show _ ∧ W = w' from ⟨h.1, h.2.symm⟩))
  cases h1 : inB n 2 7 with
  | false =>
    have R := Lib.hid (turn_no (i := i) (k := k) (f := f) (.inl h1))
    go_enter Try.func14, Try.ntmps14
    go_wp2_with (go_at_call 39; refine (C0.out _ _ _ _).mono ?_; rintro e w' ⟨rfl, rfl⟩; rw [h1])
    go_ret2
    exact ⟨_, by rw [R.out]; rfl, by rw [R.out]; exact ownCross_none _ _, Below.refl _ _⟩
  | true =>
  have hn : 2 ≤ n ∧ n ≤ 7 := by simpa [inB] using h1
  by_cases hi : i < 0
  · have R := Lib.hid (turn_no (n := n) (k := k) (f := f) (.inr (.inr (show inB i 0 (k - 1) = false by unfold inB; exact decide_eq_false (by omega)))))
    go_enter Try.func14, Try.ntmps14
    go_wp2_with (go_at_call 39; refine (C0.out _ _ _ _).mono ?_; rintro e w' ⟨rfl, rfl⟩; rw [h1])
    go_ret2
    exact ⟨_, by rw [R.out]; rfl, by rw [R.out]; exact ownCross_none _ _, Below.refl _ _⟩
  by_cases hik : k ≤ i
  · have R := Lib.hid (turn_no (n := n) (k := k) (f := f) (.inr (.inr (show inB i 0 (k - 1) = false by unfold inB; exact decide_eq_false (by omega)))))
    go_enter Try.func14, Try.ntmps14
    go_wp2_with (go_at_call 39; refine (C0.out _ _ _ _).mono ?_; rintro e w' ⟨rfl, rfl⟩; rw [h1])
    go_ret2
    exact ⟨_, by rw [R.out]; rfl, by rw [R.out]; exact ownCross_none _ _, Below.refl _ _⟩
  by_cases hkn : n ≤ k
  · have R := Lib.hid (turn_no (n := n) (i := i) (f := f) (.inr (.inl (show inB k 1 (n - 1) = false by unfold inB; exact decide_eq_false (by omega)))))
    go_enter Try.func14, Try.ntmps14
    go_wp2_with (go_at_call 39; refine (C0.out _ _ _ _).mono ?_; rintro e w' ⟨rfl, rfl⟩; rw [h1])
    go_ret2
    exact ⟨_, by rw [R.out]; rfl, by rw [R.out]; exact ownCross_none _ _, Below.refl _ _⟩
  have R := Lib.hid (show fullTurn n i k f = (turnL i.toNat k.toNat f, true) by
    unfold fullTurn
    rw [if_pos ⟨h1, by unfold inB; exact decide_eq_true (by omega), by unfold inB; exact decide_eq_true (by omega)⟩])
  obtain ⟨I, rfl⟩ := Int.eq_ofNat_of_zero_le (show 0 ≤ i by omega)
  obtain ⟨K, rfl⟩ := Int.eq_ofNat_of_zero_le (show 0 ≤ k by omega)
  rw [Int.toNat_natCast, Int.toNat_natCast] at R
  obtain ⟨D, hD⟩ : ∃ D : Nat, K = I + 1 + D := ⟨K - I - 1, by omega⟩
  have RT := Lib.hid (show turnL I K f = downL K D ++ [⟨(I : Int), f⟩, ⟨(I : Int), f⟩] ++ upL I D by unfold turnL; rw [show K - 1 - I = D by omega])
  have CL := Lib.hid (fun W => leftX K I D hD (by omega) W)
  have UD := Lib.hid (show undo (downL K D) = upL I D by rw [undo_down (i := I) (k := K) (by omega) D (by omega), show K - 1 - D = I by omega])
  have CU := Lib.hid (fun v b W h => implUndo v (downL K D) b W h (by rw [downL_len]; omega))
  rw [UD.out] at CU
  have ei : IntKind.i64.wrap ((I : Int) + 1) = (I : Int) + 1 := IntWalk.i64_in _ (by omega)
  have CF1 := Lib.hid (fun v1 v2 b1 b2 W g1 g2 => followX v1 v2 (downL K D) [⟨(I : Int), f⟩, ⟨(I : Int), f⟩] b1 b2 W g1 g2 (by rw [downL_len]; omega) (by simp))
  have CF2 := Lib.hid (fun v1 v2 b1 b2 W g1 g2 => followX v1 v2 (downL K D ++ [⟨(I : Int), f⟩, ⟨(I : Int), f⟩]) (upL I D) b1 b2 W g1 g2 (by rw [List.length_append, downL_len]; simp; omega) (by rw [upL_len]; omega))
  rw [← RT.out] at CF2
  have TW := Lib.hid (fun W base (hb : base ≤ W.heap.size) => twoCross W base ⟨(I : Int), f⟩ ⟨(I : Int), f⟩ hb)
  have hi0 : (0 : Int) ≤ (I : Int) := by omega
  have hik0 : (I : Int) < (K : Int) := by omega
  have hkn0 : (K : Int) < n := by omega
  generalize downL K D ++ [⟨(I : Int), f⟩, ⟨(I : Int), f⟩] = ts at CF1 CF2
  generalize turnL I K f = tt at CF2 R
  generalize downL K D = ds at CL CU CF1
  generalize upL I D = us at CU CF2
  clear hD RT UD hi hik hkn
  go_enter Try.func14, Try.ntmps14
  go_wp2_with (go_at_call 39; refine (C0.out _ _ _ _).mono ?_; rintro e w' ⟨rfl, rfl⟩; rw [h1])
  refine (CL.out _).mono ?_
  rintro e w1 ⟨v1, rfl, o1, b1⟩
  have O1 := Lib.hid o1
  have B1 := Lib.hid b1
  clear o1 b1 CL
  obtain ⟨A1, c1, rfl⟩ := O1.out.slice
  go_wp2_with fail
  refine (CU.out _ _ _ O1.out).mono ?_
  rintro e w2 ⟨v2, rfl, o2, b2⟩
  have O2 := Lib.hid o2
  have P2 := Lib.hid (O1.out.below b2)
  have B2 := Lib.hid (B1.out.trans (b2.mono B1.out.size))
  clear o2 b2 O1 B1 CU
  obtain ⟨A2, c2, rfl⟩ := O2.out.slice
  go_wp2_with fail
  have hs2 := B2.out.size
  have T3 := Lib.hid (TW.out (w2.alloc (.cells #[.int .i64 (I : Int), .bool f] 56)) w.heap.size (by simp; omega))
  simp only [World.size_alloc] at T3
  refine (CF1.out _ _ w.heap.size w.heap.size _ ((P2.out.alloc _).alloc _) T3.out).mono ?_
  rintro e w3 ⟨v3, rfl, o3, b3⟩
  have B3 := Lib.hid (((B2.out.alloc hs2 (.cells #[.int .i64 (I : Int), .bool f] 56)).alloc (by simp; omega) (.cells #[.int .i64 (I : Int), .bool f, .int .i64 (I : Int), .bool f] 56)).trans (b3.mono (by simp; omega)))
  have O3 := Lib.hid (o3.mono (b := w.heap.size) (by simp; omega))
  have Q3 := Lib.hid (((O2.out.alloc (.cells #[.int .i64 (I : Int), .bool f] 56)).alloc (.cells #[.int .i64 (I : Int), .bool f, .int .i64 (I : Int), .bool f] 56)).below b3)
  clear o3 b3 T3 P2 B2 O2 CF1 TW hs2
  obtain ⟨A3, c3, rfl⟩ := O3.out.slice
  go_wp2_with fail
  refine (CF2.out _ _ _ _ _ O3.out Q3.out).mono ?_
  rintro e w4 ⟨v4, rfl, o4, b4⟩
  have hs3 := B3.out.size
  have O4 := Lib.hid (o4.mono hs3)
  have B4 := Lib.hid (B3.out.trans (b4.mono hs3))
  clear o4 b4 O3 B3 Q3 CF2
  go_wp2
  go_ret2
  exact ⟨_, by rw [R.out]; rfl, by rw [R.out]; exact O4.out, B4.out⟩
end Go.Proofs.Ythijfipjfdmoeaa

/- The contracts of math/bits.Mul64 and Mul at small numbers. Condition: x is at most 14, y at most 20. -/
namespace Go.Proofs.Ythijfipjfdmoeaa
set_option linter.unusedVariables false
set_option linter.unusedSimpArgs false
open Go.RowKit

theorem mask_small (a : Nat) (ha : a ≤ 4294967295) : bits .and .u64 (a : Int) 4294967295 = (a : Int) := by
  have h := bits_and_u64_nat a 4294967295 (by omega) (by omega)
  have e : a &&& 4294967295 = a % 4294967296 := Nat.and_two_pow_sub_one_eq_mod a 32
  rw [e, Nat.mod_eq_of_lt (by omega)] at h
  exact h

set_option maxHeartbeats 1600000 in
theorem mul64X (x y : Nat) (hx : x ≤ 14) (hy : y ≤ 20) (w : World) :
    Calls Try.prog 74 #[.int .u64 (x : Int), .int .u64 (y : Int)] w fun e w' => e = .returned (.tuple #[.int .u64 0, .int .u64 ((x * y : Nat) : Int)]) ∧ w = w' := by
  have hp : x * y ≤ 280 := Nat.mul_le_mul hx hy
  have hm : (x : Int) * (y : Int) = ((x * y : Nat) : Int) := (Int.natCast_mul x y).symm
  generalize x * y = p at hp hm ⊢
  have m1 := mask_small x (by omega)
  have m2 := mask_small y (by omega)
  have m3 := mask_small p (by omega)
  have m0 : bits .and .u64 (0 : Int) 4294967295 = 0 := mask_small 0 (by omega)
  have d1 : (x : Int) / 4294967296 = 0 := by omega
  have d2 : (y : Int) / 4294967296 = 0 := by omega
  have d3 : (p : Int) / 4294967296 = 0 := by omega
  have w3 : IntKind.u64.wrap (p : Int) = (p : Int) := by rw [IntKind.wrap_u64]; omega
  clear hx hy hp
  go_enter Try.func74, Try.ntmps74
  go_wp2
  go_ret2
  exact ⟨rfl, rfl⟩
set_option maxHeartbeats 800000 in
theorem mulX (x y : Nat) (hx : x ≤ 14) (hy : y ≤ 20) (w : World) :
    Calls Try.prog 70 #[.int .u64 (x : Int), .int .u64 (y : Int)] w fun e w' => e = .returned (.tuple #[.int .u64 0, .int .u64 ((x * y : Nat) : Int)]) ∧ w = w' := by
  have C := Lib.hid (fun W => mul64X x y hx hy W)
  generalize x * y = p at C ⊢
  clear hx hy
  go_enter Try.func70, Try.ntmps70
  go_wp2_with (go_at_call 74; refine (C.out _).mono ?_; rintro e w' ⟨rfl, rfl⟩)
  go_ret2
  exact ⟨rfl, rfl⟩
end Go.Proofs.Ythijfipjfdmoeaa

/- The contract of slices.Repeat at a row of one to fourteen crossings, up to twenty times; the builtin copy at crossings. Condition: the row is the call's own. -/
namespace Go.Proofs.Ythijfipjfdmoeaa
set_option linter.unusedVariables false
set_option linter.unusedSimpArgs false
open Go.RowKit

theorem flatCross_dropX (ls : List RCross) (k : Nat) : flatCross (ls.drop k) = (flatCross ls).drop (k * 2) := by
  induction ls generalizing k with
  | nil => simp [flatCross]
  | cons l ls ih =>
    cases k with
    | zero => simp
    | succ k =>
      rw [List.drop_succ_cons, ih k, flatCross_cons, show (k + 1) * 2 = k * 2 + 1 + 1 by omega]
      simp only [List.drop_succ_cons]
theorem flatCross_splice (L X : List RCross) (o : Nat) : flatCross (splice L o X) = splice (flatCross L) (o * 2) (flatCross X) := by
  unfold splice
  rw [flatCross_append, flatCross_append, flatCross_take, flatCross_dropX, flatCross_len, Nat.add_mul]
/-- 'copy' at crossings: the elements of X go over, two cells each. -/
theorem run_copyX (w : World) (ty : TypeId) (g o dLen dCap : Nat) (ad : Addr) (sLen sCap : Nat) (L X : List RCross) (t : TypeId) (hg : w.heap[g]? = some (.cells (flatCross L).toArray t (0, 0))) (hn : X.length = Nat.min sLen dLen)
    (hsrc : ∀ j v, (flatCross X)[j]? = some v → w.cell? (ad.add j) = some v) (hfit : o + X.length ≤ L.length) :
    (Builtin.copy_ #[24, 24] ty #[.slice (some ⟨g, o * 2, none⟩) dLen dCap, .slice (some ad) sLen sCap]).run Try.prog w =
      .ok (goInt X.length) (w.setRow g (flatCross (splice L o X)).toArray) := by
  obtain ⟨i, hi, hz, hs, hb⟩ := info_parts infoCross
  have hl := run_loadCells_list (P := Try.prog) w ad (flatCross X) hsrc
  have hst := run_storeCells_at Try.prog g (o * 2) t (flatCross X) 0 (flatCross L).toArray w hg (by simp [flatCross_len]; omega) (flatCross_one X)
  rw [flatCross_len] at hl
  have e : (flatCross (splice L o X)).toArray = ((flatCross L).toArray.toList.take (o * 2) ++ flatCross X ++ (flatCross L).toArray.toList.drop (o * 2 + (flatCross X).length)).toArray := by
    rw [flatCross_splice]
    unfold splice
    rw [List.append_assoc]
  rw [e]
  simp [Builtin.copy_, run_underlying Try.underlying24, Builtin.lenOf, Builtin.firstCells, sizeOf, typeInfo, hi, hs, ← hn, hl, hst]
theorem run_copyX_none (w : World) (ty : TypeId) (d a : Option Addr) (dLen dCap sLen sCap : Nat) (hn : Nat.min sLen dLen = 0) :
    (Builtin.copy_ #[24, 24] ty #[.slice d dLen dCap, .slice a sLen sCap]).run Try.prog w = .ok (goInt 0) w := by
  obtain ⟨i, hi, hz, hs, hb⟩ := info_parts infoCross
  have hl : ∀ (x : Addr), (loadCells x 0).run Try.prog w = .ok #[] w := fun x => by simpa using run_loadCells_list (P := Try.prog) w x [] (by simp)
  cases d <;> cases a <;> simp [Builtin.copy_, run_underlying Try.underlying24, Builtin.lenOf, Builtin.firstCells, sizeOf, typeInfo, hi, hn, storeCells, hl]
section
variable {w : World} {o : Oper} {a : Act} {Q : Exit → Act → World → Prop}
theorem wp_copyX {K : Act → World → Prop} (d s : Operand) (ho : o.op = .call { callee := .builtin .copy, args := #[d, s], argTypes := #[24, 24] })
    (dp sp : Option Addr) (dLen dCap sLen sCap : Nat) (hd : a.eval d = .slice dp dLen dCap) (hs : a.eval s = .slice sp sLen sCap)
    (g off : Nat) (L X : List RCross) (t : TypeId) (hg : w.heap[g]? = some (.cells (flatCross L).toArray t (0, 0))) (hn : X.length = Nat.min sLen dLen)
    (hpos : 0 < X.length → dp = some ⟨g, off * 2, none⟩ ∧ ∃ ad, sp = some ad ∧ ∀ j v, (flatCross X)[j]? = some v → w.cell? (ad.add j) = some v)
    (hfit : off + X.length ≤ L.length) (B : Nat) (w0 : World) (hb : Below B w0 w) (hBg : B ≤ g)
    (h : ∀ w', Hid (w'.heap[g]? = some (.cells (flatCross (splice L off X)).toArray t (0, 0))) → Below B w0 w' → K (a.put o.dst (goInt X.length)) w') : o.wp Try.prog a w K Q := by
  by_cases h0 : X.length = 0
  · obtain rfl : X = [] := List.eq_nil_of_length_eq_zero h0
    have hrun := run_copyX_none w o.type dp sp dLen dCap sLen sCap (by simpa using hn.symm)
    unfold Oper.wp
    simp [execOp, ho, resolve, invoke, builtin, hd, hs, hrun, Result.andThen]
    exact h w (show _ = _ by simpa [splice] using hg) hb
  · obtain ⟨rfl, ad, rfl, hsrc⟩ := hpos (by omega)
    have hrun := run_copyX w o.type g off dLen dCap ad sLen sCap L X t hg hn hsrc hfit
    unfold Oper.wp
    simp [execOp, ho, resolve, invoke, builtin, hd, hs, hrun, Result.andThen]
    exact h _ (show _ = _ from setRow_heap w g _ _ t _ hg) (below_setRow hb hBg _)
theorem wpList_copyX {ops : Array Oper} {rest : List Oper} (hgd : o.guard = none) (d s : Operand) (ho : o.op = .call { callee := .builtin .copy, args := #[d, s], argTypes := #[24, 24] })
    (dp sp : Option Addr) (dLen dCap sLen sCap : Nat) (hd : a.eval d = .slice dp dLen dCap) (hs : a.eval s = .slice sp sLen sCap)
    (g off : Nat) (L X : List RCross) (t : TypeId) (hg : w.heap[g]? = some (.cells (flatCross L).toArray t (0, 0))) (hn : X.length = Nat.min sLen dLen)
    (hpos : 0 < X.length → dp = some ⟨g, off * 2, none⟩ ∧ ∃ ad, sp = some ad ∧ ∀ j v, (flatCross X)[j]? = some v → w.cell? (ad.add j) = some v)
    (hfit : off + X.length ≤ L.length) (B : Nat) (w0 : World) (hb : Below B w0 w) (hBg : B ≤ g)
    (h : ∀ w', Hid (w'.heap[g]? = some (.cells (flatCross (splice L off X)).toArray t (0, 0))) → Below B w0 w' → wpList Try.prog ops Q rest (a.put o.dst (goInt X.length)) w') : wpList Try.prog ops Q (o :: rest) a w :=
  wpList_plain hgd fun _ hK => wp_copyX d s ho dp sp dLen dCap sLen sCap hd hs g off L X t hg hn hpos hfit B w0 hb hBg fun w' e2 e3 => hK _ _ (h w' e2 e3)
theorem step_copyX {ops : Array Oper} {K : Act → World → Prop} {E : Prop} (hgd : o.guard = none) (d s : Operand) (ho : o.op = .call { callee := .builtin .copy, args := #[d, s], argTypes := #[24, 24] })
    (dp sp : Option Addr) (dLen dCap sLen sCap : Nat) (hd : a.eval d = .slice dp dLen dCap) (hs : a.eval s = .slice sp sLen sCap)
    (g off : Nat) (L X : List RCross) (t : TypeId) (hg : w.heap[g]? = some (.cells (flatCross L).toArray t (0, 0))) (hn : X.length = Nat.min sLen dLen)
    (hpos : 0 < X.length → dp = some ⟨g, off * 2, none⟩ ∧ ∃ ad, sp = some ad ∧ ∀ j v, (flatCross X)[j]? = some v → w.cell? (ad.add j) = some v)
    (hfit : off + X.length ≤ L.length) (B : Nat) (w0 : World) (hb : Below B w0 w) (hBg : B ≤ g)
    (h : ∀ w', Hid (w'.heap[g]? = some (.cells (flatCross (splice L off X)).toArray t (0, 0))) → Below B w0 w' → K (a.put o.dst (goInt X.length)) w') :
    if Region.wanted o (yielded ops a.tmps) = true then Oper.wp Try.prog o a w K Q else E := by
  have hw : Region.wanted o (yielded ops a.tmps) = true := by simp [Region.wanted, hgd]
  rw [if_pos hw]
  exact wp_copyX d s ho dp sp dLen dCap sLen sCap hd hs g off L X t hg hn hpos hfit B w0 hb hBg h
end

theorem repL_append (x : List RCross) (a b : Nat) : repL x (a + b) = repL x a ++ repL x b := by
  induction b with
  | zero => rw [Nat.add_zero, repL, List.append_nil]
  | succ b ih => rw [← Nat.add_assoc, repL, repL, ih, List.append_assoc]
theorem repL_take {x : List RCross} {a b : Nat} (h : a ≤ b) : (repL x b).take (a * x.length) = repL x a := by
  obtain ⟨c, rfl⟩ : ∃ c, b = a + c := ⟨b - a, by omega⟩
  rw [repL_append, List.take_append_of_le_length (by rw [repL_len]; exact Nat.le_refl _), List.take_of_length_le (by rw [repL_len]; exact Nat.le_refl _)]
theorem splice_repL {x L : List RCross} {q k : Nat} (h : L.take (q * x.length) = repL x q) (hk : (q + k) * x.length ≤ L.length) : (splice L (q * x.length) (repL x k)).take ((q + k) * x.length) = repL x (q + k) := by
  unfold splice
  rw [h, ← List.append_assoc, ← repL_append, List.take_append_of_le_length (by rw [repL_len]; exact Nat.le_refl _), List.take_of_length_le (by rw [repL_len]; exact Nat.le_refl _)]
theorem splice_len {L X : List RCross} {o : Nat} (h : o + X.length ≤ L.length) : (splice L o X).length = L.length := by
  unfold splice
  simp only [List.length_append, List.length_take, List.length_drop]
  omega
theorem madeX {w : World} {base g n c : Nat} (h : w.ownsRow base 56 2 (.slice (some ⟨g, 0, none⟩) n c) n (flatCross (List.replicate n RCross.zero))) (hc : c = n) : w.heap[g]? = some (.cells (flatCross (List.replicate n RCross.zero)).toArray 56 (0, 0)) := by
  rcases h.2 with ⟨e, _⟩ | ⟨g', cap, cu, e, _, hh, _, _, hcs, ht⟩
  · simp at e
  · simp only [Value.slice.injEq, Option.some.injEq, Addr.mk.injEq] at e
    obtain ⟨⟨rfl, _⟩, _, rfl⟩ := e
    subst hc
    rw [List.take_of_length_le (by simp [hcs])] at ht
    rw [← ht]
    exact hh
theorem fullX {w : World} {base g n : Nat} {ls : List RCross} (hb : base ≤ g) (hn : n = ls.length) (hm : n ≤ maxLen) (h : w.heap[g]? = some (.cells (flatCross ls).toArray 56 (0, 0))) : OwnCross w base (.slice (some ⟨g, 0, none⟩) n n) ls := by
  subst hn
  exact ⟨flatCross_len ls, .inr ⟨g, ls.length, _, rfl, hb, h, Nat.le_refl _, hm, by simp [flatCross_len], by simpa using List.take_of_length_le (by rw [flatCross_len]; exact Nat.le_refl _)⟩⟩
theorem pre_cells {L X : List RCross} {n top : Nat} {t : TypeId} {W : World} (hx : X = L.take n) (hW : W.heap[top]? = some (.cells (flatCross L).toArray t (0, 0))) : ∀ j u, (flatCross X)[j]? = some u → W.cell? ((⟨top, 0, none⟩ : Addr).add j) = some u := by
  intro j u hu
  refine World.news_of_block hW j u ?_
  rw [hx, flatCross_take, List.getElem?_take] at hu
  split at hu
  · exact hu
  · cases hu

set_option maxRecDepth 100000 in
set_option maxHeartbeats 3200000 in
theorem repeatX (m : Nat) (hm : m ≤ 20) (v : Value) (xs : List RCross) (b : Nat) (w : World) (hown : OwnCross w b v xs) (h1 : 1 ≤ xs.length) (h14 : xs.length ≤ 14) :
    Calls Try.prog 60 #[v, .int .i64 (m : Int)] w (CrossPost w (repL xs m)) := by
  have C := Lib.hid (fun W => mulX xs.length m h14 hm W)
  obtain ⟨i, hi, hz, hs, hb⟩ := info_parts infoCross
  obtain ⟨g0, c0, rfl, -, -, -, -⟩ := hown.spot (k := 0) (by omega)
  have R0 := Lib.hid (show ∀ W, Below w.heap.size w W → ∀ j u, (flatCross xs)[j]? = some u → W.cell? ((⟨g0, 0, none⟩ : Addr).add j) = some u from fun W hb => World.ownsRow.cells (hown.below hb) rfl)
  have RT := Lib.hid (fun a b (h : a ≤ b) => repL_take (x := xs) h)
  have RL := Lib.hid (fun k => repL_len xs k)
  have SR := Lib.hid (fun L q k (h : L.take (q * xs.length) = repL xs q) hk => splice_repL (x := xs) (L := L) (q := q) (k := k) h hk)
  have E0 := Lib.hid (show repL xs 0 = [] from rfl)
  have E1 := Lib.hid (show repL xs 1 = xs from rfl)
  have hM : xs.length * m ≤ 280 := Nat.mul_le_mul h14 hm
  have eM : xs.length * m = m * xs.length := Nat.mul_comm _ _
  clear hown
  generalize xs.length = l at C h1 h14 RT RL SR hM eM ⊢
  obtain ⟨M, hMM⟩ : ∃ M, m * l = M := ⟨_, rfl⟩
  rw [eM] at C hM
  rw [hMM] at C hM
  obtain ⟨q0, X0, hq0, hq1, hX0, HX0, HS0⟩ : ∃ q0 X0, q0 ≤ m ∧ (q0 = 0 → m = 0) ∧ X0.length = Nat.min l M ∧ Hid (X0 = repL xs q0 ∧ q0 * l = X0.length) ∧ Hid (∀ W, Below w.heap.size w W → ∀ j u, (flatCross X0)[j]? = some u → W.cell? ((⟨g0, 0, none⟩ : Addr).add j) = some u) := by
    rcases Nat.eq_zero_or_pos m with h0 | h0
    · refine ⟨0, [], by omega, fun _ => h0, ?_, Lib.hid ⟨E0.out.symm, by simp⟩, Lib.hid (fun W _ j u hu => by simp [flatCross] at hu)⟩
      have : M = 0 := by rw [← hMM, h0]; simp
      rw [this]; simp
    · refine ⟨1, xs, h0, fun h => by omega, ?_, Lib.hid ⟨E1.out.symm, ?_⟩, R0⟩
      · have e := RL.out 1
        rw [E1.out] at e
        have : l ≤ M := by rw [← hMM]; exact Nat.le_mul_of_pos_left l h0
        rw [e, Nat.one_mul]; exact (Nat.min_eq_left this).symm
      · have e := RL.out 1
        rw [E1.out] at e
        rw [e]
  have HM := Lib.hid hMM
  clear R0 eM hMM
  have hX0M : X0.length ≤ M := by rw [hX0]; exact Nat.min_le_right _ _
  have hm0 : ¬ (m : Int) < 0 := by omega
  have hmu : IntKind.u64.wrap (m : Int) = (m : Int) := by rw [IntKind.wrap_u64]; omega
  have hlu : IntKind.u64.wrap (l : Int) = (l : Int) := by rw [IntKind.wrap_u64]; omega
  have hmi : IntKind.i64.wrap (M : Int) = (M : Int) := IntWalk.i64_in _ (by omega)
  have hmm : ¬ (9223372036854775807 : Int) < (M : Int) := by omega
  have HX := Lib.hid hX0
  clear hX0
  go_enter Try.func60, Try.ntmps60
  go_wp2_with (first
    | (go_at_call 70; refine (C.out _).mono ?_; rintro e w' ⟨rfl, rfl⟩)
    | (refine wpList_make_full _ rfl _ _ 24 rfl w.heap.size 56 i RCross.zero.val 2 Try.underlying24 hi hz hs .i64 .i64 _ _ M rfl rfl rfl rfl (by rw [hb]; omega) (by simp only [maxLen]; omega) (by simp) ?_; intro w1 own1 grown1; have B1 := Lib.hid (below_of_grown grown1); have HC := Lib.hid (madeX (by rw [← madeCross]; exact own1) rfl); clear own1 grown1)
    | (refine wpList_copyX (o := ⟨some 33, _, _, _, _, _⟩) rfl (.tmp 31) (.tmp 32) rfl (some ⟨w.heap.size, 0, none⟩) (some ⟨g0, 0, none⟩) M M l c0 rfl rfl w.heap.size 0 (List.replicate M RCross.zero) X0 56 HC.out HX.out (by intro _; exact ⟨rfl, _, rfl, HS0.out _ B1.out⟩) (by simp; omega) w.heap.size w B1.out (Nat.le_refl _) ?_; intro w2 hh b2; have B2 := Lib.hid b2; clear b2))
  have hs1 : (splice (List.replicate M RCross.zero) 0 X0).length = M := by rw [splice_len (by simp; omega)]; simp
  have T1 := Lib.hid (show (splice (List.replicate M RCross.zero) 0 X0).take (q0 * l) = repL xs q0 by rw [HX0.out.2, ← HX0.out.1]; simp [splice])
  have N1 := Lib.hid (show (X0.length : Int) = ((q0 * l : Nat) : Int) by rw [HX0.out.2])
  have H2 := Lib.hid hh.out
  clear hh HC B1 HX HX0 HS0 hX0M
  generalize splice (List.replicate M RCross.zero) 0 X0 = L at hs1 T1 H2
  go_loopw [8] (fun nv wr => ∃ (q n : Nat) (L : List RCross), q ≤ m ∧ (q = 0 → m = 0) ∧ nv = .int .i64 (n : Int) ∧ Hid (n = q * l) ∧ L.length = M ∧ Hid (L.take (q * l) = repL xs q) ∧ Hid (wr.heap[w.heap.size]? = some (.cells (flatCross L).toArray 56 (0, 0))) ∧ Hid (Below w.heap.size w wr)) (fun nv _ => M - (intOf nv).toNat)
  case atStart => exact ⟨q0, q0 * l, L, hq0, hq1, by rw [← N1.out], Lib.hid rfl, hs1, T1, H2, B2⟩
  case round =>
    clear hs1 T1 H2 B2 N1 hq0 hq1 L
    obtain ⟨q, n, L, hq, hq0, rfl, HN, hLl, HT, HC, HB⟩ := hrel
    by_cases hlt : q < m
    · have hnM : n < M := by rw [HN.out, ← HM.out]; exact Nat.mul_lt_mul_of_pos_right hlt h1
      have hn1 : 1 ≤ n := by rw [HN.out]; exact Nat.le_trans h1 (Nat.le_mul_of_pos_left l (by omega))
      obtain ⟨k, hk⟩ : ∃ k, Nat.min q (m - q) = k := ⟨_, rfl⟩
      have hk1 : 1 ≤ k := by rw [← hk]; exact Nat.le_min.2 ⟨by omega, by omega⟩
      have hk2 : k ≤ q := by rw [← hk]; exact Nat.min_le_left _ _
      have hk3 : k ≤ m - q := by rw [← hk]; exact Nat.min_le_right _ _
      have hkl : k * l = Nat.min n (M - n) := by
        rw [HN.out, ← HM.out, ← Nat.sub_mul, ← hk]
        show min q (m - q) * l = min (q * l) ((m - q) * l)
        rcases Nat.le_total q (m - q) with h | h
        · rw [Nat.min_eq_left h, Nat.min_eq_left (Nat.mul_le_mul_right l h)]
        · rw [Nat.min_eq_right h, Nat.min_eq_right (Nat.mul_le_mul_right l h)]
      have hqk : n + k * l = (q + k) * l := by rw [HN.out, Nat.add_mul]
      have hqkM : (q + k) * l ≤ M := by rw [← HM.out]; exact Nat.mul_le_mul_right l (by omega)
      have T2 := Lib.hid (SR.out L q k HT.out (by omega))
      rw [← HN.out] at T2
      have L2 : (splice L n (repL xs k)).length = M := by rw [splice_len (by rw [RL.out]; omega)]; exact hLl
      have XL := Lib.hid (show repL xs k = L.take (k * l) by
        rw [← RT.out k q hk2, ← HT.out, List.take_take, Nat.min_eq_left (Nat.mul_le_mul_right l hk2)])
      have hXl := RL.out k
      generalize repL xs k = X at T2 L2 XL hXl
      have RC := Lib.hid (fun (W : World) hW => pre_cells (W := W) (top := w.heap.size) (t := 56) XL.out hW)
      obtain ⟨n2, hn2⟩ : ∃ n2, n + k * l = n2 := ⟨_, rfl⟩
      have N2 := Lib.hid (show n2 = (q + k) * l by rw [← hn2, hqk])
      have hX2 : X.length = Nat.min n (M - n) := by rw [hXl, hkl]
      have hw : IntKind.i64.wrap ((n : Int) + (X.length : Int)) = (n2 : Int) := by rw [IntWalk.i64_in _ (by omega)]; omega
      have hfit : n + X.length ≤ L.length := by omega
      have hkl1 : 1 ≤ k * l := Nat.le_trans h1 (Nat.le_mul_of_pos_left l hk1)
      have hlt2 : n < n2 := by omega
      have HX2 := Lib.hid hX2
      have n0 : (0 : Int) ≤ (n : Int) := by omega
      have n1 : (n : Int) < (M : Int) := by omega
      have n3 : (n : Int) ≤ (M : Int) := by omega
      have hne : ¬ M = n := by omega
      have HF := Lib.hid hfit
      clear hkl1 hqk hkl hXl hX2 hn2 hfit hqkM
      go_wp2
      go_region_held3 (fun _ => True) (exact trivial) (first | (refine step_copyX rfl (.tmp 41) (.tmp 44) rfl _ (some ⟨w.heap.size, 0, none⟩) (M - n) (M - n) n M rfl rfl w.heap.size n L X 56 HC.out HX2.out (by intro _; refine ⟨?_, _, rfl, RC.out _ HC.out⟩; first | rfl | exact if_neg hne) HF.out w.heap.size w HB.out.drew (Nat.le_refl _) ?_; intro w4 hg4 hb4; have G4 := Lib.hid hg4.out; have B4 := Lib.hid hb4; clear hg4 hb4))
      go_wp2
      exact ⟨⟨q + k, n2, splice L n X, by omega, fun h => by omega, by go_num, N2, L2, Lib.hid (by rw [← N2.out] at T2 ⊢; exact T2.out), G4, B4⟩, by simp [intOf]; omega⟩
    · obtain rfl : q = m := by omega
      have hnM : n = M := by rw [HN.out, HM.out]
      subst hnM
      have F := Lib.hid (fullX (n := n) (base := w.heap.size) (Nat.le_refl _) hLl.symm (by simp only [maxLen]; omega) HC.out)
      have EL := Lib.hid (show L = repL xs q by rw [← HT.out, ← HN.out, ← hLl, List.take_length])
      clear hLl
      go_wp2
      go_ret
      exact ⟨_, rfl, by rw [← EL.out]; exact F.out, HB.out⟩
end Go.Proofs.Ythijfipjfdmoeaa

/- The program's table of twists as mathematics: forty-nine numbers in one row, seven for each puppet. No condition. -/
namespace Go.Proofs.Ythijfipjfdmoeaa
set_option linter.unusedVariables false
set_option linter.unusedSimpArgs false
open Go.RowKit

def addA (cs : List Int) (p : Nat) (s : Int) : List Int := cs.set p (atI cs p + s)
def aftTo (n : Int) (ls : List RCross) : Nat → List Int
  | 0 => List.replicate 49 0
  | k + 1 => addA (addA (aftTo n ls k) (pa ((pairsOf n ls).getD k []) * 7 + pb ((pairsOf n ls).getD k [])) (sgn (ls.getD k RCross.zero))) (pb ((pairsOf n ls).getD k []) * 7 + pa ((pairsOf n ls).getD k [])) (sgn (ls.getD k RCross.zero))
theorem addA_len (cs : List Int) (p : Nat) (s : Int) : (addA cs p s).length = cs.length := by simp [addA]
theorem addA_at {cs : List Int} {p q : Nat} {s : Int} (hp : p < cs.length) : atI (addA cs p s) q = if q = p then atI cs p + s else atI cs q := by
  unfold addA atI
  rw [List.getD_eq_getElem?_getD, List.getElem?_set]
  by_cases e : p = q
  · subst e
    rw [if_pos rfl, if_pos rfl, if_pos hp]
    rfl
  · rw [if_neg e, if_neg (fun x => e x.symm), List.getD_eq_getElem?_getD]
theorem aft_len (n : Int) (ls : List RCross) : ∀ k, (aftTo n ls k).length = 49 := by
  intro k
  induction k with
  | zero => simp [aftTo]
  | succ k ih => rw [aftTo, addA_len, addA_len, ih]
theorem aft_ent {n : Int} {ls : List RCross} (h : crossOk n ls = true) {i j : Nat} (hi : i < n.toNat) (hj : j < n.toNat) : ∀ k, k ≤ ls.length → atI (aftTo n ls k) (i * 7 + j) = ent (tabTo n ls k) i j := by
  obtain ⟨hn7, _, _, _⟩ := ok_fits h
  intro k
  induction k with
  | zero =>
    intro _
    rw [tabTo, ent_zero hi hj, aftTo]
    unfold atI
    rw [List.getD_eq_getElem?_getD, List.getElem?_replicate]
    split <;> rfl
  | succ k ih =>
    intro hk
    obtain ⟨a, b, e, hab, ha, hb⟩ := duo_at h (k := k) (by omega)
    have e1 : pa [(a : Int), (b : Int)] = a := by simp [pa, atI]
    have e2 : pb [(a : Int), (b : Int)] = b := by simp [pb, atI]
    have hl := aft_len n ls k
    rw [tabTo, aftTo, e, ent_step (tab_square h k (by omega)) hab ha hb hi hj, e1, e2, addA_at (by rw [addA_len]; omega), addA_at (by omega), addA_at (by omega), ← ih (by omega)]
    by_cases c1 : i = b ∧ j = a
    · obtain ⟨rfl, rfl⟩ := c1
      rw [if_pos rfl, if_neg (by omega), if_pos (.inr ⟨rfl, rfl⟩)]
    · rw [if_neg (by omega)]
      by_cases c2 : i = a ∧ j = b
      · obtain ⟨rfl, rfl⟩ := c2
        rw [if_pos rfl, if_pos (.inl ⟨rfl, rfl⟩)]
      · rw [if_neg (by omega), if_neg (fun x => by rcases x with x | x; exact c2 x; exact c1 x)]
        omega
end Go.Proofs.Ythijfipjfdmoeaa

/- The program's exchange in place of an order. Condition: the numbers lie in a row of their own. -/
namespace Go.Proofs.Ythijfipjfdmoeaa
set_option linter.unusedVariables false
set_option linter.unusedSimpArgs false
open Go.RowKit

set_option maxRecDepth 100000 in
set_option maxHeartbeats 800000 in
theorem swapM (v : Value) (zs : List Int) (k : Nat) (b : Nat) (w : World) (h : OwnI w b v zs) (hk : k + 1 < zs.length) (hl : zs.length ≤ 2000000) :
    Calls Try.prog 65 #[v, .int .i64 (k : Int)] w fun e w' => e = .returned (.tuple #[]) ∧ OwnI w' b v (swapL zs k) ∧ w.grownBy w' v.ownBlock := by
  have h1 : k < zs.length := by omega
  have hk0 : (0 : Int) ≤ (k : Int) := by omega
  have hk1 : (k : Int) < (zs.length : Int) := by omega
  have hk3 : (0 : Int) ≤ (k : Int) + 1 := by omega
  have hk4 : (k : Int) + 1 < (zs.length : Int) := by omega
  have e2 : IntKind.i64.wrap ((k : Int) + 1) = (k : Int) + 1 := IntWalk.i64_in _ (by omega)
  obtain ⟨A, c, rfl⟩ := h.slice
  obtain ⟨g, _, f1, _, _, z0, u0⟩ := h.spot h1
  simp only [Value.slice.injEq] at f1
  obtain ⟨rfl, em, rfl⟩ := f1
  clear em
  obtain ⟨_, _, f1, _, _, z1, u1⟩ := h.spot hk
  simp only [Value.slice.injEq, Option.some.injEq, Addr.mk.injEq] at f1
  obtain ⟨⟨rfl, _⟩, _⟩ := f1
  have O := Lib.hid h
  clear h
  have AT := Lib.hid (And.intro (atI_of h1) (atI_of hk))
  generalize zs[k] = x at z0 AT
  generalize zs[k + 1] = y at z1 AT
  go_enter Try.func65, Try.ntmps65
  go_wp2
  go_region
  go_end0
  obtain ⟨s1, g1⟩ := O.out.set rfl k y
  obtain ⟨s2, g2⟩ := s1.set (by simp) (k + 1) x
  have gg := grown_then g1 g2
  refine ⟨rfl, ?_, ⟨gg.os, gg.tape, gg.output, gg.size, gg.block⟩⟩
  have := s2.below (Below.refl _ _).drew
  unfold swapL
  rw [AT.out.1, AT.out.2]
  exact this

end Go.Proofs.Ythijfipjfdmoeaa

/- A row of numbers made by make is a row of zeros of the call's own. No condition. -/
namespace Go.Proofs.Ythijfipjfdmoeaa
set_option linter.unusedVariables false
set_option linter.unusedSimpArgs false
open Go.RowKit

theorem madeZero {w : World} {base g n : Nat} (h : w.ownsRow base 3 1 (.slice (some ⟨g, 0, none⟩) n n) n (madeCells (Value.int .i64 0).cells (n * 1)).toList) : OwnI w base (.slice (some ⟨g, 0, none⟩) n n) (List.replicate n 0) := by
  have e : (madeCells (Value.int .i64 0).cells (n * 1)).toList = (List.replicate n (0 : Int)).map intV := by
    refine List.ext_getElem (by simp [size_madeCells]) fun i h1 h2 => ?_
    simp only [madeCells, Array.getElem_toList, Array.getElem_map, Array.getElem_range, List.getElem_map, List.getElem_replicate]
    rw [show i % (Value.int .i64 0).cells.size = 0 from Nat.mod_one i]
    rfl
  unfold OwnI
  rw [List.length_replicate, ← e]
  exact h
end Go.Proofs.Ythijfipjfdmoeaa

/- The contracts of impl.CrossesOk, homeOrder and OrderAfter. Condition: the crossings lie in a row of their own. -/
namespace Go.Proofs.Ythijfipjfdmoeaa
set_option linter.unusedVariables false
set_option linter.unusedSimpArgs false
open Go.RowKit

set_option maxRecDepth 100000 in
set_option maxHeartbeats 1600000 in
theorem implCrOk (n : Int) (v : Value) (ls : List RCross) (b : Nat) (w : World) (h : OwnCross w b v ls) (hl : ls.length ≤ 2000000) :
    Calls Try.prog 32 #[.int .i64 n, v] w fun e w' => e = .returned (.bool (crossOk n ls)) ∧ Below w.heap.size w w' := by
  obtain ⟨A, c, rfl⟩ := h.slice
  have O := Lib.hid h
  have C0 := Lib.hid (fun v lo hi W => (inRange_any v lo hi W).mono fun e w' h => (show _ ∧ W = w' from ⟨h.1, h.2.symm⟩))
  clear h
  cases hn : inB n 1 7 with
  | false =>
    have R := Lib.hid (crossOk_no (ls := ls) (.inl hn))
    go_enter Try.func32, Try.ntmps32
    go_wp2_with (go_at_call 39; refine (C0.out _ _ _ _).mono ?_; rintro e w' ⟨rfl, rfl⟩; rw [hn])
    go_ret
    exact ⟨by rw [R.out]; rfl, Below.refl _ _⟩
  | true =>
    by_cases h40 : 40 < ls.length
    · have R := Lib.hid (crossOk_no (n := n) (.inr h40))
      have h41 : (40 : Int) < (ls.length : Int) := by omega
      go_enter Try.func32, Try.ntmps32
      go_wp2_with (go_at_call 39; refine (C0.out _ _ _ _).mono ?_; rintro e w' ⟨rfl, rfl⟩; rw [hn])
      go_ret
      exact ⟨by rw [R.out]; rfl, Below.refl _ _⟩
    have h41 : ¬ (40 : Int) < (ls.length : Int) := by omega
    have R := Lib.hid (fun h => crossOk_yes (n := n) (ls := ls) hn (by omega) h)
    have R0 := Lib.hid (fun k (hk : k < ls.length) => crossOk_at (n := n) hk)
    have hn' : 1 ≤ n ∧ n ≤ 7 := by
      unfold inB at hn
      exact of_decide_eq_true hn
    have e1 : IntKind.i64.wrap (n - 2) = n - 2 := IntWalk.i64_in _ (by omega)
    go_enter Try.func32, Try.ntmps32
    go_wp2_with (go_at_call 39; refine (C0.out _ _ _ _).mono ?_; rintro e w' ⟨rfl, rfl⟩; rw [hn])
    clear hn
    go_loopw [17] (fun iv wr => ∃ k : Nat, k ≤ ls.length ∧ iv = .int .i64 (k : Int) ∧ Hid (∀ i (hi : i < ls.length), i < k → inB ls[i].f0 0 (n - 2) = true) ∧ Hid (Below w.heap.size w wr)) (fun iv _ => ls.length - (intOf iv).toNat)
    case atStart => exact ⟨0, by omega, rfl, Lib.hid (fun i _ hi => absurd hi (by omega)), Lib.hid (Below.refl _ _)⟩
    case round =>
      obtain ⟨k, hk, rfl, HT, BW⟩ := hrel
      by_cases hlt : k < ls.length
      rotate_left
      · obtain rfl : k = ls.length := by omega
        go_wp2
        go_ret
        exact ⟨by rw [R.out (fun i hi => HT.out i hi hi)]; rfl, BW.out⟩
      have hk0 : (0 : Int) ≤ (k : Int) := by omega
      have hk1 : (k : Int) < (ls.length : Int) := by omega
      obtain ⟨g, _, f1, _, _, z0, _⟩ := (O.out.below BW.out).spot hlt
      simp only [Value.slice.injEq] at f1
      obtain ⟨rfl, -, rfl⟩ := f1
      have r0 : wr.cell? ⟨g, k * 2, none⟩ = some (.int .i64 ls[k].f0) := z0 0 _ rfl
      have r1 : wr.cell? ⟨g, k * 2 + 1, none⟩ = some (.bool ls[k].f1) := z0 1 _ rfl
      have NX := Lib.hid (fun (hx : inB ls[k].f0 0 (n - 2) = true) => (show ∀ i (hi : i < ls.length), i < k + 1 → inB ls[i].f0 0 (n - 2) = true from fun i hi hj => by
        rcases (by omega : i < k ∨ i = k) with h | rfl
        · exact HT.out i hi h
        · exact hx))
      have RX := Lib.hid (R0.out k hlt)
      have hbs := BW.out.size
      generalize ls[k].f0 = x at r0 NX RX
      generalize ls[k].f1 = y at r1
      clear z0
      cases hx : inB x 0 (n - 2) with
      | false =>
        have RR := Lib.hid (RX.out hx)
        go_wp2_with (go_at_call 39; refine (C0.out _ _ _ _).mono ?_; rintro e w' ⟨rfl, rfl⟩; rw [hx])
        go_ret
        exact ⟨by rw [RR.out]; rfl, BW.out.alloc hbs _⟩
      | true =>
        have NN := Lib.hid (NX.out hx)
        go_wp2_with (go_at_call 39; refine (C0.out _ _ _ _).mono ?_; rintro e w' ⟨rfl, rfl⟩; rw [hx])
        exact ⟨⟨k + 1, by omega, by go_num, NN, Lib.hid (BW.out.alloc hbs _)⟩, by simp [intOf]; omega⟩

theorem home_step (N k : Nat) (h : k < N) : (startL k ++ List.replicate (N - k) (0 : Int)).set k (k : Int) = startL (k + 1) ++ List.replicate (N - (k + 1)) 0 := by
  rw [List.set_append_right _ _ (by rw [startL_len]; omega), startL_len, Nat.sub_self, show N - k = (N - (k + 1)) + 1 by omega, List.replicate_succ, List.set_cons_zero, startL_more, List.append_assoc]
  rfl

set_option maxRecDepth 100000 in
set_option maxHeartbeats 1600000 in
theorem homeM (n : Int) (w : World) (h0 : 1 ≤ n ∧ n ≤ 7) :
    Calls Try.prog 56 #[.int .i64 n] w (IntsPost w (startL n.toNat)) := by
  obtain ⟨i, hi, hz, hs, hb⟩ := info_parts info_int
  obtain ⟨N, rfl⟩ := Int.eq_ofNat_of_zero_le (by omega : 0 ≤ n)
  rw [Int.toNat_natCast]
  go_enter Try.func56, Try.ntmps56
  go_wp2_with (refine wpList_make_full _ rfl _ _ 71 rfl w.heap.size 3 i (.int .i64 0) 1 Try.underlying71 hi hz hs .i64 .i64 _ _ N rfl rfl rfl rfl (by rw [hb]; omega) (by simp only [maxLen]; omega) (by simp) ?_; intro w1 own1 grown1; have O1 := Lib.hid (madeZero own1); have B1 := Lib.hid (below_of_grown grown1); clear own1 grown1)
  go_loopw [9] (fun iv wr => ∃ k : Nat, k ≤ N ∧ iv = .int .i64 (k : Int) ∧ Hid (OwnI wr w.heap.size (.slice (some ⟨w.heap.size, 0, none⟩) N N) (startL k ++ List.replicate (N - k) 0)) ∧ Hid (Below w.heap.size w wr)) (fun iv _ => N - (intOf iv).toNat)
  case atStart => exact ⟨0, by omega, rfl, O1, B1⟩
  case round =>
    clear O1 B1
    obtain ⟨k, hk, rfl, OO, BW⟩ := hrel
    by_cases hlt : k < N
    · have hk0 : (0 : Int) ≤ (k : Int) := by omega
      have hk1 : (k : Int) < (N : Int) := by omega
      have HL := Lib.hid (show (startL k ++ List.replicate (N - k) (0 : Int)).length = N by simp [startL_len]; omega)
      have ST := Lib.hid ((show OwnI wr w.heap.size (.slice (some ⟨w.heap.size, 0, none⟩) (startL k ++ List.replicate (N - k) (0 : Int)).length N) (startL k ++ List.replicate (N - k) 0) by rw [HL.out]; exact OO.out).set rfl k (k : Int))
      obtain ⟨_, _, f1, _, _, z0, u0⟩ := OO.out.spot (k := k) (by rw [HL.out]; exact hlt)
      simp only [Value.slice.injEq, Option.some.injEq, Addr.mk.injEq] at f1
      obtain ⟨⟨rfl, _⟩, em, ec⟩ := f1
      obtain ⟨t, ht⟩ : ∃ t, wr.cell? ⟨w.heap.size, k, none⟩ = some t := ⟨_, z0⟩
      have S2 := Lib.hid (show OwnI (wr.setCell ⟨w.heap.size, k, none⟩ (.int .i64 (k : Int))) w.heap.size (.slice (some ⟨w.heap.size, 0, none⟩) N N) (startL (k + 1) ++ List.replicate (N - (k + 1)) 0) by have := ST.out.1; rw [HL.out, home_step N k hlt] at this; exact this)
      have G2 := Lib.hid ST.out.2
      clear em ec z0 ST HL
      go_wp2
      exact ⟨⟨k + 1, by omega, by go_num, S2, Lib.hid (BW.out.grown G2.out BW.out.size (fun q hq => by have := Option.some.inj hq; omega))⟩, by simp [intOf]; omega⟩
    · obtain rfl : k = N := by omega
      have F := Lib.hid (show OwnI wr w.heap.size (.slice (some ⟨w.heap.size, 0, none⟩) k k) (startL k) by simpa using OO.out)
      go_wp2
      go_ret
      exact ⟨_, rfl, F.out, BW.out⟩
end Go.Proofs.Ythijfipjfdmoeaa

/- One crossing more, as the exchange that the program makes. No condition. -/
namespace Go.Proofs.Ythijfipjfdmoeaa
set_option linter.unusedVariables false
set_option linter.unusedSimpArgs false
open Go.RowKit

/-- One crossing more, as the exchange that the program makes. -/
theorem now_swap {n : Int} {ls : List RCross} (hc : crossOk n ls = true) {k : Nat} (hlt : k < ls.length) :
    ∃ i : Nat, ls[k].f0 = (i : Int) ∧ i + 1 < (nowAt n ls k).length ∧ nowAt n ls (k + 1) = swapL (nowAt n ls k) i := by
  obtain ⟨h1, h2, h3, h4⟩ := ok_fits hc
  have hf := h4 ls[k] (List.getElem_mem hlt)
  have hx := (crossOk_has hc).2.2 k hlt
  have hx := of_decide_eq_true (show decide (0 ≤ ls[k].f0 ∧ ls[k].f0 ≤ n - 2) = true from hx)
  obtain ⟨i, hi⟩ := Int.eq_ofNat_of_zero_le hx.1
  have hn := nowAt_len n ls k
  refine ⟨i, hi, by omega, ?_⟩
  rw [nowAt_more n hlt, stepA_swap (nowAt_ord hc k) hn hf, hi, Int.toNat_natCast]

end Go.Proofs.Ythijfipjfdmoeaa

/- How many pairs there are, and how long they are. No condition. -/
namespace Go.Proofs.Ythijfipjfdmoeaa
set_option linter.unusedVariables false
set_option linter.unusedSimpArgs false
open Go.RowKit

theorem pairsOf_len (n : Int) (ls : List RCross) : (pairsOf n ls).length ≤ ls.length := by
  unfold pairsOf
  split
  · exact Nat.le_of_eq (pairsTo_len n ls _)
  · simp
theorem pairsOf_two (n : Int) (ls : List RCross) (k : Nat) (h : k < (pairsOf n ls).length) : (pairsOf n ls)[k].length = 2 := by
  have hm := List.getElem_mem h
  generalize (pairsOf n ls)[k] = z at hm
  unfold pairsOf at hm
  split at hm
  · unfold pairsTo at hm
    obtain ⟨i, _, rfl⟩ := List.mem_map.1 hm
    exact pairC_len _ _
  · simp at hm
theorem pairsOf_up (n : Int) (ls : List RCross) : upTo (pairsOf n ls) (pairsOf n ls).length ≤ 80 := by
  have h2 := pairsOf_two n ls
  have h3 : (pairsOf n ls).length ≤ 40 := by
    unfold pairsOf
    split
    · next h => rw [pairsTo_len]; exact (crossOk_has h).2.1
    · simp
  generalize pairsOf n ls = zss at h2 h3
  have : ∀ k, k ≤ zss.length → upTo zss k ≤ 2 * k := by
    intro k
    induction k with
    | zero => intro _; exact Nat.le_refl _
    | succ k ih =>
      intro hk
      rw [upTo_more (by omega), h2 k (by omega)]
      have := ih (by omega)
      omega
  have := this zss.length (Nat.le_refl _)
  omega
end Go.Proofs.Ythijfipjfdmoeaa
