/- The contracts of impl.CrossesOk, homeOrder and OrderAfter. Condition: the crossings lie in a row of their own. -/
import Derived.Test.YthijfipjfdmoeaaCrsM
import Derived.Test.YthijfipjfdmoeaaCrossA
import Derived.Test.YthijfipjfdmoeaaInR
import Derived.Test.YthijfipjfdmoeaaOrdW
import Derived.Test.YthijfipjfdmoeaaMadZ
namespace Go.Proofs.Ythijfipjfdmoeaa
set_option linter.unusedVariables false
set_option linter.unusedSimpArgs false
open Go.RowKit

set_option maxRecDepth 100000 in
set_option maxHeartbeats 1600000 in
theorem implCrOk (n : Int) (v : Value) (ls : List RCross) (b : Nat) (w : World) (h : OwnCross w b v ls) (hl : ls.length ≤ 2000000) :
    Calls Try.prog 32 #[.int .i64 n, v] w fun e w' => e = .returned (.bool (crossOk n ls)) ∧ Below w.heap.size w w' := by
  obtain ⟨A, c, rfl⟩ := h.slice
  have O := Lib.hid h
  have C0 := Lib.hid (fun v lo hi W => (inRange_any v lo hi W).mono fun e w' h => (show _ ∧ W = w' from ⟨h.1, h.2.symm⟩))
  clear h
  cases hn : inB n 1 7 with
  | false =>
    have R := Lib.hid (crossOk_no (ls := ls) (.inl hn))
    go_enter Try.func32, Try.ntmps32
    go_wp2_with (go_at_call 39; refine (C0.out _ _ _ _).mono ?_; rintro e w' ⟨rfl, rfl⟩; rw [hn])
    go_ret
    exact ⟨by rw [R.out]; rfl, Below.refl _ _⟩
  | true =>
    by_cases h40 : 40 < ls.length
    · have R := Lib.hid (crossOk_no (n := n) (.inr h40))
      have h41 : (40 : Int) < (ls.length : Int) := by omega
      go_enter Try.func32, Try.ntmps32
      go_wp2_with (go_at_call 39; refine (C0.out _ _ _ _).mono ?_; rintro e w' ⟨rfl, rfl⟩; rw [hn])
      go_ret
      exact ⟨by rw [R.out]; rfl, Below.refl _ _⟩
    have h41 : ¬ (40 : Int) < (ls.length : Int) := by omega
    have R := Lib.hid (fun h => crossOk_yes (n := n) (ls := ls) hn (by omega) h)
    have R0 := Lib.hid (fun k (hk : k < ls.length) => crossOk_at (n := n) hk)
    have hn' : 1 ≤ n ∧ n ≤ 7 := by
      unfold inB at hn
      exact of_decide_eq_true hn
    have e1 : IntKind.i64.wrap (n - 2) = n - 2 := IntWalk.i64_in _ (by omega)
    go_enter Try.func32, Try.ntmps32
    go_wp2_with (go_at_call 39; refine (C0.out _ _ _ _).mono ?_; rintro e w' ⟨rfl, rfl⟩; rw [hn])
    clear hn
    go_loopw [17] (fun iv wr => ∃ k : Nat, k ≤ ls.length ∧ iv = .int .i64 (k : Int) ∧ Hid (∀ i (hi : i < ls.length), i < k → inB ls[i].f0 0 (n - 2) = true) ∧ Hid (Below w.heap.size w wr)) (fun iv _ => ls.length - (intOf iv).toNat)
    case atStart => exact ⟨0, by omega, rfl, Lib.hid (fun i _ hi => absurd hi (by omega)), Lib.hid (Below.refl _ _)⟩
    case round =>
      obtain ⟨k, hk, rfl, HT, BW⟩ := hrel
      by_cases hlt : k < ls.length
      rotate_left
      · obtain rfl : k = ls.length := by omega
        go_wp2
        go_ret
        exact ⟨by rw [R.out (fun i hi => HT.out i hi hi)]; rfl, BW.out⟩
      have hk0 : (0 : Int) ≤ (k : Int) := by omega
      have hk1 : (k : Int) < (ls.length : Int) := by omega
      obtain ⟨g, _, f1, _, _, z0, _⟩ := (O.out.below BW.out).spot hlt
      simp only [Value.slice.injEq] at f1
      obtain ⟨rfl, -, rfl⟩ := f1
      have r0 : wr.cell? ⟨g, k * 2, none⟩ = some (.int .i64 ls[k].f0) := z0 0 _ rfl
      have r1 : wr.cell? ⟨g, k * 2 + 1, none⟩ = some (.bool ls[k].f1) := z0 1 _ rfl
      have NX := Lib.hid (fun (hx : inB ls[k].f0 0 (n - 2) = true) => (show ∀ i (hi : i < ls.length), i < k + 1 → inB ls[i].f0 0 (n - 2) = true from fun i hi hj => by
        rcases (by omega : i < k ∨ i = k) with h | rfl
        · exact HT.out i hi h
        · exact hx))
      have RX := Lib.hid (R0.out k hlt)
      have hbs := BW.out.size
      generalize ls[k].f0 = x at r0 NX RX
      generalize ls[k].f1 = y at r1
      clear z0
      cases hx : inB x 0 (n - 2) with
      | false =>
        have RR := Lib.hid (RX.out hx)
        go_wp2_with (go_at_call 39; refine (C0.out _ _ _ _).mono ?_; rintro e w' ⟨rfl, rfl⟩; rw [hx])
        go_ret
        exact ⟨by rw [RR.out]; rfl, BW.out.alloc hbs _⟩
      | true =>
        have NN := Lib.hid (NX.out hx)
        go_wp2_with (go_at_call 39; refine (C0.out _ _ _ _).mono ?_; rintro e w' ⟨rfl, rfl⟩; rw [hx])
        exact ⟨⟨k + 1, by omega, by go_num, NN, Lib.hid (BW.out.alloc hbs _)⟩, by simp [intOf]; omega⟩

theorem home_step (N k : Nat) (h : k < N) : (startL k ++ List.replicate (N - k) (0 : Int)).set k (k : Int) = startL (k + 1) ++ List.replicate (N - (k + 1)) 0 := by
  rw [List.set_append_right _ _ (by rw [startL_len]; omega), startL_len, Nat.sub_self, show N - k = (N - (k + 1)) + 1 by omega, List.replicate_succ, List.set_cons_zero, startL_more, List.append_assoc]
  rfl

set_option maxRecDepth 100000 in
set_option maxHeartbeats 1600000 in
theorem homeM (n : Int) (w : World) (h0 : 1 ≤ n ∧ n ≤ 7) :
    Calls Try.prog 56 #[.int .i64 n] w (IntsPost w (startL n.toNat)) := by
  obtain ⟨i, hi, hz, hs, hb⟩ := info_parts info_int
  obtain ⟨N, rfl⟩ := Int.eq_ofNat_of_zero_le (by omega : 0 ≤ n)
  rw [Int.toNat_natCast]
  go_enter Try.func56, Try.ntmps56
  go_wp2_with (refine wpList_make_full _ rfl _ _ 71 rfl w.heap.size 3 i (.int .i64 0) 1 Try.underlying71 hi hz hs .i64 .i64 _ _ N rfl rfl rfl rfl (by rw [hb]; omega) (by simp only [maxLen]; omega) (by simp) ?_; intro w1 own1 grown1; have O1 := Lib.hid (madeZero own1); have B1 := Lib.hid (below_of_grown grown1); clear own1 grown1)
  go_loopw [9] (fun iv wr => ∃ k : Nat, k ≤ N ∧ iv = .int .i64 (k : Int) ∧ Hid (OwnI wr w.heap.size (.slice (some ⟨w.heap.size, 0, none⟩) N N) (startL k ++ List.replicate (N - k) 0)) ∧ Hid (Below w.heap.size w wr)) (fun iv _ => N - (intOf iv).toNat)
  case atStart => exact ⟨0, by omega, rfl, O1, B1⟩
  case round =>
    clear O1 B1
    obtain ⟨k, hk, rfl, OO, BW⟩ := hrel
    by_cases hlt : k < N
    · have hk0 : (0 : Int) ≤ (k : Int) := by omega
      have hk1 : (k : Int) < (N : Int) := by omega
      have HL := Lib.hid (show (startL k ++ List.replicate (N - k) (0 : Int)).length = N by simp [startL_len]; omega)
      have ST := Lib.hid ((show OwnI wr w.heap.size (.slice (some ⟨w.heap.size, 0, none⟩) (startL k ++ List.replicate (N - k) (0 : Int)).length N) (startL k ++ List.replicate (N - k) 0) by rw [HL.out]; exact OO.out).set rfl k (k : Int))
      obtain ⟨_, _, f1, _, _, z0, u0⟩ := OO.out.spot (k := k) (by rw [HL.out]; exact hlt)
      simp only [Value.slice.injEq, Option.some.injEq, Addr.mk.injEq] at f1
      obtain ⟨⟨rfl, _⟩, em, ec⟩ := f1
      obtain ⟨t, ht⟩ : ∃ t, wr.cell? ⟨w.heap.size, k, none⟩ = some t := ⟨_, z0⟩
      have S2 := Lib.hid (show OwnI (wr.setCell ⟨w.heap.size, k, none⟩ (.int .i64 (k : Int))) w.heap.size (.slice (some ⟨w.heap.size, 0, none⟩) N N) (startL (k + 1) ++ List.replicate (N - (k + 1)) 0) by have := ST.out.1; rw [HL.out, home_step N k hlt] at this; exact this)
      have G2 := Lib.hid ST.out.2
      clear em ec z0 ST HL
      go_wp2
      exact ⟨⟨k + 1, by omega, by go_num, S2, Lib.hid (BW.out.grown G2.out BW.out.size (fun q hq => by have := Option.some.inj hq; omega))⟩, by simp [intOf]; omega⟩
    · obtain rfl : k = N := by omega
      have F := Lib.hid (show OwnI wr w.heap.size (.slice (some ⟨w.heap.size, 0, none⟩) k k) (startL k) by simpa using OO.out)
      go_wp2
      go_ret
      exact ⟨_, rfl, F.out, BW.out⟩
end Go.Proofs.Ythijfipjfdmoeaa
