/- The contract of spec.l12Common. Condition: the puppets of both cues lie in rows of their own. -/
import Derived.Test.YtbgogcobkiaejacPk3
import Derived.BigQuiet
namespace Go.Proofs.Ytbgogcobkiaejac
set_option linter.unusedVariables false
set_option linter.unusedSimpArgs false
open Go.RowKit

set_option maxRecDepth 100000 in
set_option maxHeartbeats 1600000 in
theorem specCom (t1 t2 : Int) (A1 A2 : Option Addr) (n1 c1 n2 c2 : Nat) (x1 x2 : Value) (xs ys : List Int) (b1 b2 : Nat) (w : World) (h1 : OwnI w b1 x1 xs) (h2 : OwnI w b2 x2 ys) (l1 : xs.length ≤ 2000000) (l2 : ys.length ≤ 2000000) :
    Calls Try.prog 55 #[.agg #[.int .i64 t1, .slice A1 n1 c1, x1], .agg #[.int .i64 t2, .slice A2 n2 c2, x2]] w fun e w' => e = .returned (.bool (commonB xs ys)) ∧ Below w.heap.size w w' := by
  obtain ⟨X, cx, rfl⟩ := h1.slice
  obtain ⟨Y, cy, rfl⟩ := h2.slice
  obtain ⟨W2, hW⟩ : ∃ W, W = (w.alloc (.cells #[.int .i64 t1, .slice A1 n1 c1, .slice X xs.length cx] 33)).alloc (.cells #[.int .i64 t2, .slice A2 n2 c2, .slice Y ys.length cy] 33) := ⟨_, rfl⟩
  have BA := Lib.hid (show Below w.heap.size w W2 by rw [hW]; exact ((Below.refl w.heap.size w).alloc (Nat.le_refl _) _).alloc (by simp) _)
  have H1 := Lib.hid (show OwnI W2 b1 (.slice X xs.length cx) xs by rw [hW]; exact (h1.alloc _).alloc _)
  have H2 := Lib.hid (show OwnI W2 b2 (.slice Y ys.length cy) ys by rw [hW]; exact (h2.alloc _).alloc _)
  have V1 := Lib.hid (show W2.cell? ⟨w.heap.size, 2, none⟩ = some (.slice X xs.length cx) by rw [hW]; simp [go_sem])
  have V2 := Lib.hid (show W2.cell? ⟨w.heap.size + 1, 2, none⟩ = some (.slice Y ys.length cy) by rw [hW]; simp [go_sem])
  have HW := Lib.hid hW
  clear h1 h2 hW
  go_enter Try.func55, Try.ntmps55
  go_wp2_with fail
  go_loopw [5] (fun iv wr => ∃ i : Nat, i ≤ xs.length ∧ iv = .int .i64 (i : Int) ∧ Hid (∀ p (hp : p < xs.length) q (hq : q < ys.length), p < i → xs[p] ≠ ys[q]) ∧ Hid (Below W2.heap.size W2 wr)) (fun iv _ => xs.length - (intOf iv).toNat)
  case atStart => exact ⟨0, by omega, rfl, Lib.hid (fun p hp q hq h => absurd h (by omega)), Lib.hid (by rw [HW.out]; exact Below.refl _ _)⟩
  case round =>
    obtain ⟨i, hi, rfl, NO, BW⟩ := hrel
    have v1 := cell_below V1.out BW.out
    by_cases hlt : i < xs.length
    rotate_left
    · obtain rfl : i = xs.length := by omega
      have R := Lib.hid (common_no fun p hp q hq => NO.out p hp q hq hp)
      go_wp2
      go_ret
      exact ⟨by rw [R.out]; rfl, BA.out.trans (BW.out.mono BA.out.size)⟩
    have hi0 : (0 : Int) ≤ (i : Int) := by omega
    have hi1 : (i : Int) < (xs.length : Int) := by omega
    go_wp2_with fail
    go_loopw [6] (fun kv wr => ∃ k : Nat, k ≤ ys.length ∧ kv = .int .i64 (k : Int) ∧ Hid (∀ q (hq : q < ys.length), q < k → xs[i] ≠ ys[q]) ∧ Hid (Below W2.heap.size W2 wr)) (fun kv _ => ys.length - (intOf kv).toNat)
    case atStart => exact ⟨0, by omega, rfl, Lib.hid (fun q hq h => absurd h (by omega)), BW⟩
    case round =>
      clear v1 BW
      obtain ⟨k, hk, rfl, N2, BW⟩ := hrel
      have v1 := cell_below V1.out BW.out
      have v2 := cell_below V2.out BW.out
      by_cases hlk : k < ys.length
      rotate_left
      · obtain rfl : k = ys.length := by omega
        have N3 := Lib.hid (show ∀ p (hp : p < xs.length) q (hq : q < ys.length), p < i + 1 → xs[p] ≠ ys[q] from fun p hp q hq h => by
          rcases (by omega : p < i ∨ p = i) with c | rfl
          · exact NO.out p hp q hq c
          · exact N2.out q hq hq)
        go_wp2
        exact ⟨⟨i + 1, by omega, by go_num, N3, BW⟩, by simp [intOf]; omega⟩
      have hk0 : (0 : Int) ≤ (k : Int) := by omega
      have hk1 : (k : Int) < (ys.length : Int) := by omega
      obtain ⟨gx, _, f1, _, _, z1, _⟩ := (H1.out.below BW.out).spot hlt
      simp only [Value.slice.injEq] at f1
      obtain ⟨rfl, -, -⟩ := f1
      obtain ⟨gy, _, f2, _, _, z2, _⟩ := (H2.out.below BW.out).spot hlk
      simp only [Value.slice.injEq] at f2
      obtain ⟨rfl, -, -⟩ := f2
      have YES := Lib.hid (fun (e : xs[i] = ys[k]) => common_yes hlt hlk e)
      have N3 := Lib.hid (show xs[i] ≠ ys[k] → ∀ q (hq : q < ys.length), q < k + 1 → xs[i] ≠ ys[q] from fun e q hq h => by
        rcases (by omega : q < k ∨ q = k) with c | rfl
        · exact N2.out q hq c
        · exact e)
      generalize hx : xs[i] = x at z1 YES N3 ⊢
      generalize hy : ys[k] = y at z2 YES N3
      have WY := Lib.hid (fun n => (below_drewN BW.out n : Below W2.heap.size W2 (wr.drewN n)))
      by_cases e : x = y
      · have R := Lib.hid (YES.out e)
        subst e
        have eb : (x == x) = true := by simp
        clear hx hy
        go_wp2_with fail
        go_quiet (fail)
        go_wp2
        go_ret
        exact ⟨by rw [R.out]; rfl, BA.out.trans ((WY.out _).mono BA.out.size)⟩
      · have N4 := Lib.hid (N3.out e)
        have eb : (x == y) = false := by simpa using e
        clear hy
        go_wp2_with fail
        go_quiet (fail)
        go_wp2
        exact ⟨⟨k + 1, by omega, by go_num, Lib.hid (fun q hq h => N4.out q hq h), Lib.hid (WY.out _)⟩, by simp [intOf]; omega⟩
end Go.Proofs.Ytbgogcobkiaejac
