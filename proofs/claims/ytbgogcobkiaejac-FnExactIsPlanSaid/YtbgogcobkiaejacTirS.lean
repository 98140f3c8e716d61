/- The contract of spec.l12Starts. Condition: the cues and the numbers lie in rows of their own. -/
import Derived.Test.YtbgogcobkiaejacCocS
import Derived.Test.YtbgogcobkiaejacPk3
import Derived.BigQuiet
namespace Go.Proofs.Ytbgogcobkiaejac
set_option linter.unusedVariables false
set_option linter.unusedSimpArgs false
open Go.RowKit

set_option maxRecDepth 100000 in
set_option maxHeartbeats 1600000 in
theorem specStr (v : Value) (ls : List RCue) (b : Nat) (w : World) (h : OwnCue w b v ls) (hl : bulkCue ls ≤ 1048576) (u : Value) (zs : List Int) (b2 : Nat) (h2 : OwnI w b2 u zs) (hz : zs.length ≤ 2000000) :
    Calls Try.prog 54 #[v, u] w fun e w' => e = .returned (.bool (startsFine ls zs)) ∧ Below w.heap.size w w' := by
  have CK := Lib.hid (specCOk v ls b w h hl)
  have C0 := Lib.hid (fun v lo hi W => l01In_any v lo hi W)
  obtain ⟨A, c, rfl⟩ := h.slice
  obtain ⟨D, d, rfl⟩ := h2.slice
  have Z := Lib.hid h2
  have hbl := bulkCue_len ls
  clear h h2
  cases hok : cuesOk ls with
  | false =>
    have R := Lib.hid (show startsFine ls zs = false by unfold startsFine; rw [hok]; rfl)
    rw [hok] at CK
    clear hok
    go_enter Try.func54, Try.ntmps54
    go_wp2_with (go_at_call 50; refine CK.out.mono ?_; rintro e w2 ⟨rfl, b2⟩; have B2 := Lib.hid b2; clear b2)
    go_ret
    exact ⟨by rw [R.out]; rfl, B2.out⟩
  | true =>
    rw [hok] at CK
    by_cases hlen : zs.length = ls.length
    rotate_left
    · have R := Lib.hid (show startsFine ls zs = false by unfold startsFine; rw [decide_eq_false hlen, Bool.false_and, Bool.and_false])
      have hne : ((zs.length : Int) == (ls.length : Int)) = false := by rw [beq_eq_false_iff_ne]; omega
      clear hok
      generalize zs.length = n1 at *
      go_enter Try.func54, Try.ntmps54
      go_wp2_with (go_at_call 50; refine CK.out.mono ?_; rintro e w2 ⟨rfl, b2⟩; have B2 := Lib.hid b2; clear b2)
      go_ret
      exact ⟨by rw [R.out]; rfl, B2.out⟩
    have R1 := Lib.hid (fun (h : ∀ k (hk : k < zs.length), inB zs[k] 0 10000 = true) => (show startsFine ls zs = true by
      unfold startsFine
      rw [hok, decide_eq_true hlen, List.all_eq_true.2 fun z hz => by obtain ⟨k, hk, rfl⟩ := List.mem_iff_getElem.1 hz; exact h k hk]
      rfl))
    have R0 := Lib.hid (fun k (hk : k < zs.length) (h : inB zs[k] 0 10000 = false) => (show startsFine ls zs = false by
      unfold startsFine
      rw [List.all_eq_false.2 ⟨zs[k], List.getElem_mem hk, by rw [h]; simp⟩]
      simp))
    have LE := Lib.hid hlen
    rw [hlen] at Z ⊢
    clear hok hlen
    go_enter Try.func54, Try.ntmps54
    go_wp2_with (go_at_call 50; refine CK.out.mono ?_; rintro e w2 ⟨rfl, b2⟩; have B2 := Lib.hid b2; have Z2 := Lib.hid (Z.out.below b2); clear b2)
    go_loopw [5] (fun iv wr => ∃ k : Nat, k ≤ ls.length ∧ iv = .int .i64 (k : Int) ∧ Hid (∀ i (hi : i < zs.length), i < k → inB zs[i] 0 10000 = true) ∧ Hid (Below w2.heap.size w2 wr)) (fun iv _ => ls.length - (intOf iv).toNat)
    case atStart => exact ⟨0, by omega, rfl, Lib.hid (fun i hi h => absurd h (by omega)), Lib.hid (Below.refl _ _)⟩
    case round =>
      obtain ⟨k, hk, rfl, HN, BW⟩ := hrel
      by_cases hlt : k < ls.length
      rotate_left
      · obtain rfl : k = ls.length := by omega
        have R := Lib.hid (R1.out (fun i hi => HN.out i hi (by have := LE.out; omega)))
        go_wp2
        go_ret
        exact ⟨by rw [R.out]; rfl, B2.out.trans (BW.out.mono B2.out.size)⟩
      have hk0 : (0 : Int) ≤ (k : Int) := by omega
      have hk1 : (k : Int) < (ls.length : Int) := by omega
      have hkz : k < zs.length := by have := LE.out; omega
      obtain ⟨g, _, f1, _, _, z0, _⟩ := (Z2.out.below BW.out).spot hkz
      simp only [Value.slice.injEq] at f1
      obtain ⟨rfl, -, -⟩ := f1
      have NX := Lib.hid (fun (h : inB zs[k] 0 10000 = true) => (show ∀ i (hi : i < zs.length), i < k + 1 → inB zs[i] 0 10000 = true from fun i hi hik => by
        rcases (by omega : i < k ∨ i = k) with q | rfl
        · exact HN.out i hi q
        · exact h))
      have RX := Lib.hid (R0.out k hkz)
      generalize zs[k] = x at z0 NX RX
      cases hin : inB x 0 10000 with
      | false =>
        have R := Lib.hid (RX.out hin)
        have C1 := Lib.hid (fun W => (hin ▸ C0.out x 0 10000 W : Calls Try.prog 68 #[.int .i64 x, .int .i64 0, .int .i64 10000] W fun e w' => e = .returned (.bool false) ∧ w' = W))
        clear hin NX
        go_wp2_with fail
        refine (C1.out _).mono ?_
        rintro e w3 ⟨rfl, rfl⟩
        go_wp2
        go_ret
        exact ⟨by rw [R.out]; rfl, B2.out.trans (BW.out.mono B2.out.size)⟩
      | true =>
        have C1 := Lib.hid (fun W => (hin ▸ C0.out x 0 10000 W : Calls Try.prog 68 #[.int .i64 x, .int .i64 0, .int .i64 10000] W fun e w' => e = .returned (.bool true) ∧ w' = W))
        have N2 := Lib.hid (NX.out hin)
        clear hin NX
        go_wp2_with fail
        refine (C1.out _).mono ?_
        rintro e w3 ⟨rfl, rfl⟩
        go_wp2
        exact ⟨⟨k + 1, by omega, by go_num, N2, BW⟩, by simp [intOf]; omega⟩
end Go.Proofs.Ytbgogcobkiaejac
