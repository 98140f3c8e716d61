/- The contracts of the program's two looks at a range: one number, all numbers of a row. Condition: the numbers lie in a row of their own. -/
import Derived.Test.YtblbmppbbhibeaaIn
import Derived.Test.YtblbmppbbhibeaaRowB
namespace Go.Proofs.Ytblbmppbbhibeaa
set_option linter.unusedVariables false
open Go.RowKit

theorem inRange_yes {v lo hi : Int} (h : lo ≤ v ∧ v ≤ hi) (w : World) :
    Calls Try.prog 69 #[.int .i64 v, .int .i64 lo, .int .i64 hi] w fun e w' => e = .returned (.bool true) ∧ w' = w := by
  obtain ⟨h1, h2⟩ := h
  go_enter Try.func69, Try.ntmps69
  go_wp2
  go_ret
  exact ⟨rfl, rfl⟩
theorem inRange_no {v lo hi : Int} (h : ¬ (lo ≤ v ∧ v ≤ hi)) (w : World) :
    Calls Try.prog 69 #[.int .i64 v, .int .i64 lo, .int .i64 hi] w fun e w' => e = .returned (.bool false) ∧ w' = w := by
  by_cases h1 : lo ≤ v
  · have h2 : ¬ v ≤ hi := fun x => h ⟨h1, x⟩
    go_enter Try.func69, Try.ntmps69
    go_wp2
    go_ret
    exact ⟨rfl, rfl⟩
  · go_enter Try.func69, Try.ntmps69
    go_wp2
    go_ret
    exact ⟨rfl, rfl⟩
theorem inRange_any (v lo hi : Int) (w : World) :
    Calls Try.prog 69 #[.int .i64 v, .int .i64 lo, .int .i64 hi] w fun e w' => e = .returned (.bool (inB v lo hi)) ∧ w' = w := by
  by_cases h : lo ≤ v ∧ v ≤ hi
  · rw [inB_yes h]
    exact inRange_yes h w
  · rw [inB_no h]
    exact inRange_no h w

/-- Are all numbers from lo to hi? -/
def allIn (lo hi : Int) (zs : List Int) : Bool := zs.all fun x => inB x lo hi
theorem allIn_more {lo hi : Int} {zs : List Int} {k : Nat} (h : k < zs.length) : allIn lo hi (zs.take (k + 1)) = (allIn lo hi (zs.take k) && inB zs[k] lo hi) := by
  unfold allIn
  rw [List.take_succ_eq_append_getElem h, List.all_append]
  simp
theorem allIn_miss {lo hi : Int} {zs : List Int} {k : Nat} (h : k < zs.length) (hx : inB zs[k] lo hi = false) : allIn lo hi zs = false := by
  unfold allIn
  rw [List.all_eq_false]
  exact ⟨_, List.getElem_mem h, by simp [hx]⟩
theorem allIn_at {lo hi : Int} {zs : List Int} (h : allIn lo hi zs = true) {k : Nat} (hk : k < zs.length) : lo ≤ zs[k] ∧ zs[k] ≤ hi := by
  unfold allIn at h
  simpa [inB] using List.all_eq_true.1 h _ (List.getElem_mem hk)

set_option maxHeartbeats 800000 in
theorem allIn_any (v : Value) (zs : List Int) (lo hi : Int) (b : Nat) (w : World) (h : OwnI w b v zs) (hl : zs.length ≤ 2000000) :
    Calls Try.prog 57 #[v, .int .i64 lo, .int .i64 hi] w fun e w' => e = .returned (.bool (allIn lo hi zs)) ∧ w' = w := by
  obtain ⟨A, a, rfl⟩ := h.slice
  have O := Lib.hid h
  have C0 := Lib.hid (fun v lo hi W => (inRange_any v lo hi W).mono fun e w' h => (show _ ∧ W = w' from ⟨h.1, h.2.symm⟩))
  clear h
  go_enter Try.func57, Try.ntmps57
  go_wp2
  go_loopw [11] (fun iv wr => w = wr ∧ ∃ k : Nat, k ≤ zs.length ∧ iv = .int .i64 (k : Int) ∧ Hid (allIn lo hi (zs.take k) = true)) (fun iv _ => zs.length - (intOf iv).toNat)
  case atStart => exact ⟨rfl, 0, by omega, rfl, rfl⟩
  case round =>
    obtain ⟨rfl, k, hk, rfl, HA⟩ := hrel
    by_cases hlt : k < zs.length
    · obtain ⟨g, _, f1, _, _, z0, _⟩ := O.out.spot hlt
      simp only [Value.slice.injEq] at f1
      obtain ⟨rfl, em, rfl⟩ := f1
      clear em
      have hk0 : (0 : Int) ≤ (k : Int) := by omega
      have hk1 : (k : Int) < (zs.length : Int) := by omega
      have AM := Lib.hid (allIn_more (lo := lo) (hi := hi) hlt)
      have NO := Lib.hid (fun hx => allIn_miss (lo := lo) (hi := hi) hlt hx)
      generalize zs[k] = x at z0 AM NO
      cases hx : inB x lo hi with
      | false =>
        have R := Lib.hid (NO.out hx)
        go_wp2_with (go_at_call 69; refine (C0.out _ _ _ _).mono ?_; rintro e w' ⟨rfl, rfl⟩)
        go_ret
        exact ⟨by rw [R.out]; rfl, rfl⟩
      | true =>
        have A2 := Lib.hid (show allIn lo hi (zs.take (k + 1)) = true by rw [AM.out, HA.out]; exact hx)
        go_wp2_with (go_at_call 69; refine (C0.out _ _ _ _).mono ?_; rintro e w' ⟨rfl, rfl⟩)
        exact ⟨⟨by trivial, k + 1, by omega, by go_num, A2⟩, by simp [intOf]; omega⟩
    · obtain rfl : k = zs.length := by omega
      have R := Lib.hid (show allIn lo hi zs = true by have := HA.out; rwa [List.take_length] at this)
      go_wp2
      go_ret
      exact ⟨by rw [R.out]; rfl, rfl⟩
end Go.Proofs.Ytblbmppbbhibeaa
