/- The cursor's making. Condition: at most 1048576 bytes. -/
import Derived.Test.YtanlfkkmnnjpeaaDraw
namespace Go.Proofs.Ytanlfkkmnnjpeaa
set_option linter.unusedVariables false
open Go.RowKit

theorem big_yes (a : Option Addr) (n cap : Nat) (w : World) (h : 1048576 < n) (hm : n ≤ 9223372036854775807) :
    Calls Try.prog 10 #[.slice a n cap] w fun e w' => e = .returned (.bool true) ∧ w = w' := by
  go_enter Try.func10, Try.ntmps10
  go_wp2
  go_ret
  exact ⟨congrArg (fun x => Ending.returned (.bool x)) (decide_eq_true (by omega)), rfl⟩
theorem big_no (a : Option Addr) (n cap : Nat) (w : World) (h : n ≤ 1048576) :
    Calls Try.prog 10 #[.slice a n cap] w fun e w' => e = .returned (.bool false) ∧ w = w' := by
  go_enter Try.func10, Try.ntmps10
  go_wp2
  go_ret
  exact ⟨congrArg (fun x => Ending.returned (.bool x)) (decide_eq_false (by omega)), rfl⟩

def NewPost (w0 : World) (a : Option Addr) (n cap : Nat) (e : Ending) (w' : World) : Prop :=
  ∃ b : Nat, e = .returned (.pointer (some ⟨b, 0, none⟩)) ∧ St w0 a n cap w' b

set_option maxRecDepth 100000 in
theorem new_any (w0 : World) (a : Option Addr) (n cap : Nat) (z : List Int) (hr : IsRow .u8 w0 a n cap z) (hn : n ≤ 1048576) :
    Calls Try.prog 39 #[.slice a n cap] w0 (NewPost w0 a n cap) := by
  have R := Lib.hid (fun j (hj : j < n) => row_at hr hj)
  have hand := i64_and30
  clear hr
  go_enter Try.func39, Try.ntmps39
  go_wp2
  go_loop [3, 4] (fun h i => ∃ (k : Nat) (x : Int), k ≤ n ∧ k ≤ 4000 ∧ 0 ≤ x ∧ x < 1073741824 ∧ i = .int .i64 k ∧ h = .int .i64 x) (fun _ i => n - (intOf i).toNat)
  case atStart => exact ⟨0, 33061 + n, by omega, by omega, by omega, by omega, rfl, rfl⟩
  case round =>
    obtain ⟨k, x, hk, hk4, hx0, hx1, rfl, rfl⟩ := hrel
    by_cases hlt : k < n ∧ k < 4000
    · obtain ⟨hlt1, hlt2⟩ := hlt
      obtain ⟨xb, xo, v, rfl, hv, hv0, hv1, _⟩ := R.out k hlt1
      go_wp2
      go_round
      case rel => exact ⟨k + 1, _, by omega, by omega, Int.emod_nonneg _ (by omega), Int.emod_lt_of_pos _ (by omega), by go_num, rfl⟩
      case measure => simp [intOf]; omega
    · by_cases hl : k < n
      · have hl4 : ¬ k < 4000 := by omega
        clear hlt
        go_wp2
        go_ret
        exact ⟨w0.heap.size, rfl, (Below.refl _ _).alloc (Nat.le_refl _) _, Nat.le_refl _, 0, x, by omega, by omega, heap_alloc_new w0 _⟩
      · clear hlt
        go_wp2
        go_ret
        exact ⟨w0.heap.size, rfl, (Below.refl _ _).alloc (Nat.le_refl _) _, Nat.le_refl _, 0, x, by omega, by omega, heap_alloc_new w0 _⟩

theorem St.alloc {w0 w : World} {a : Option Addr} {n cap b : Nat} (h : St w0 a n cap w b) (o : Obj) : St w0 a n cap (w.alloc o) b := by
  obtain ⟨i, x, h0, h1, hc⟩ := h.cur
  exact ⟨h.below.alloc h.below.size o, h.own, i, x, h0, h1, (Below.heap_alloc w o b h.cur.lt).trans hc⟩
end Go.Proofs.Ytanlfkkmnnjpeaa
