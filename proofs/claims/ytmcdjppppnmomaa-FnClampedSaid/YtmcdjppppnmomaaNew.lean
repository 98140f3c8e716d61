/- The cursor's making, and the contracts of the functions that draw numbers for FnClamped. Condition: at most 1048576 bytes. -/
import Derived.Test.YtmcdjppppnmomaaDraw
namespace Go.Proofs.Ytmcdjppppnmomaa
open Go.RowKit

theorem big_yes (a : Option Addr) (n cap : Nat) (w : World) (h : 1048576 < n) (hm : n ≤ 9223372036854775807) :
    Calls Try.prog 8 #[.slice a n cap] w fun e w' => e = .returned (.bool true) ∧ w = w' := by
  go_enter Try.func8, Try.ntmps8
  go_wp2
  go_ret
  exact ⟨congrArg (fun x => Ending.returned (.bool x)) (decide_eq_true (by omega)), rfl⟩
theorem big_no (a : Option Addr) (n cap : Nat) (w : World) (h : n ≤ 1048576) :
    Calls Try.prog 8 #[.slice a n cap] w fun e w' => e = .returned (.bool false) ∧ w = w' := by
  go_enter Try.func8, Try.ntmps8
  go_wp2
  go_ret
  exact ⟨congrArg (fun x => Ending.returned (.bool x)) (decide_eq_false (by omega)), rfl⟩

def NewPost (w0 : World) (a : Option Addr) (n cap : Nat) (e : Ending) (w' : World) : Prop :=
  ∃ b : Nat, e = .returned (.pointer (some ⟨b, 0, none⟩)) ∧ St w0 a n cap w' b

set_option maxRecDepth 100000 in
theorem new_any (w0 : World) (a : Option Addr) (n cap : Nat) (z : List Int) (hr : IsRow .u8 w0 a n cap z) (hn : n ≤ 1048576) :
    Calls Try.prog 21 #[.slice a n cap] w0 (NewPost w0 a n cap) := by
  have R := Lib.hid (fun j (hj : j < n) => row_at hr hj)
  have hand := i64_and30
  clear hr
  go_enter Try.func21, Try.ntmps21
  go_wp2
  go_loop [3, 4] (fun h i => ∃ (k : Nat) (x : Int), k ≤ n ∧ k ≤ 4000 ∧ 0 ≤ x ∧ x < 1073741824 ∧ i = .int .i64 k ∧ h = .int .i64 x) (fun _ i => n - (intOf i).toNat)
  case atStart => exact ⟨0, 33061 + n, by omega, by omega, by omega, by omega, rfl, rfl⟩
  case round =>
    obtain ⟨k, x, hk, hk4, hx0, hx1, rfl, rfl⟩ := hrel
    by_cases hlt : k < n ∧ k < 4000
    · obtain ⟨hlt1, hlt2⟩ := hlt
      obtain ⟨xb, xo, v, rfl, hv, hv0, hv1, _⟩ := R.out k hlt1
      go_wp2
      go_round
      case rel => exact ⟨k + 1, _, by omega, by omega, Int.emod_nonneg _ (by omega), Int.emod_lt_of_pos _ (by omega), by go_num, rfl⟩
      case measure => simp [intOf]; omega
    · by_cases hl : k < n
      · have hl4 : ¬ k < 4000 := by omega
        clear hlt
        go_wp2
        go_ret
        exact ⟨w0.heap.size, rfl, (Below.refl _ _).alloc (Nat.le_refl _) _, Nat.le_refl _, 0, x, by omega, by omega, heap_alloc_new w0 _⟩
      · clear hlt
        go_wp2
        go_ret
        exact ⟨w0.heap.size, rfl, (Below.refl _ _).alloc (Nat.le_refl _) _, Nat.le_refl _, 0, x, by omega, by omega, heap_alloc_new w0 _⟩

theorem St.alloc {w0 w : World} {a : Option Addr} {n cap b : Nat} (h : St w0 a n cap w b) (o : Obj) : St w0 a n cap (w.alloc o) b := by
  obtain ⟨i, x, h0, h1, hc⟩ := h.cur
  exact ⟨h.below.alloc h.below.size o, h.own, i, x, h0, h1, (Below.heap_alloc w o b h.cur.lt).trans hc⟩

theorem pickInt_any (w0 : World) (a : Option Addr) (n cap : Nat) (z : List Int) (hr : IsRow .u8 w0 a n cap z) (w : World) (b : Nat) (hs : St w0 a n cap w b)
    (g : Nat) (L : List Int) (hl : 0 < L.length) (hm : L.length ≤ 1000) (hne : g ≠ b) (hg : w.heap[g]? = some (.cells (L.map (Value.int .i64)).toArray 3 (0, 0))) :
    Calls Try.prog 30 #[.pointer (some ⟨b, 0, none⟩), .slice (some ⟨g, 0, none⟩) L.length L.length] w (NumPost w0 a n cap w b fun x => x ∈ L) := by
  have C := Lib.hid (below_any w0 a n cap z hr)
  clear hr
  go_enter Try.func30, Try.ntmps30
  go_wp2_with fail
  refine (C.out _ _ hs _).mono ?_
  rintro e w1 ⟨x, rfl, ⟨hx0, hx1, _⟩, hs1, hg1⟩
  have hx2 := hx1 (by omega)
  clear hx1
  obtain ⟨j, rfl⟩ := Int.eq_ofNat_of_zero_le hx0
  have hj : j < L.length := by omega
  have hgl : g < w.heap.size := (Array.getElem?_eq_some_iff.1 hg).1
  have hc : w1.cell? ⟨g, j, none⟩ = some (.int .i64 L[j]) := by
    rw [World.cell?_of_block (hg1.block g hgl (by simp; omega)), cell_of_row w g j _ _ _ hg]
    simp [hj]
  have hin : L[j] ∈ L := List.getElem_mem _
  generalize L[j] = y at hc hin
  go_wp2
  go_ret
  exact ⟨_, rfl, hin, hs1, hg1⟩

def InI64 (x : Int) : Prop := -9223372036854775808 ≤ x ∧ x ≤ 9223372036854775807

theorem number_any (w0 : World) (a : Option Addr) (n cap : Nat) (z : List Int) (hr : IsRow .u8 w0 a n cap z) (w : World) (b : Nat) (hs : St w0 a n cap w b) :
    Calls Try.prog 23 #[.pointer (some ⟨b, 0, none⟩)] w (NumPost w0 a n cap w b InI64) := by
  have C := Lib.hid (below_any w0 a n cap z hr)
  have D := Lib.hid (pickInt_any w0 a n cap z hr)
  clear hr
  go_enter Try.func23, Try.ntmps23
  go_wp2_with fail
  refine (C.out _ _ hs _).mono ?_
  rintro e w1 ⟨x, rfl, ⟨hx0, hx1, _⟩, hs1, hg1⟩
  have hx2 := hx1 (by omega)
  clear hx1
  by_cases h0 : x = 0
  · subst h0
    go_wp2_with fail
    refine (D.out _ _ (hs1.alloc _) _ [-1, 0, 127, 128, 16383, 16384, 1000000000, 1000000001, 9223372036854775807, -9223372036854775808] (by decide) (by decide) (Nat.ne_of_gt hs1.cur.lt) (heap_alloc_new w1 _)).mono ?_
    rintro e w2 ⟨y, rfl, hy, hs2, hg2⟩
    go_wp2
    go_ret
    exact ⟨_, rfl, (by simp at hy; unfold InI64; omega), hs2, grown_trans hg1 (grown_trans (World.grownBy_alloc w1 _ _) hg2)⟩
  · by_cases h1 : x = 1
    · subst h1
      go_wp2_with fail
      refine (C.out _ _ hs1 _).mono ?_
      rintro e w2 ⟨y, rfl, ⟨hy0, hy1, _⟩, hs2, hg2⟩
      go_wp2
      go_ret
      exact ⟨_, rfl, (by have := hy1 (by omega); unfold InI64; omega), hs2, grown_trans hg1 hg2⟩
    · have e0 : (x == 0) = false := by simpa using h0
      have e1 : (x == 1) = false := by simpa using h1
      go_wp2_with fail
      refine (C.out _ _ hs1 _).mono ?_
      rintro e w2 ⟨y, rfl, ⟨hy0, hy1, _⟩, hs2, hg2⟩
      go_wp2
      go_ret
      exact ⟨_, rfl, (by have := hy1 (by omega); unfold InI64; omega), hs2, grown_trans hg1 hg2⟩
end Go.Proofs.Ytmcdjppppnmomaa
