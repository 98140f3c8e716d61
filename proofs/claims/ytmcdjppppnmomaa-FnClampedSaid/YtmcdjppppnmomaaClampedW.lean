/- The law FnClamped, walked over the contracts of Clamp and of the drawing functions. No condition. -/
import Derived.Test.YtmcdjppppnmomaaNew
import Derived.Test.YtmcdjppppnmomaaClampW
namespace Go.Proofs.Ytmcdjppppnmomaa
open Go.RowKit

def Draw3 (w : World) (e : Ending) (w' : World) : Prop :=
  ∃ x y v : Int, e = .returned (.tuple #[.int .i64 x, .int .i64 y, .int .i64 v]) ∧ Below w.heap.size w w'

theorem drawClamp (w : World) (a : Option Addr) (n cap : Nat) (z : List Int) (hr : IsRow .u8 w a n cap z) (hn : n ≤ 1048576) :
    Calls Try.prog 9 #[.slice a n cap] w (Draw3 w) := by
  have N := Lib.hid (new_any w a n cap z hr hn)
  have O := Lib.hid (once_any w a n cap z hr)
  have M := Lib.hid (number_any w a n cap z hr)
  have B := Lib.hid (below_any w a n cap z hr)
  clear hr
  go_enter Try.func9, Try.ntmps9
  go_wp2_with fail
  refine N.out.mono ?_
  rintro e w1 ⟨b, rfl, s1⟩
  go_wp2_with fail
  refine (O.out _ _ s1 _).mono ?_
  rintro e w2 ⟨x, rfl, s2, _⟩
  cases x
  · go_wp2_with fail
    refine (B.out _ _ s2 _).mono ?_
    rintro e w3 ⟨x3, rfl, ⟨l3, u3, _⟩, s3, _⟩
    have u3 := u3 (by omega)
    go_wp2_with fail
    refine (B.out _ _ s3 _).mono ?_
    rintro e w4 ⟨x4, rfl, ⟨l4, u4, _⟩, s4, _⟩
    have u4 := u4 (by omega)
    go_wp2_with fail
    refine (B.out _ _ s4 _).mono ?_
    rintro e w5 ⟨x5, rfl, ⟨l5, u5, _⟩, s5, _⟩
    have u5 := u5 (by omega)
    go_wp2
    go_ret3
    exact ⟨_, _, _, rfl, s5.below⟩
  · go_wp2_with fail
    refine (M.out _ _ s2).mono ?_
    rintro e w3 ⟨x3, rfl, _, s3, _⟩
    go_wp2_with fail
    refine (M.out _ _ s3).mono ?_
    rintro e w4 ⟨x4, rfl, _, s4, _⟩
    go_wp2_with fail
    refine (M.out _ _ s4).mono ?_
    rintro e w5 ⟨x5, rfl, _, s5, _⟩
    go_wp2
    go_ret3
    exact ⟨_, _, _, rfl, s5.below⟩

theorem implClamp_at (n lo hi v : Int) (h : clampI n lo hi = v) (w : World) :
    Calls Try.prog 10 #[.int .i64 n, .int .i64 lo, .int .i64 hi] w fun e w' => e = .returned (.int .i64 v) ∧ w = w' := by
  subst h
  exact implClamp n lo hi w

theorem FnClamped_walk (a : Option Addr) (n cap : Nat) (z : List Int) (w : World) (hr : IsRow .u8 w a n cap z) :
    Calls Try.prog 3 #[.slice a n cap] w fun e w' => e = .returned (.bool true) ∧ Below w.heap.size w w' := by
  by_cases hn : 1048576 < n
  · have hmx := row_len hr
    go_enter Try.func3, Try.ntmps3
    go_wp2_with fail
    refine (big_yes _ _ _ _ hn hmx).mono ?_
    rintro e w1 ⟨rfl, rfl⟩
    go_wp2
    go_ret
    exact ⟨rfl, Below.refl _ _⟩
  · have D := Lib.hid (drawClamp w a n cap z hr (by omega))
    clear hr
    have C7 := Lib.hid (implClamp_at 7 3 5 5 (by decide))
    go_enter Try.func3, Try.ntmps3
    go_wp2_with fail
    refine (big_no _ _ _ _ (by omega)).mono ?_
    rintro e w1 ⟨rfl, rfl⟩
    go_wp2_with fail
    refine D.out.mono ?_
    rintro e w1 ⟨x, lo, hi, rfl, hb⟩
    go_wp2_with fail
    by_cases h1 : hi < lo
    · refine (implClamp_at x lo hi lo (by unfold clampI; (repeat' split) <;> omega) _).mono ?_
      rintro e w2 ⟨rfl, rfl⟩
      go_wp2_with fail
      refine (C7.out _).mono ?_
      rintro e w2 ⟨rfl, rfl⟩
      go_wp2
      go_ret
      exact ⟨rfl, hb⟩
    · by_cases h2 : x < lo
      · refine (implClamp_at x lo hi lo (by unfold clampI; (repeat' split) <;> omega) _).mono ?_
        rintro e w2 ⟨rfl, rfl⟩
        go_wp2_with fail
        refine (implClamp_at lo lo hi lo (by unfold clampI; (repeat' split) <;> omega) _).mono ?_
        rintro e w2 ⟨rfl, rfl⟩
        go_wp2_with fail
        refine (C7.out _).mono ?_
        rintro e w2 ⟨rfl, rfl⟩
        go_wp2
        go_ret
        exact ⟨rfl, hb⟩
      · by_cases h3 : hi < x
        · refine (implClamp_at x lo hi hi (by unfold clampI; (repeat' split) <;> omega) _).mono ?_
          rintro e w2 ⟨rfl, rfl⟩
          go_wp2_with fail
          refine (implClamp_at hi lo hi hi (by unfold clampI; (repeat' split) <;> omega) _).mono ?_
          rintro e w2 ⟨rfl, rfl⟩
          go_wp2_with fail
          refine (C7.out _).mono ?_
          rintro e w2 ⟨rfl, rfl⟩
          go_wp2
          go_ret
          exact ⟨rfl, hb⟩
        · refine (implClamp_at x lo hi x (by unfold clampI; (repeat' split) <;> omega) _).mono ?_
          rintro e w2 ⟨rfl, rfl⟩
          go_wp2_with fail
          refine (implClamp_at x lo hi x (by unfold clampI; (repeat' split) <;> omega) _).mono ?_
          rintro e w2 ⟨rfl, rfl⟩
          go_wp2_with fail
          refine (C7.out _).mono ?_
          rintro e w2 ⟨rfl, rfl⟩
          go_wp2
          go_ret
          exact ⟨rfl, hb⟩
end Go.Proofs.Ytmcdjppppnmomaa
