/- The law FnExactDecodeHex, walked over the contracts of both functions. No condition. -/
import Derived.Test.YtmcdjppppnmomaaDecW
import Derived.Test.YtmcdjppppnmomaaDecI
namespace Go.Proofs.Ytmcdjppppnmomaa
open Go.RowKit

theorem specDecode (s : ByteArray) (w : World) :
    Calls Try.prog 13 #[.string s] w fun e w' => e = .returned (.tuple #[.string (decR s).1, .bool (decR s).2]) ∧ Below w.heap.size w w' := by
  by_cases h : 40000 < s.size ∨ s.size % 2 ≠ 0
  · rw [decR_bad s h]
    exact specDecode_bad s w h
  · exact specDecode_good s w (by omega) (by omega)
theorem FnExactDecodeHex_walk (s : ByteArray) (w : World) (_ : s.size ≤ maxLen) :
    Calls Try.prog 5 #[.string s] w fun e w' => e = .returned (.bool true) ∧ Below w.heap.size w w' := by
  by_cases h1 : 1048576 < s.size
  · go_enter Try.func5, Try.ntmps5
    go_wp2
    go_ret
    exact ⟨rfl, Below.refl _ _⟩
  · have c1 := specDecode s
    have c2 := implDecode s
    generalize (decR s).1 = out at c1 c2
    generalize (decR s).2 = ok at c1 c2
    have C1 := Lib.hid c1
    have C2 := Lib.hid c2
    clear c1 c2
    cases ok
    all_goals
      go_enter Try.func5, Try.ntmps5
      go_wp2_with fail
      refine (C1.out _).mono ?_
      rintro e w1 ⟨rfl, b1⟩
      go_wp2_with fail
      refine (C2.out _).mono ?_
      rintro e w2 ⟨rfl, b2⟩
      go_wp2
      go_ret
      exact ⟨rfl, b1.trans (b2.mono b1.size)⟩
end Go.Proofs.Ytmcdjppppnmomaa
