/- The law FnExactEncodeHex, walked over the contracts of both functions. No condition. -/
import Derived.Test.YtmcdjppppnmomaaEncW
import Derived.Test.YtmcdjppppnmomaaEncI
namespace Go.Proofs.Ytmcdjppppnmomaa
open Go.RowKit

theorem specEncode_long (s : ByteArray) (w : World) (hs : 20000 < s.size) :
    Calls Try.prog 11 #[.string s] w fun e w' => e = .returned (.tuple #[.string ⟨#[]⟩, .bool false]) ∧ w = w' := by
  go_enter Try.func11, Try.ntmps11
  go_wp2
  go_ret2
  exact ⟨rfl, rfl⟩
theorem FnExactEncodeHex_walk (s : ByteArray) (w : World) (_ : s.size ≤ maxLen) :
    Calls Try.prog 4 #[.string s] w fun e w' => e = .returned (.bool true) ∧ Below w.heap.size w w' := by
  by_cases h1 : 1048576 < s.size
  · go_enter Try.func4, Try.ntmps4
    go_wp2
    go_ret
    exact ⟨rfl, Below.refl _ _⟩
  · by_cases h2 : 20000 < s.size
    · go_enter Try.func4, Try.ntmps4
      go_wp2_with (first | (go_at_call 11; refine (specEncode_long _ _ h2).mono ?_; rintro e w' ⟨rfl, rfl⟩) | (go_at_call 12; refine (implEncode_long _ _ h2).mono ?_; rintro e w' ⟨rfl, rfl⟩))
      go_ret
      exact ⟨rfl, Below.refl _ _⟩
    · have h3 : s.size ≤ 20000 := by omega
      clear h1 h2
      generalize he : (⟨(encL s.data.toList).toArray⟩ : ByteArray) = out
      go_enter Try.func4, Try.ntmps4
      go_wp2_with fail
      refine (specEncode _ _ h3).mono ?_
      rw [he]
      rintro e w1 ⟨rfl, b1⟩
      go_wp2_with fail
      refine (implEncode _ _ h3).mono ?_
      rw [he]
      rintro e w2 ⟨rfl, b2⟩
      go_wp2
      go_ret
      exact ⟨rfl, b1.trans (b2.mono b1.size)⟩
end Go.Proofs.Ytmcdjppppnmomaa
