/- The law FnExactSplitFields, walked over the contracts of both functions and of those that compare, mark and look. No condition. -/
import Derived.Test.YtmcdjppppnmomaaSpW
import Derived.Test.YtmcdjppppnmomaaSpI
import Derived.Test.YtmcdjppppnmomaaMark
namespace Go.Proofs.Ytmcdjppppnmomaa
open Go.RowKit

set_option maxHeartbeats 400000 in
theorem FnExactSplitFields_walk (s : ByteArray) (w : World) (_ : s.size ≤ maxLen) :
    Calls Try.prog 6 #[.string s] w fun e w' => e = .returned (.bool true) ∧ Below w.heap.size w w' := by
  by_cases h1 : 1048576 < s.size
  · go_enter Try.func6, Try.ntmps6
    go_wp2
    go_ret
    exact ⟨rfl, Below.refl _ _⟩
  · have hl := splitR_len s.data.toList
    have c1 := specSplit s
    have c2 := implSplit s
    generalize splitR s.data.toList = r at hl c1 c2
    obtain ⟨fs, ok⟩ := r
    have C1 := Lib.hid c1
    have C2 := Lib.hid c2
    clear c1 c2
    replace hl : fs.length ≤ 24 := hl
    cases ok
    all_goals
      go_enter Try.func6, Try.ntmps6
      go_wp2_with fail
      refine (C1.out _).mono ?_
      rintro e w1 ⟨v1, rfl, o1, b1⟩
      go_wp2_with fail
      refine (C2.out _).mono ?_
      rintro e w2 ⟨v2, rfl, o2, b2⟩
      have n12 := o1.ne o2 (Nat.le_refl _)
      have p1 := o1.below b2
      clear o1
      go_wp2_with fail
      refine (eqStringS_same v2 v1 fs _ _ _ o2 p1 (by omega)).mono ?_
      rintro e w3 ⟨rfl, q3, rfl⟩
      go_wp2_with fail
      refine (markStringS_any v2 fs _ _ (ownS_drewN o2 q3) (by omega) 1 (by omega) (by omega)).mono ?_
      rintro e w4 ⟨rfl, o4, g4⟩
      go_wp2_with fail
      refine (heldStringS_any v2 fs.length _ _ 1 o4 (by omega) (by omega) (by omega)).mono ?_
      rintro e w5 ⟨rfl, b5⟩
      have p5 : OwnS w5 w.heap.size v1 fs := ((ownS_drewN p1 q3).kept g4 n12).below b5
      have o5 := o4.below b5
      have s4 : w2.heap.size ≤ w4.heap.size := g4.size
      have bb4 : Below w.heap.size w w4 := (b1.trans ((below_drewN (b2.mono b1.size) q3))).grown g4 (Nat.le_trans b1.size b2.size) (fun k hk => by have := (o2.lt k hk).1; have := b1.size; omega)
      have bb5 : Below w.heap.size w w5 := bb4.trans (b5.mono bb4.size)
      clear p1 o4 g4 b1 b2 b5
      go_wp2_with fail
      refine (C2.out _).mono ?_
      rintro e w6 ⟨v3, rfl, o6, b6⟩
      have p6 := p5.below b6
      have o7 := o5.below b6
      clear p5 o5
      go_wp2_with fail
      refine (eqStringS_same v3 v1 fs _ _ _ o6 p6 (by omega)).mono ?_
      rintro e w7 ⟨rfl, q7, rfl⟩
      go_wp2_with fail
      refine (heldStringS_any v2 fs.length _ _ 1 (ownS_drewN o7 q7) (by omega) (by omega) (by omega)).mono ?_
      rintro e w8 ⟨rfl, b8⟩
      have bb6 := bb5.trans (b6.mono bb5.size)
      have bb8 : Below w.heap.size w w8 := bb6.trans ((below_drewN (Below.refl w.heap.size w6) q7).trans (b8.mono bb6.size))
      clear p6 o6 o7 bb5 bb4 b6 b8
      go_wp2
      go_ret
      exact ⟨rfl, bb8⟩
end Go.Proofs.Ytmcdjppppnmomaa
