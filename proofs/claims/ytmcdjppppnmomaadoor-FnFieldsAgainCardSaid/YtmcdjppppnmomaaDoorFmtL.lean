/- The contract of the program's FormatInt over the library's Itoa, and the law FnExactFormatInt walked over both contracts. Condition: the library's table of powers holds what its initialiser lays. -/
import Derived.Test.YtmcdjppppnmomaaDoorFmtW
import Derived.Test.YtmcdjppppnmomaaDoorShelf
import Derived.Test.YtmcdjppppnmomaaDoorCardBase
import Derived.Lib.AppendIntMem
namespace Go.Proofs.YtmcdjppppnmomaaDoor
open Go.RowKit

theorem implFormat (n : Int) (w : World) (h0 : -9223372036854775808 ≤ n) (h1 : n ≤ 9223372036854775807) (ht : Tab10 w) :
    Calls Tryd.prog 11 #[.int .i64 n] w fun e w' => e = .returned (.string ⟨(Lib.itoa n).toArray⟩) ∧ Below w.heap.size w w' := by
  have C := Lib.hid (Tryd.strconv_Itoa n h0 h1 w ht)
  clear h0 h1 ht
  go_enter Tryd.func11, Tryd.ntmps11
  go_wp2_with fail
  refine C.out.mono ?_
  rintro e w1 ⟨rfl, k, os, rfl⟩
  go_wp2
  go_ret
  exact ⟨rfl, Lib.below_grow _ _ (Nat.le_refl _) _ _⟩

theorem wf_bounds {n : Int} (h : (Lit.int .i64 n).wf = true) : -9223372036854775808 ≤ n ∧ n ≤ 9223372036854775807 := by
  simpa [Lit.wf, IntKind.min, IntKind.max, IntKind.signed, IntKind.bits] using h

theorem FnExactFormatInt_walk (n : Int) (w : World) (wf : (Lit.int .i64 n).wf = true) (ht : Tab10 w) :
    Calls Tryd.prog 6 #[.int .i64 n] w fun e w' => e = .returned (.bool true) ∧ Below w.heap.size w w' := by
  obtain ⟨h0, h1⟩ := wf_bounds wf
  have C1 := Lib.hid (specFormat n w h0 h1)
  have C2 := Lib.hid (fun W hT => implFormat n W h0 h1 hT)
  generalize (⟨(Lib.itoa n).toArray⟩ : ByteArray) = out at C1 C2
  clear h0 h1 wf
  have HT := Lib.hid ht
  clear ht
  go_enter Tryd.func6, Tryd.ntmps6
  go_wp2_with fail
  refine C1.out.mono ?_
  rintro e w1 ⟨rfl, b1⟩
  go_wp2_with fail
  refine (C2.out _ (HT.out.below b1)).mono ?_
  rintro e w2 ⟨rfl, b2⟩
  go_wp2
  go_ret
  exact ⟨rfl, b1.trans (b2.mono b1.size)⟩
end Go.Proofs.YtmcdjppppnmomaaDoor
