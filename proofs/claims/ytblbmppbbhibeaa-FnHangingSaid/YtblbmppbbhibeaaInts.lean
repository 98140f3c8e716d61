/- A body's marks, and its row of limbs behind a call. Condition: the rows are the call's own. -/
import Derived.Test.YtblbmppbbhibeaaEqL
import Derived.Test.YtblbmppbbhibeaaIntR
namespace Go.Proofs.Ytblbmppbbhibeaa
set_option linter.unusedVariables false
set_option linter.unusedSimpArgs false
open Go.RowKit

theorem OwnL.below {w w' : World} {base : Nat} {v : Value} {ls : List Lb} (h : OwnL w base v ls) (hb : Below w.heap.size w w') : OwnL w' base v ls := h.kept (grown_of_below hb none) (by cases v.ownBlock <;> simp)

theorem markBody_any (J : Int) (v : Value) (ls : List Lb) (base : Nat) (w : World) (hown : OwnL w base v ls) (hl : ls.length ≤ 2000000) (u : Nat) (h1 : u ≤ 10000000) :
    Calls Try.prog 27 #[bodyV J v, .int .i64 (u : Int)] w fun e w' => e = .returned (.int .i64 ((u + 3 * ls.length : Nat) : Int)) ∧ OwnL w' base v (marksL u ls.length) ∧ w.grownBy w' v.ownBlock := by
  obtain ⟨A, c, e⟩ := hown.slice
  subst e
  have H := Lib.hid hown
  clear hown
  unfold bodyV
  go_enter Try.func27, Try.ntmps27
  go_wp2_with fail
  refine (markLimbS_any _ ls base _ (H.out.alloc _) hl u h1).mono ?_
  rintro e w3 ⟨rfl, o3, g3⟩
  go_wp2
  go_ret
  exact ⟨rfl, o3, grown_then (World.grownBy_alloc w _ _) g3⟩

end Go.Proofs.Ytblbmppbbhibeaa
