/- The contract of impl.isListFor. Condition: the numbers lie in a row of their own. -/
import Derived.Test.YtblbmppbbhibeaaRng
import Derived.Test.YtblbmppbbhibeaaPullM
namespace Go.Proofs.Ytblbmppbbhibeaa
set_option linter.unusedVariables false
set_option linter.unusedSimpArgs false
open Go.RowKit

/-- The right number of numbers, all in a range. -/
def listB (J : Int) (zs : List Int) (lo hi : Int) : Bool := decide ((zs.length : Int) = J) && zs.all (inRange lo hi)

set_option maxRecDepth 100000 in
set_option maxHeartbeats 800000 in
theorem isList_any (J : Int) (A : Option Addr) (n c : Nat) (vp : Value) (zs : List Int) (lo hi : Int) (b2 : Nat) (w : World) (hp : OwnI w b2 vp zs) (hlz : zs.length ≤ 2000000) :
    Calls Try.prog 38 #[.agg #[.int .i64 J, .slice A n c], vp, .int .i64 lo, .int .i64 hi] w fun e w' => e = .returned (.bool (listB J zs lo hi)) ∧ Below w.heap.size w w' := by
  obtain ⟨P, d, e⟩ := hp.slice
  subst e
  have CA := Lib.hid (fun W h => ((allIn_any (.slice P zs.length d) zs lo hi b2 W h hlz).mono fun e w' h => (show _ ∧ W = w' from ⟨h.1, h.2.symm⟩)))
  have HP := Lib.hid (hp.alloc (.cells #[.int .i64 J, .slice A n c] 26))
  have BW := Lib.hid ((Below.refl w.heap.size w).alloc (Nat.le_refl _) (.cells #[.int .i64 J, .slice A n c] 26))
  clear hp
  by_cases hl : (zs.length : Int) = J
  · have R := Lib.hid (show listB J zs lo hi = allIn lo hi zs by unfold listB; rw [decide_eq_true hl]; rfl)
    have C1 := Lib.hid (CA.out _ HP.out)
    subst hl
    have hne : ((zs.length : Int) == (zs.length : Int)) = true := by simp
    generalize allIn lo hi zs = r at C1 R CA
    go_enter Try.func38, Try.ntmps38
    go_wp2_with (go_at_call 57; (with_reducible refine C1.out.mono ?_); rintro e w' ⟨rfl, rfl⟩)
    go_ret
    exact ⟨by rw [R.out]; rfl, BW.out⟩
  · have R := Lib.hid (show listB J zs lo hi = false by unfold listB; rw [decide_eq_false hl]; rfl)
    have hne : ((zs.length : Int) == J) = false := by simpa using hl
    go_enter Try.func38, Try.ntmps38
    go_wp2
    go_ret
    exact ⟨by rw [R.out]; rfl, BW.out⟩
end Go.Proofs.Ytblbmppbbhibeaa
