/- The contracts of spec.HandsFree. Condition: the players and the numbers lie in rows of their own. -/
import Derived.Test.YtjpalndcfaeihaaHanM
import Derived.Test.YtjpalndcfaeihaaRisS
import Derived.Test.YtjpalndcfaeihaaRowI
import Derived.Test.YtjpalndcfaeihaaParI
import Derived.BigQuiet
import Derived.Test.YtjpalndcfaeihaaPokS
namespace Go.Proofs.Ytjpalndcfaeihaa
set_option linter.unusedVariables false
set_option linter.unusedSimpArgs false
open Go.RowKit

set_option maxRecDepth 100000 in
set_option maxHeartbeats 1600000 in
theorem specHfr (v : Value) (ls : List RPlayer) (b : Nat) (w : World) (h : OwnPlayer w b v ls) (hl : ls.length ≤ 2000000) (hr : ∀ k (hk : k < ls.length), ls[k].f0.length ≤ 2000000) :
    Calls Try.prog 18 #[v] w fun e w' => e = .returned (.int .i64 (handsFree ls)) ∧ Below w.heap.size w w' := by
  have CK := Lib.hid (specPOk v ls b w h hl hr)
  obtain ⟨A, c, rfl⟩ := h.slice
  have O := Lib.hid h
  clear h hr
  cases hok : playersOk ls with
  | false =>
    have R := Lib.hid (show handsFree ls = -1 by unfold handsFree; rw [hok]; rfl)
    rw [hok] at CK
    go_enter Try.func18, Try.ntmps18
    go_wp2_with (go_at_call 42; refine CK.out.mono ?_; rintro e w1 ⟨rfl, b1⟩; have B1 := Lib.hid b1; clear b1)
    go_ret
    exact ⟨by rw [R.out]; rfl, B1.out⟩
  | true =>
    have hn := (playersOk_has hok).1
    have R := Lib.hid (show handsFree ls = handsTo ls ls.length by unfold handsFree; rw [if_pos hok])
    have SM := Lib.hid (hands_small hok)
    have FN := Lib.hid (fun k (hk : k < ls.length) => (player_fine ((playersOk_has hok).2 k hk)).2)
    rw [hok] at CK
    clear hok
    go_enter Try.func18, Try.ntmps18
    go_wp2_with (go_at_call 42; refine CK.out.mono ?_; rintro e w1 ⟨rfl, b1⟩; have B1 := Lib.hid b1; clear b1)
    go_loopw [3, 4] (fun nv kv wr => ∃ k : Nat, k ≤ ls.length ∧ nv = .int .i64 (handsTo ls k) ∧ kv = .int .i64 (k : Int) ∧ Hid (Below w.heap.size w wr)) (fun _ kv _ => ls.length - (intOf kv).toNat)
    case atStart => exact ⟨0, by omega, rfl, rfl, B1⟩
    case round =>
      clear B1
      obtain ⟨k, hk, rfl, rfl, BW⟩ := hrel
      by_cases hlt : k < ls.length
      rotate_left
      · obtain rfl : k = ls.length := by omega
        go_wp2
        go_ret
        exact ⟨by rw [R.out]; rfl, BW.out⟩
      have hk0 : (0 : Int) ≤ (k : Int) := by omega
      have hk1 : (k : Int) < (ls.length : Int) := by omega
      obtain ⟨g, _, A1, c1, f1, -, ⟨x0, x1⟩, -, -⟩ := (O.out.below BW.out).spot hlt
      simp only [Value.slice.injEq] at f1
      obtain ⟨rfl, -, rfl⟩ := f1
      have sm := SM.out k hk
      have fn := FN.out k hlt
      have NX := Lib.hid (show handsTo ls (k + 1) = handsTo ls k + ls[k].f1 by rw [handsTo, getP hlt])
      generalize ls[k].f1 = t at x1 fn NX
      generalize handsTo ls k = s at sm NX ⊢
      have ew : IntKind.i64.wrap (s + t) = s + t := IntWalk.i64_in _ (by omega)
      go_wp2
      exact ⟨⟨k + 1, by omega, by rw [NX.out], by go_num, BW⟩, by simp [intOf]; omega⟩
end Go.Proofs.Ytjpalndcfaeihaa
