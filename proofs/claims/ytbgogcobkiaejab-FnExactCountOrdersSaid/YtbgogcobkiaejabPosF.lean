/- The contract of the program's FreeCues. Condition: the cues lie in a row of their own. -/
import Derived.Test.YtbgogcobkiaejabPosI
namespace Go.Proofs.Ytbgogcobkiaejab
set_option linter.unusedVariables false
set_option linter.unusedSimpArgs false
open Go.RowKit

set_option maxRecDepth 100000 in
theorem implFree (v : Value) (ls : List RCue) (b : Nat) (w : World) (h : OwnCue w b v ls) (hl : bulkCue ls ≤ 1048576) :
    Calls Try.prog 15 #[v] w (IntsPost w (freeCues ls)) := by
  have CK := Lib.hid (implCOk v ls b w h hl)
  have CP := Lib.hid (fun hok W h => implPos v ls b W h hl hok 0 (by decide))
  obtain ⟨A, c, rfl⟩ := h.slice
  have O := Lib.hid h
  clear h
  cases hok : cuesOk ls with
  | false =>
    have R := Lib.hid (show freeCues ls = [] by unfold freeCues; rw [hok]; rfl)
    rw [hok] at CK
    clear hok CP
    go_enter Try.func15, Try.ntmps15
    go_wp2_with (go_at_call 13; refine CK.out.mono ?_; rintro e w2 ⟨rfl, b2⟩; have B2 := Lib.hid b2; clear b2)
    go_ret
    exact ⟨_, rfl, by rw [R.out]; exact nilI _ _, B2.out⟩
  | true =>
    have R := Lib.hid (show freeCues ls = possTo ls 0 ls.length by unfold freeCues; rw [if_pos hok, free_poss hok _ (Nat.le_refl _)])
    have CP := Lib.hid (fun W h => CP.out hok W h)
    rw [hok] at CK
    clear hok
    go_enter Try.func15, Try.ntmps15
    go_wp2_with (go_at_call 13; refine CK.out.mono ?_; rintro e w2 ⟨rfl, b2⟩; have B2 := Lib.hid b2; have O2 := Lib.hid (O.out.below b2); clear b2)
    refine (CP.out _ O2.out).mono ?_
    rintro e w3 ⟨v3, rfl, o3, b3⟩
    have B3 := Lib.hid (B2.out.trans (b3.mono B2.out.size))
    have O3 := Lib.hid (o3.mono B2.out.size)
    clear o3 b3
    go_wp2
    go_ret
    exact ⟨_, rfl, by rw [R.out]; exact O3.out, B3.out⟩
end Go.Proofs.Ytbgogcobkiaejab
