/- The contract of the program's WaitsFor. Condition: the cues lie in a row of their own. -/
import Derived.Test.YtbgogcobkiaejabCirI
namespace Go.Proofs.Ytbgogcobkiaejab
set_option linter.unusedVariables false
set_option linter.unusedSimpArgs false
open Go.RowKit

set_option maxRecDepth 100000 in
set_option maxHeartbeats 1600000 in
theorem implWait (v : Value) (ls : List RCue) (b : Nat) (w : World) (h : OwnCue w b v ls) (hl : bulkCue ls ≤ 1048576) (i k : Int) :
    Calls Try.prog 16 #[v, .int .i64 i, .int .i64 k] w fun e w' => e = .returned (.bool (waitsFor ls i k)) ∧ Below w.heap.size w w' := by
  have CK := Lib.hid (implCOk v ls b w h hl)
  have CW := Lib.hid (fun hn W h => implWtd v ls b W h hn hl)
  obtain ⟨A, c, rfl⟩ := h.slice
  have O := Lib.hid h
  clear h
  have hbl := bulkCue_len ls
  have Ci := Lib.hid (fun W => hasCue_any A ls.length c i W (by omega))
  have Ck := Lib.hid (fun W => hasCue_any A ls.length c k W (by omega))
  cases hok : cuesOk ls with
  | false =>
    have R := Lib.hid (show waitsFor ls i k = false by unfold waitsFor; rw [hok]; rfl)
    rw [hok] at CK
    clear hok
    go_enter Try.func16, Try.ntmps16
    go_wp2_with (go_at_call 13; refine CK.out.mono ?_; rintro e w2 ⟨rfl, b2⟩; have B2 := Lib.hid b2; clear b2)
    go_ret
    exact ⟨by rw [R.out]; rfl, B2.out⟩
  | true =>
    have hn := (cuesOk_has hok).1.2
    rw [hok] at CK
    have R := Lib.hid (show waitsFor ls i k = (inB i 0 ((ls.length : Int) - 1) && (inB k 0 ((ls.length : Int) - 1) && ((waitSet ls).getD i.toNat 0).testBit k.toNat)) by unfold waitsFor; rw [hok]; rfl)
    clear hok
    cases h1 : inB i 0 ((ls.length : Int) - 1) with
    | false =>
      have R2 := Lib.hid (show waitsFor ls i k = false by rw [R.out, h1]; rfl)
      rw [h1] at Ci
      clear R h1 Ck
      go_enter Try.func16, Try.ntmps16
      go_wp2_with (first | (go_at_call 13; refine CK.out.mono ?_; rintro e w2 ⟨rfl, b2⟩; have B2 := Lib.hid b2; clear b2) | (go_at_call 40; refine (Ci.out _).mono ?_; rintro e w' ⟨rfl, rfl⟩))
      go_ret
      exact ⟨by rw [R2.out]; rfl, B2.out⟩
    | true =>
      rw [h1] at Ci
      cases h2 : inB k 0 ((ls.length : Int) - 1) with
      | false =>
        have R2 := Lib.hid (show waitsFor ls i k = false by rw [R.out, h1, h2]; rfl)
        rw [h2] at Ck
        clear R h1 h2
        go_enter Try.func16, Try.ntmps16
        go_wp2_with (go_at_call 13; refine CK.out.mono ?_; rintro e w2 ⟨rfl, b2⟩; have B2 := Lib.hid b2; clear b2)
        refine (Ci.out _).mono ?_
        rintro e w' ⟨rfl, rfl⟩
        go_wp2_with fail
        refine (Ck.out _).mono ?_
        rintro e w' ⟨rfl, rfl⟩
        go_wp2
        go_ret
        exact ⟨by rw [R2.out]; rfl, B2.out⟩
      | true =>
        have hi : 0 ≤ i ∧ i ≤ (ls.length : Int) - 1 := by simpa [inB] using h1
        have hk : 0 ≤ k ∧ k ≤ (ls.length : Int) - 1 := by simpa [inB] using h2
        rw [h2] at Ck
        obtain ⟨p, rfl⟩ := Int.eq_ofNat_of_zero_le hi.1
        obtain ⟨q, rfl⟩ := Int.eq_ofNat_of_zero_le hk.1
        have hp : p < ls.length := by omega
        have hq : q < 4096 := by omega
        have R2 := Lib.hid (fun (t : Bool) (ht : t = true ↔ Waits ls p q) => (show waitsFor ls (p : Int) (q : Int) = t by
          rw [R.out, h1, h2, Int.toNat_natCast, Int.toNat_natCast, Bool.true_and, Bool.true_and]
          have e := wait_bit ls hp (k := q)
          cases c : ((waitSet ls).getD p 0).testBit q with
          | true => exact (ht.2 (e.1 c)).symm
          | false =>
            cases d : t with
            | false => rfl
            | true => rw [e.2 (ht.1 d)] at c; cases c))
        clear R h1 h2 hi hk
        go_enter Try.func16, Try.ntmps16
        go_wp2_with (go_at_call 13; refine CK.out.mono ?_; rintro e w2 ⟨rfl, b2⟩; have B2 := Lib.hid b2; have O2 := Lib.hid (O.out.below b2); clear b2)
        refine (Ci.out _).mono ?_
        rintro e w' ⟨rfl, rfl⟩
        go_wp2_with fail
        refine (Ck.out _).mono ?_
        rintro e w' ⟨rfl, rfl⟩
        go_wp2_with fail
        refine (CW.out hn _ O2.out p hp).mono ?_
        rintro e w3 ⟨mb, n, T, rfl, s3, t3, b3⟩
        have B3 := Lib.hid (B2.out.trans (b3.mono B2.out.size))
        have LK := s3.look hq
        have F := Lib.hid (R2.out (T q) (t3 q))
        clear s3 t3 b3 R2
        generalize T q = t at LK F
        go_wp2
        go_ret
        exact ⟨by rw [F.out]; try rfl, B3.out⟩
end Go.Proofs.Ytbgogcobkiaejab
