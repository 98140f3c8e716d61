/- The contracts of spec.WaitsFor and FreeCues. Condition: the cues lie in a row of their own. -/
import Derived.Test.YtbgogcobkiaejabCocS
namespace Go.Proofs.Ytbgogcobkiaejab
set_option linter.unusedVariables false
set_option linter.unusedSimpArgs false
open Go.RowKit

set_option maxRecDepth 100000 in
set_option maxHeartbeats 1600000 in
theorem specWait (v : Value) (ls : List RCue) (b : Nat) (w : World) (h : OwnCue w b v ls) (hl : bulkCue ls ≤ 1048576) (i k : Int) :
    Calls Try.prog 24 #[v, .int .i64 i, .int .i64 k] w fun e w' => e = .returned (.bool (waitsFor ls i k)) ∧ Below w.heap.size w w' := by
  have CK := Lib.hid (specCOk v ls b w h hl)
  have CW := Lib.hid (fun hn W h => specWaits v ls b W h hn hl)
  obtain ⟨A, c, rfl⟩ := h.slice
  have O := Lib.hid h
  clear h
  have C0 := Lib.hid (fun v lo hi W => (l01In_any v lo hi W).mono fun e w' h => (show _ ∧ W = w' from ⟨h.1, h.2.symm⟩))
  have hbl := bulkCue_len ls
  have en : IntKind.i64.wrap ((ls.length : Int) - 1) = (ls.length : Int) - 1 := IntWalk.i64_in _ (by omega)
  cases hok : cuesOk ls with
  | false =>
    have R := Lib.hid (show waitsFor ls i k = false by unfold waitsFor; rw [hok]; rfl)
    rw [hok] at CK
    go_enter Try.func24, Try.ntmps24
    go_wp2_with (go_at_call 21; refine CK.out.mono ?_; rintro e w2 ⟨rfl, b2⟩; have B2 := Lib.hid b2; clear b2)
    go_ret
    exact ⟨by rw [R.out]; rfl, B2.out⟩
  | true =>
    have hn := (cuesOk_has hok).1.2
    rw [hok] at CK
    have R := Lib.hid (show waitsFor ls i k = (inB i 0 ((ls.length : Int) - 1) && (inB k 0 ((ls.length : Int) - 1) && ((waitSet ls).getD i.toNat 0).testBit k.toNat)) by unfold waitsFor; rw [hok]; rfl)
    have Ci := Lib.hid (fun W => C0.out i 0 ((ls.length : Int) - 1) W)
    have Ck := Lib.hid (fun W => C0.out k 0 ((ls.length : Int) - 1) W)
    clear hok
    cases h1 : inB i 0 ((ls.length : Int) - 1) with
    | false =>
      have R2 := Lib.hid (show waitsFor ls i k = false by rw [R.out, h1]; rfl)
      rw [h1] at Ci
      clear R h1 Ck
      go_enter Try.func24, Try.ntmps24
      go_wp2_with (first | (go_at_call 21; refine CK.out.mono ?_; rintro e w2 ⟨rfl, b2⟩; have B2 := Lib.hid b2; clear b2) | (go_at_call 42; refine (Ci.out _).mono ?_; rintro e w' ⟨rfl, rfl⟩))
      go_ret
      exact ⟨by rw [R2.out]; rfl, B2.out⟩
    | true =>
      rw [h1] at Ci
      cases h2 : inB k 0 ((ls.length : Int) - 1) with
      | false =>
        have R2 := Lib.hid (show waitsFor ls i k = false by rw [R.out, h1, h2]; rfl)
        rw [h2] at Ck
        clear R h1 h2
        go_enter Try.func24, Try.ntmps24
        go_wp2_with (go_at_call 21; refine CK.out.mono ?_; rintro e w2 ⟨rfl, b2⟩; have B2 := Lib.hid b2; clear b2)
        refine (Ci.out _).mono ?_
        rintro e w' ⟨rfl, rfl⟩
        go_wp2_with fail
        refine (Ck.out _).mono ?_
        rintro e w' ⟨rfl, rfl⟩
        go_wp2
        go_ret
        exact ⟨by rw [R2.out]; rfl, B2.out⟩
      | true =>
        have hi : 0 ≤ i ∧ i ≤ (ls.length : Int) - 1 := by simpa [inB] using h1
        have hk : 0 ≤ k ∧ k ≤ (ls.length : Int) - 1 := by simpa [inB] using h2
        rw [h2] at Ck
        obtain ⟨p, rfl⟩ := Int.eq_ofNat_of_zero_le hi.1
        obtain ⟨q, rfl⟩ := Int.eq_ofNat_of_zero_le hk.1
        have hp : p < ls.length := by omega
        have R2 := Lib.hid (show waitsFor ls (p : Int) (q : Int) = ((waitSet ls).getD p 0).testBit q by rw [R.out, h1, h2, Int.toNat_natCast, Int.toNat_natCast]; rfl)
        have hs : (waitSet ls).getD p 0 < 4096 := by have := close_lt ls (m := ls.length) (Nat.le_refl _) hp; have := pow_small hn; unfold waitSet; omega
        have ebit := bit_nat ((waitSet ls).getD p 0) q (by omega) (by omega)
        have WL := Lib.hid (show (natI (waitSet ls)).length = ls.length by rw [natI_len, waitSet_len])
        have NA := Lib.hid (show (natI (waitSet ls))[p]'(by rw [natI_len, waitSet_len]; exact hp) = (((waitSet ls).getD p 0 : Nat) : Int) from natI_at _ (by rw [waitSet_len]; exact hp))
        have hp0 : (0 : Int) ≤ (p : Int) := by omega
        have hp1 : (p : Int) < (ls.length : Int) := by omega
        have hq0 : (0 : Int) ≤ (q : Int) := by omega
        clear R h1 h2 hi hk
        go_enter Try.func24, Try.ntmps24
        go_wp2_with (go_at_call 21; refine CK.out.mono ?_; rintro e w2 ⟨rfl, b2⟩; have B2 := Lib.hid b2; have O2 := Lib.hid (O.out.below b2); clear b2)
        refine (Ci.out _).mono ?_
        rintro e w' ⟨rfl, rfl⟩
        go_wp2_with fail
        refine (Ck.out _).mono ?_
        rintro e w' ⟨rfl, rfl⟩
        go_wp2_with fail
        refine (CW.out hn _ O2.out).mono ?_
        rintro e w3 ⟨vw, rfl, o3, b3⟩
        have B3 := Lib.hid (B2.out.trans (b3.mono B2.out.size))
        obtain ⟨gw, cw, rfl, -, -, z0, -⟩ := o3.spot (k := p) (by rw [WL.out]; exact hp)
        rw [NA.out] at z0
        rw [WL.out]
        clear o3 b3
        generalize (waitSet ls).getD p 0 = s at z0 ebit R2 hs
        by_cases cb : s.testBit q = true
        · rw [if_pos cb] at ebit
          rw [cb] at R2
          clear cb
          go_wp2
          go_ret
          exact ⟨by rw [R2.out]; try rfl, B3.out⟩
        · have cb : s.testBit q = false := by simpa using cb
          rw [cb] at ebit R2
          clear cb
          go_wp2
          go_ret
          exact ⟨by rw [R2.out]; try rfl, B3.out⟩

set_option maxRecDepth 100000 in
set_option maxHeartbeats 1600000 in
theorem specFree (v : Value) (ls : List RCue) (b : Nat) (w : World) (h : OwnCue w b v ls) (hl : bulkCue ls ≤ 1048576) :
    Calls Try.prog 32 #[v] w (IntsPost w (freeCues ls)) := by
  have CK := Lib.hid (fun W h => specCOk v ls b W h hl)
  obtain ⟨A, c, rfl⟩ := h.slice
  have O := Lib.hid h
  clear h
  have E0 := Lib.hid (ownI_empty w w.heap.size w.heap.size #[] rfl (Nat.le_refl _) rfl)
  have B0 := Lib.hid ((Below.refl w.heap.size w).alloc (Nat.le_refl _) (.cells #[] 3))
  have hbl := bulkCue_len ls
  have RW := Lib.hid (fun k (h : k < ls.length) => (show ls[k].f1.length ≤ 2000000 by have := bulkCue_row ls k h; omega))
  cases hok : cuesOk ls with
  | false =>
    have R := Lib.hid (show freeCues ls = [] by unfold freeCues; rw [hok]; rfl)
    rw [hok] at CK
    clear hok
    go_enter Try.func32, Try.ntmps32
    go_wp2_with fail
    go_loopw [3, 4] (fun ov iv wr => ov = .slice (some ⟨w.heap.size, 0, none⟩) 0 0 ∧ iv = .int .i64 0 ∧ Hid (OwnI wr w.heap.size (.slice (some ⟨w.heap.size, 0, none⟩) 0 0) []) ∧ Hid (Below w.heap.size w wr)) (fun _ _ _ => 0)
    case atStart => exact ⟨rfl, rfl, E0, B0⟩
    case round =>
      clear E0 B0
      obtain ⟨rfl, rfl, OO, BW⟩ := hrel
      by_cases hlt : 0 < ls.length
      · have hk1 : (0 : Int) < (ls.length : Int) := by omega
        go_wp2_with (go_at_call 21; refine (CK.out _ (O.out.below BW.out)).mono ?_; rintro e w' ⟨rfl, b2⟩; have B2 := Lib.hid (BW.out.trans (b2.mono BW.out.size)); have O2 := Lib.hid (OO.out.below b2); clear b2)
        go_ret
        exact ⟨_, rfl, by rw [R.out]; exact O2.out, B2.out⟩
      · have hk1 : ¬ (0 : Int) < (ls.length : Int) := by omega
        go_wp2
        go_ret
        exact ⟨_, rfl, by rw [R.out]; exact OO.out, BW.out⟩
  | true =>
    have hn := (cuesOk_has hok).1.2
    have R := Lib.hid (show freeCues ls = freeTo ls ls.length by unfold freeCues; rw [if_pos hok])
    rw [hok] at CK
    have FM := Lib.hid (fun k (hk : k < ls.length) => (show freeTo ls (k + 1) = if ls[k].f1.length = 0 then freeTo ls k ++ [(k : Int)] else freeTo ls k by
      rw [freeTo, List.getD_eq_getElem?_getD, List.getElem?_eq_getElem hk]
      rfl))
    clear hok
    go_enter Try.func32, Try.ntmps32
    go_wp2_with fail
    go_loopw [3, 4] (fun ov iv wr => ∃ (k : Nat) (vo : Value), vo = ov ∧ k ≤ ls.length ∧ iv = .int .i64 (k : Int) ∧ Hid (OwnI wr w.heap.size vo (freeTo ls k)) ∧ Hid (Below w.heap.size w wr)) (fun _ iv _ => ls.length - (intOf iv).toNat)
    case atStart => exact ⟨0, _, rfl, by omega, rfl, E0, B0⟩
    case round =>
      clear E0 B0
      obtain ⟨k, vo, rfl, hk, rfl, OO, BW⟩ := hrel
      by_cases hlt : k < ls.length
      rotate_left
      · obtain rfl : k = ls.length := by omega
        have F := Lib.hid (R.out ▸ OO.out)
        go_wp2
        go_ret
        exact ⟨_, rfl, F.out, BW.out⟩
      have hk0 : (0 : Int) ≤ (k : Int) := by omega
      have hk1 : (k : Int) < (ls.length : Int) := by omega
      have hr := RW.out k hlt
      have SP := Lib.hid (fun W (hb : Below w.heap.size w W) => (O.out.below hb).spot hlt)
      have NX := Lib.hid (FM.out k hlt)
      have hfl := freeTo_len ls k
      go_wp2_with fail
      refine (CK.out _ (O.out.below BW.out)).mono ?_
      rintro e w1 ⟨rfl, b1⟩
      have B1 := Lib.hid (BW.out.trans (b1.mono BW.out.size))
      have O1 := Lib.hid (OO.out.below b1)
      have hbs := B1.out.size
      obtain ⟨g, cg, A1, c1, A2, c2, f1, -, ⟨x0, x1, x2⟩, -, -, -, -, -⟩ := SP.out _ B1.out
      simp only [Value.slice.injEq] at f1
      obtain ⟨rfl, -, rfl⟩ := f1
      clear b1 OO BW SP x0 x2
      generalize hq : ls[k].f1.length = q at x1 NX hr
      clear hq
      by_cases hz : q = 0
      · have N2 := Lib.hid (show freeTo ls (k + 1) = freeTo ls k ++ [(k : Int)] by rw [NX.out, if_pos hz])
        subst hz
        have ON := Lib.hid (oneI w1 w1.heap.size (k : Int) (Nat.le_refl _))
        clear NX
        go_wp2_with (at_builtin; refine wpList_rowsI rfl (.tmp 23) (.tmp 25) rfl w.heap.size w1.heap.size _ _ (freeTo ls k) [(k : Int)] rfl rfl (O1.out.alloc _) ON.out ?_ ?_ ?_; (simp <;> omega); (simp <;> omega); intro v2 w2 o2 g2 hat2)
        have B2 := Lib.hid (madeR (B1.out.alloc hbs _) (by simp; omega) (O1.out.alloc _) g2)
        have O2 : Hid (OwnI w2 w.heap.size v2 (freeTo ls (k + 1))) := Lib.hid (N2.out ▸ o2)
        exact ⟨⟨k + 1, v2, rfl, by omega, by go_num, O2, B2⟩, by simp [intOf] <;> omega⟩
      · have N2 := Lib.hid (show freeTo ls (k + 1) = freeTo ls k by rw [NX.out, if_neg hz])
        have hzb : ((q : Int) == 0) = false := by simp; exact hz
        clear NX
        go_wp2
        exact ⟨⟨k + 1, vo, rfl, by omega, by go_num, Lib.hid (by rw [N2.out]; exact O1.out), B1⟩, by simp [intOf] <;> omega⟩
end Go.Proofs.Ytbgogcobkiaejab
