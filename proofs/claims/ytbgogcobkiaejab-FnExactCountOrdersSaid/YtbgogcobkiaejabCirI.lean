/- The contracts of the program's CircleIn and CuesOk. Condition: the cues lie in a row of their own. -/
import Derived.Test.YtbgogcobkiaejabWaiI
import Derived.Test.YtbgogcobkiaejabRsiI
import Derived.Test.YtbgogcobkiaejabParI
namespace Go.Proofs.Ytbgogcobkiaejab
set_option linter.unusedVariables false
set_option linter.unusedSimpArgs false
open Go.RowKit

theorem nilI (w : World) (b : Nat) : OwnI w b (.slice none 0 0) [] := ⟨rfl, .inl ⟨rfl, rfl⟩⟩

set_option maxRecDepth 100000 in
set_option maxHeartbeats 1600000 in
theorem implCirc (v : Value) (ls : List RCue) (b : Nat) (w : World) (h : OwnCue w b v ls) (hl : bulkCue ls ≤ 1048576) :
    Calls Try.prog 14 #[v] w (IntsPost w (circleIn ls)) := by
  obtain ⟨A, c, rfl⟩ := h.slice
  have O := Lib.hid h
  clear h
  have hbl := bulkCue_len ls
  by_cases hn : ls.length ≤ 12
  rotate_left
  · have R := Lib.hid (show circleIn ls = [] by unfold circleIn; rw [if_neg hn])
    have h12 : (12 : Int) < (ls.length : Int) := by omega
    go_enter Try.func14, Try.ntmps14
    go_wp2
    go_ret
    exact ⟨_, rfl, by rw [R.out]; exact nilI _ _, Below.refl _ _⟩
  have h12 : ¬ (12 : Int) < (ls.length : Int) := by omega
  have R := Lib.hid (show circleIn ls = circTo ls ls.length by unfold circleIn; rw [if_pos hn])
  have CW := Lib.hid (fun W h i hi => implWtd (.slice A ls.length c) ls b W h hn hl i hi)
  have CM := Lib.hid (fun k (hk : k < ls.length) (t : Bool) (ht : t = true ↔ Waits ls k k) => (show circTo ls (k + 1) = if t = true then circTo ls k ++ [(k : Int)] else circTo ls k by
    rw [circTo]
    by_cases q : ((waitSet ls).getD k 0).testBit k = true
    · rw [if_pos q, if_pos (ht.2 ((wait_bit ls hk).1 q))]
    · rw [if_neg q, if_neg (fun x => q ((wait_bit ls hk).2 (ht.1 x)))]))
  go_enter Try.func14, Try.ntmps14
  go_wp2_with fail
  go_loopw [3, 10] (fun ov iv wr => ∃ (k : Nat) (vo : Value), vo = ov ∧ k ≤ ls.length ∧ iv = .int .i64 (k : Int) ∧ Hid (OwnI wr w.heap.size vo (circTo ls k)) ∧ Hid (Below w.heap.size w wr)) (fun _ iv _ => ls.length - (intOf iv).toNat)
  case atStart => exact ⟨0, _, rfl, by omega, rfl, Lib.hid (nilI _ _), Lib.hid (Below.refl _ _)⟩
  case round =>
    obtain ⟨k, vo, rfl, hk, rfl, OO, BW⟩ := hrel
    by_cases hlt : k < ls.length
    rotate_left
    · obtain rfl : k = ls.length := by omega
      have F := Lib.hid (R.out ▸ OO.out)
      go_wp2
      go_ret
      exact ⟨_, rfl, F.out, BW.out⟩
    have hk0 : (0 : Int) ≤ (k : Int) := by omega
    have hk1 : (k : Int) < (ls.length : Int) := by omega
    have hcl := circTo_len ls k
    go_wp2_with fail
    refine (CW.out _ (O.out.below BW.out) k hlt).mono ?_
    rintro e w1 ⟨mb, n, T, rfl, s1, t1, b1⟩
    have LK := s1.look (k := k) (by omega)
    have B1 := Lib.hid (BW.out.trans (b1.mono BW.out.size))
    have O1 := Lib.hid (OO.out.below b1)
    have NX := Lib.hid (CM.out k hlt (T k) (t1 k))
    have hbs := B1.out.size
    clear s1 t1 b1 OO BW
    generalize T k = t at LK NX
    cases t with
    | true =>
      have N2 := Lib.hid (show circTo ls (k + 1) = circTo ls k ++ [(k : Int)] by rw [NX.out]; rfl)
      have ON := Lib.hid (oneI w1 w1.heap.size (k : Int) (Nat.le_refl _))
      clear NX
      go_wp2_with (at_builtin; refine wpList_rowsI rfl (.tmp 18) (.tmp 20) rfl w.heap.size w1.heap.size _ _ (circTo ls k) [(k : Int)] rfl rfl (O1.out.alloc _) ON.out ?_ ?_ ?_; (simp <;> omega); (simp <;> omega); intro v2 w2 o2 g2 hat2)
      have B2 := Lib.hid (madeR (B1.out.alloc hbs _) (by simp; omega) (O1.out.alloc _) g2)
      have O2 : Hid (OwnI w2 w.heap.size v2 (circTo ls (k + 1))) := Lib.hid (N2.out ▸ o2)
      exact ⟨⟨k + 1, v2, rfl, by omega, by go_num, O2, B2⟩, by simp [intOf] <;> omega⟩
    | false =>
      have N2 := Lib.hid (show circTo ls (k + 1) = circTo ls k by rw [NX.out]; rfl)
      clear NX
      go_wp2
      exact ⟨⟨k + 1, vo, rfl, by omega, by go_num, Lib.hid (by rw [N2.out]; exact O1.out), B1⟩, by simp [intOf] <;> omega⟩

set_option maxRecDepth 100000 in
set_option maxHeartbeats 1600000 in
theorem implCOk (v : Value) (ls : List RCue) (b : Nat) (w : World) (h : OwnCue w b v ls) (hl : bulkCue ls ≤ 1048576) :
    Calls Try.prog 13 #[v] w fun e w' => e = .returned (.bool (cuesOk ls)) ∧ Below w.heap.size w w' := by
  have CC := Lib.hid (fun W h => implCirc v ls b W h hl)
  obtain ⟨A, c, rfl⟩ := h.slice
  have O := Lib.hid h
  clear h
  have C1 := Lib.hid (fun W => (inRange_any (ls.length : Int) 1 12 W).mono fun e w' h => (show _ ∧ W = w' from ⟨h.1, h.2.symm⟩))
  have hbl := bulkCue_len ls
  have CL := circleIn_len12 ls
  cases hin : inB (ls.length : Int) 1 12 with
  | false =>
    have R := Lib.hid (cuesOk_no hin)
    rw [hin] at C1
    clear hin
    go_enter Try.func13, Try.ntmps13
    go_wp2_with (go_at_call 37; refine (C1.out _).mono ?_; rintro e w' ⟨rfl, rfl⟩)
    go_ret
    exact ⟨by rw [R.out]; rfl, Below.refl _ _⟩
  | true =>
    have RA := Lib.hid (fun h => cuesOk_all hin h)
    have RB := Lib.hid (fun k (hk : k < ls.length) h => cuesOk_bad hk h)
    have RW := Lib.hid (fun k (h : k < ls.length) => (show ls[k].f1.length ≤ 2000000 ∧ ls[k].f2.length ≤ 2000000 by have := bulkCue_row ls k h; omega))
    rw [hin] at C1
    clear hin
    go_enter Try.func13, Try.ntmps13
    go_wp2_with (go_at_call 37; refine (C1.out _).mono ?_; rintro e w' ⟨rfl, rfl⟩)
    go_loopw [11] (fun iv wr => ∃ k : Nat, k ≤ ls.length ∧ iv = .int .i64 (k : Int) ∧ Hid (∀ i (hi : i < ls.length), i < k → cueFine ls.length ls[i] = true) ∧ Hid (Below w.heap.size w wr)) (fun iv _ => ls.length - (intOf iv).toNat)
    case atStart => exact ⟨0, by omega, rfl, Lib.hid (fun i _ hi => absurd hi (by omega)), Lib.hid (Below.refl _ _)⟩
    case round =>
      obtain ⟨k, hk, rfl, HT, BW⟩ := hrel
      by_cases hlt : k < ls.length
      rotate_left
      · obtain rfl : k = ls.length := by omega
        have R := Lib.hid (RA.out (fun i hi => HT.out i hi hi))
        have CF := Lib.hid (CC.out wr (O.out.below BW.out))
        generalize circleIn ls = zs at R CF CL
        go_wp2_with fail
        refine CF.out.mono ?_
        rintro e w2 ⟨v2, rfl, o2, b2⟩
        obtain ⟨Z, cz, rfl⟩ := o2.slice
        have B2 := Lib.hid (BW.out.trans (b2.mono BW.out.size))
        clear o2 b2
        by_cases hz : zs.length = 0
        · have hzb : ((zs.length : Int) == 0) = true := by rw [hz]; rfl
          rw [decide_eq_true hz] at R
          clear hz
          go_wp2
          go_ret
          exact ⟨by rw [R.out]; try rfl, B2.out⟩
        · have hzb : ((zs.length : Int) == 0) = false := by simp; exact fun e => hz (by rw [e]; rfl)
          rw [decide_eq_false hz] at R
          clear hz
          go_wp2
          go_ret
          exact ⟨by rw [R.out]; try rfl, B2.out⟩
      have hk0 : (0 : Int) ≤ (k : Int) := by omega
      have hk1 : (k : Int) < (ls.length : Int) := by omega
      obtain ⟨g, cg, A1, c1, A2, c2, f1, -, ⟨x0, x1, x2⟩, ⟨o1, o2⟩, -, -, -, -⟩ := (O.out.below BW.out).spot hlt
      simp only [Value.slice.injEq] at f1
      obtain ⟨rfl, -, rfl⟩ := f1
      have hr := RW.out k hlt
      have NX := Lib.hid (fun (h : cueFine ls.length ls[k] = true) => (show ∀ i (hi : i < ls.length), i < k + 1 → cueFine ls.length ls[i] = true from fun i hi hj => by
        rcases (by omega : i < k ∨ i = k) with q | rfl
        · exact HT.out i hi q
        · exact h))
      have RX := Lib.hid (RB.out k hlt)
      have hbs := BW.out.size
      have BA := Lib.hid (BW.out.alloc hbs (.cells #[.int .i64 ls[k].f0, .slice A1 ls[k].f1.length c1, .slice A2 ls[k].f2.length c2] 31))
      have FT := Lib.hid (implFits ls[k] ls.length A1 A2 c1 c2 b (wr.alloc (.cells #[.int .i64 ls[k].f0, .slice A1 ls[k].f1.length c1, .slice A2 ls[k].f2.length c2] 31)) (by omega) (o1.alloc _) (o2.alloc _) hr.1 hr.2)
      clear o1 o2 hr
      generalize ls[k] = l at x0 x1 x2 NX RX BA FT
      cases h1 : cueFine ls.length l with
      | false =>
        have R := Lib.hid (RX.out h1)
        rw [h1] at FT
        clear h1 RX NX
        go_wp2_with (go_at_call 38; refine FT.out.mono ?_; rintro e w2 ⟨rfl, b2⟩; have B2 := Lib.hid (BA.out.trans (b2.mono BA.out.size)); clear b2)
        go_ret
        exact ⟨by rw [R.out]; rfl, B2.out⟩
      | true =>
        have N2 := Lib.hid (NX.out h1)
        rw [h1] at FT
        clear h1 RX NX
        go_wp2_with (go_at_call 38; refine FT.out.mono ?_; rintro e w2 ⟨rfl, b2⟩; have B2 := Lib.hid (BA.out.trans (b2.mono BA.out.size)); clear b2)
        exact ⟨⟨k + 1, by omega, by go_num, N2, B2⟩, by simp [intOf]; omega⟩
end Go.Proofs.Ytbgogcobkiaejab
