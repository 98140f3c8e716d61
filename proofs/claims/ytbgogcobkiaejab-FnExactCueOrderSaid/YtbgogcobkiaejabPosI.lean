/- The contracts of the program's possibleNext and CueOrder. Condition: the cues lie in a row of their own. -/
import Derived.Test.YtbgogcobkiaejabPosM
import Derived.Test.YtbgogcobkiaejabCirI
import Derived.Test.YtbgogcobkiaejabCwaS
namespace Go.Proofs.Ytbgogcobkiaejab
set_option linter.unusedVariables false
set_option linter.unusedSimpArgs false
open Go.RowKit

set_option maxRecDepth 100000 in
set_option maxHeartbeats 1600000 in
theorem implPos (v : Value) (ls : List RCue) (b : Nat) (w : World) (h : OwnCue w b v ls) (hl : bulkCue ls ≤ 1048576) (hok : cuesOk ls = true) (D : Nat) (hD : D < 2 ^ 62) :
    Calls Try.prog 35 #[v, .int .u64 (D : Int)] w (IntsPost w (possTo ls D ls.length)) := by
  obtain ⟨A, c, rfl⟩ := h.slice
  have O := Lib.hid h
  clear h
  have hn := (cuesOk_has hok).1.2
  have FA := Lib.hid (fun k (hk : k < ls.length) => (show ∀ i (hi : i < ls[k].f1.length), 0 ≤ ls[k].f1[i] ∧ ls[k].f1[i] ≤ 60 from fun i hi => by have := fine_after ((cuesOk_has hok).2.1 k hk) i hi; omega))
  have RW := Lib.hid (fun k (h : k < ls.length) => (show ls[k].f1.length ≤ 2000000 by have := bulkCue_row ls k h; omega))
  have HK := Lib.hid (fun k (hk : k ≤ 60) W => (setHas D k hk hD W).mono fun e w' h => (show _ ∧ W = w' from ⟨h.1, h.2.symm⟩))
  have HA := Lib.hid (fun v zs W h hl hz => (setHasAll D v zs b W hD h hl hz).mono fun e w' h => (show _ ∧ W = w' from ⟨h.1, h.2.symm⟩))
  have PM := Lib.hid (fun k (hk : k < ls.length) => (show possTo ls D (k + 1) = if (!D.testBit k && holdsAll D ls[k].f1) = true then possTo ls D k ++ [(k : Int)] else possTo ls D k by
    rw [possTo, progB, getC hk]))
  clear hok hl
  go_enter Try.func35, Try.ntmps35
  go_wp2_with fail
  go_loopw [5, 10] (fun ov iv wr => ∃ (k : Nat) (vo : Value), vo = ov ∧ k ≤ ls.length ∧ iv = .int .i64 (k : Int) ∧ Hid (OwnI wr w.heap.size vo (possTo ls D k)) ∧ Hid (Below w.heap.size w wr)) (fun _ iv _ => ls.length - (intOf iv).toNat)
  case atStart => exact ⟨0, _, rfl, by omega, rfl, Lib.hid (nilI _ _), Lib.hid (Below.refl _ _)⟩
  case round =>
    obtain ⟨k, vo, rfl, hk, rfl, OO, BW⟩ := hrel
    by_cases hlt : k < ls.length
    rotate_left
    · obtain rfl : k = ls.length := by omega
      go_wp2
      go_ret
      exact ⟨_, rfl, OO.out, BW.out⟩
    have hk0 : (0 : Int) ≤ (k : Int) := by omega
    have hk1 : (k : Int) < (ls.length : Int) := by omega
    have hcl := possTo_len ls D k
    obtain ⟨g, cg, A1, c1, A2, c2, f1, -, ⟨x0, x1, x2⟩, ⟨o1, -⟩, -, -, -, -⟩ := (O.out.below BW.out).spot hlt
    simp only [Value.slice.injEq] at f1
    obtain ⟨rfl, -, rfl⟩ := f1
    have hr := RW.out k hlt
    have fa := FA.out k hlt
    have NX := Lib.hid (PM.out k hlt)
    have hbs := BW.out.size
    have H1 := Lib.hid (HK.out k (by omega))
    generalize ls[k] = l at x0 x1 x2 o1 hr fa NX
    have BA := Lib.hid (BW.out.alloc hbs (.cells #[.int .i64 l.f0, .slice A1 l.f1.length c1, .slice A2 l.f2.length c2] 31))
    have OA := Lib.hid (OO.out.alloc (.cells #[.int .i64 l.f0, .slice A1 l.f1.length c1, .slice A2 l.f2.length c2] 31))
    have H2 := Lib.hid (HA.out _ l.f1 _ (o1.alloc (.cells #[.int .i64 l.f0, .slice A1 l.f1.length c1, .slice A2 l.f2.length c2] 31)) hr fa)
    clear o1 fa hr
    cases h1 : D.testBit k with
    | true =>
      have N2 := Lib.hid (show possTo ls D (k + 1) = possTo ls D k by rw [NX.out, h1]; rfl)
      rw [h1] at H1
      clear NX h1 H2
      go_wp2_with (go_at_call 49; refine (H1.out _).mono ?_; rintro e w' ⟨rfl, rfl⟩)
      exact ⟨⟨k + 1, vo, rfl, by omega, by go_num, Lib.hid (by rw [N2.out]; exact OA.out), BA⟩, by simp [intOf] <;> omega⟩
    | false =>
      rw [h1] at H1
      cases h2 : holdsAll D l.f1 with
      | false =>
        have N2 := Lib.hid (show possTo ls D (k + 1) = possTo ls D k by rw [NX.out, h1, h2]; rfl)
        rw [h2] at H2
        clear NX h1 h2
        go_wp2_with (first | (go_at_call 49; refine (H1.out _).mono ?_; rintro e w' ⟨rfl, rfl⟩) | (go_at_call 50; refine H2.out.mono ?_; rintro e w' ⟨rfl, rfl⟩))
        exact ⟨⟨k + 1, vo, rfl, by omega, by go_num, Lib.hid (by rw [N2.out]; exact OA.out), BA⟩, by simp [intOf] <;> omega⟩
      | true =>
        have N2 := Lib.hid (show possTo ls D (k + 1) = possTo ls D k ++ [(k : Int)] by rw [NX.out, h1, h2]; rfl)
        have ON := Lib.hid (oneI (wr.alloc (.cells #[.int .i64 l.f0, .slice A1 l.f1.length c1, .slice A2 l.f2.length c2] 31)) (wr.heap.size + 1) (k : Int) (by simp))
        have ON := Lib.hid (show OwnI _ (wr.heap.size + 1) (.slice (some ⟨wr.heap.size + 1, 0, none⟩) 1 1) [(k : Int)] by have h := ON.out; rw [World.size_alloc] at h; exact h)
        have hb2 : w.heap.size ≤ (wr.alloc (.cells #[.int .i64 l.f0, .slice A1 l.f1.length c1, .slice A2 l.f2.length c2] 31)).heap.size := by simp; omega
        rw [h2] at H2
        clear NX h1 h2
        go_wp2_with (first | (go_at_call 49; refine (H1.out _).mono ?_; rintro e w' ⟨rfl, rfl⟩) | (go_at_call 50; refine H2.out.mono ?_; rintro e w' ⟨rfl, rfl⟩) | (at_builtin; refine wpList_rowsI rfl (.tmp 25) (.tmp 27) rfl w.heap.size (wr.heap.size + 1) _ _ (possTo ls D k) [(k : Int)] rfl rfl (OA.out.alloc _) ON.out ?_ ?_ ?_; (simp <;> omega); (simp <;> omega); intro v2 w2 o2 g2 hat2))
        have B2 := Lib.hid (madeR (BA.out.alloc hb2 _) (by simp; omega) (OA.out.alloc _) g2)
        have O2 : Hid (OwnI w2 w.heap.size v2 (possTo ls D (k + 1))) := Lib.hid (N2.out ▸ o2)
        exact ⟨⟨k + 1, v2, rfl, by omega, by go_num, O2, B2⟩, by simp [intOf] <;> omega⟩

set_option maxRecDepth 100000 in
set_option maxHeartbeats 1600000 in
theorem implOrd (v : Value) (ls : List RCue) (b : Nat) (w : World) (h : OwnCue w b v ls) (hl : bulkCue ls ≤ 1048576) :
    Calls Try.prog 12 #[v] w (IntsPost w (cueOrder ls)) := by
  have CK := Lib.hid (implCOk v ls b w h hl)
  have CP := Lib.hid (fun hok W h D hD => implPos v ls b W h hl hok D hD)
  obtain ⟨A, c, rfl⟩ := h.slice
  have O := Lib.hid h
  clear h
  cases hok : cuesOk ls with
  | false =>
    have R := Lib.hid (show cueOrder ls = [] by unfold cueOrder; rw [hok]; rfl)
    rw [hok] at CK
    clear hok CP
    go_enter Try.func12, Try.ntmps12
    go_wp2_with (go_at_call 13; refine CK.out.mono ?_; rintro e w2 ⟨rfl, b2⟩; have B2 := Lib.hid b2; clear b2)
    go_ret
    exact ⟨_, rfl, by rw [R.out]; exact nilI _ _, B2.out⟩
  | true =>
    have hn := (cuesOk_has hok).1.2
    have R := Lib.hid (show cueOrder ls = (ordTo (waitSet ls) ls.length ls.length).1 by unfold cueOrder; rw [if_pos hok])
    have CP := Lib.hid (fun W h D hD => CP.out hok W h D hD)
    have PR := Lib.hid (fun m hm => ord_at hok m hm)
    have PC := Lib.hid (fun m hm => poss_first hok (ord_closed hok m hm) ls.length (Nat.le_refl _))
    have OL := Lib.hid (fun m => ord_len (waitSet ls) ls.length m)
    have OM := Lib.hid (fun m => (show ordTo (waitSet ls) ls.length (m + 1) = ((ordTo (waitSet ls) ls.length m).1 ++ [nextTo (waitSet ls) (ordTo (waitSet ls) ls.length m).2 ls.length], (ordTo (waitSet ls) ls.length m).2 ||| 1 <<< (nextTo (waitSet ls) (ordTo (waitSet ls) ls.length m).2 ls.length).toNat) from rfl))
    have PW := Lib.hid (pow_small hn)
    rw [hok] at CK
    clear hok
    go_enter Try.func12, Try.ntmps12
    go_wp2_with (go_at_call 13; refine CK.out.mono ?_; rintro e w1 ⟨rfl, b1⟩; have B1 := Lib.hid b1; clear b1)
    go_loopw [3, 4, 11] (fun ov dv iv wr => ∃ (m : Nat) (vo : Value), vo = ov ∧ m ≤ ls.length ∧ dv = .int .u64 (((ordTo (waitSet ls) ls.length m).2 : Nat) : Int) ∧ iv = .int .i64 (m : Int) ∧ Hid (OwnI wr w.heap.size vo (ordTo (waitSet ls) ls.length m).1) ∧ Hid (Below w.heap.size w wr)) (fun _ _ iv _ => ls.length - (intOf iv).toNat)
    case atStart => exact ⟨0, _, rfl, by omega, rfl, rfl, Lib.hid (nilI _ _), B1⟩
    case round =>
      clear B1
      obtain ⟨m, vo, rfl, hm, rfl, rfl, OO, BW⟩ := hrel
      by_cases hlt : m < ls.length
      rotate_left
      · obtain rfl : m = ls.length := by omega
        have F := Lib.hid (R.out ▸ OO.out)
        go_wp2
        go_ret
        exact ⟨_, rfl, F.out, BW.out⟩
      have hm0 : (0 : Int) ≤ (m : Int) := by omega
      have hm1 : (m : Int) < (ls.length : Int) := by omega
      obtain ⟨P, hx⟩ := PR.out m (by omega)
      obtain ⟨p, hp, hnx, -⟩ := hx hlt
      have hdl : (ordTo (waitSet ls) ls.length m).2 < 2 ^ 62 := by have := small_of P.low; have := PW.out; omega
      have NX := Lib.hid (show ordTo (waitSet ls) ls.length (m + 1) = ((ordTo (waitSet ls) ls.length m).1 ++ [(p : Int)], (ordTo (waitSet ls) ls.length m).2 ||| 1 <<< p) by rw [OM.out, hnx, Int.toNat_natCast])
      have HP := Lib.hid (show ∃ t, possTo ls (ordTo (waitSet ls) ls.length m).2 ls.length = (p : Int) :: t by
        rcases PC.out m (by omega) with ⟨h1, _⟩ | ⟨_, t, h2⟩
        · omega
        · exact ⟨t, by rw [h2, hnx]⟩)
      have hol := OL.out m
      clear P hx hnx
      generalize (ordTo (waitSet ls) ls.length m).2 = D at HP NX hdl ⊢
      generalize (ordTo (waitSet ls) ls.length m).1 = us at OO NX hol
      obtain ⟨t, ht⟩ := HP.out
      have SW := Lib.hid (fun W => (setWith D p (by omega) hdl W).mono fun e w' h => (show _ ∧ W = w' from ⟨h.1, h.2.symm⟩))
      have N1 := Lib.hid (show (ordTo (waitSet ls) ls.length (m + 1)).1 = us ++ [(p : Int)] by rw [NX.out])
      have N2 := Lib.hid (show (ordTo (waitSet ls) ls.length (m + 1)).2 = D ||| 1 <<< p by rw [NX.out])
      have PP := Lib.hid (CP.out wr (O.out.below BW.out) D hdl)
      rw [ht] at PP
      clear HP ht NX
      generalize D ||| 1 <<< p = E at SW N2
      go_wp2_with fail
      refine PP.out.mono ?_
      rintro e w2 ⟨v2, rfl, o2, b2⟩
      obtain ⟨g2, c2, rfl, -, -, z0, -⟩ := o2.spot (k := 0) (by simp)
      simp only [List.getElem_cons_zero] at z0
      have hlen : (0 : Int) < (((p : Int) :: t).length : Int) := by simp <;> omega
      have B2 := Lib.hid (BW.out.trans (b2.mono BW.out.size))
      have O2 := Lib.hid (OO.out.below b2)
      have hbs := B2.out.size
      have ON := Lib.hid (oneI w2 w2.heap.size (p : Int) (Nat.le_refl _))
      clear o2 b2 OO BW
      generalize ((p : Int) :: t).length = tl at hlen ⊢
      go_wp2_with (first | (go_at_call 36; refine (SW.out _).mono ?_; rintro e w' ⟨rfl, rfl⟩) | (at_builtin; refine wpList_rowsI rfl (.tmp 18) (.tmp 20) rfl w.heap.size w2.heap.size _ _ us [(p : Int)] rfl rfl (O2.out.alloc _) ON.out ?_ ?_ ?_; (simp <;> omega); (simp <;> omega); intro v3 w3 o3 g3 hat3; have B3 := Lib.hid (madeR (B2.out.alloc hbs _) (by simp; omega) (O2.out.alloc _) g3); have O3 : Hid (OwnI w3 w.heap.size v3 (ordTo (waitSet ls) ls.length (m + 1)).1) := Lib.hid (N1.out ▸ o3); clear o3 g3 hat3))
      exact ⟨⟨m + 1, v3, rfl, by omega, by rw [N2.out], by go_num, O3, B3⟩, by simp [intOf] <;> omega⟩
end Go.Proofs.Ytbgogcobkiaejab
