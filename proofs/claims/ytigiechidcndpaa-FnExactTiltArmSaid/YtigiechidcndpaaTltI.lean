/- The contract of impl.TiltArm. Condition: the arms and the cords lie in rows of their own. -/
import Derived.Test.YtigiechidcndpaaTltS
import Derived.Test.YtigiechidcndpaaCtlI
import Derived.Test.YtigiechidcndpaaCopK
namespace Go.Proofs.Ytigiechidcndpaa
set_option linter.unusedVariables false
set_option linter.unusedSimpArgs false
open Go.RowKit

theorem armsB_iff {zs : List Int} : armsB zs = true ↔ zs.length ≤ 8 ∧ ∀ k (hk : k < zs.length), armB zs[k] = true := by
  unfold armsB
  rw [Bool.and_eq_true, decide_eq_true_eq, List.all_eq_true]
  refine and_congr Iff.rfl ⟨fun h k hk => h _ (List.getElem_mem hk), fun h x hx => ?_⟩
  obtain ⟨k, hk, rfl⟩ := List.getElem_of_mem hx
  exact h k hk
/-- The arms behind the program's two changes. -/
def twice (zs : List Int) (p q : Nat) (n : Int) : List Int := (zs.set p (zs.getD p 0 + n)).set q ((zs.set p (zs.getD p 0 + n)).getD q 0 - n)
theorem twice_len (zs : List Int) (p q : Nat) (n : Int) : (twice zs p q n).length = zs.length := by simp [twice]
theorem twice_self {zs : List Int} {p : Nat} {n : Int} (hp : p < zs.length) : twice zs p p n = zs := by
  unfold twice
  have e : (zs.set p (zs.getD p 0 + n)).getD p 0 = zs.getD p 0 + n := by simp [hp]
  rw [e, List.set_set, show zs.getD p 0 + n - n = zs.getD p 0 by omega, List.getD_eq_getElem?_getD, List.getElem?_eq_getElem hp]
  simp
theorem twice_apart {zs : List Int} {p q : Nat} {n : Int} (hp : p < zs.length) (hq : q < zs.length) (h : q ≠ p) : twice zs p q n = (zs.set p (zs[p] + n)).set q (zs[q] - n) := by
  unfold twice
  have e1 : zs.getD p 0 = zs[p] := by rw [List.getD_eq_getElem?_getD, List.getElem?_eq_getElem hp]; rfl
  have e : (zs.set p (zs.getD p 0 + n)).getD q 0 = zs[q] := by
    rw [List.getD_eq_getElem?_getD, List.getElem?_set_ne (Ne.symm h), List.getElem?_eq_getElem hq]; rfl
  rw [e, e1]
theorem twice_fits {zs : List Int} {p q : Nat} {n : Int} (hz : armsB zs = true) (hp : p < zs.length) (hq : q < zs.length) (h : q ≠ p) : armsB (twice zs p q n) = (armB (zs[p] + n) && armB (zs[q] - n)) := by
  rw [twice_apart hp hq h, Bool.eq_iff_iff, armsB_iff, Bool.and_eq_true]
  obtain ⟨h8, hz⟩ := armsB_iff.1 hz
  refine ⟨fun ⟨_, h1⟩ => ⟨?_, ?_⟩, fun ⟨h1, h2⟩ => ⟨by simpa using h8, fun k hk => ?_⟩⟩
  · have := h1 p (by simpa using hp)
    rwa [List.getElem_set_ne h, List.getElem_set_self] at this
  · have := h1 q (by simpa using hq)
    rwa [List.getElem_set_self] at this
  · by_cases e : q = k
    · subst e
      rw [List.getElem_set_self]
      exact h2
    · rw [List.getElem_set_ne e]
      by_cases e' : p = k
      · subst e'
        rw [List.getElem_set_self]
        exact h1
      · rw [List.getElem_set_ne e']
        exact hz k (by simpa using hk)
/-- What the program looks at is what the document asks. -/
theorem twice_ok {zs : List Int} {p q : Nat} {n : Int} (hz : armsB zs = true) (hp : p < zs.length) (hq : (zs.length : Int) - 1 - (p : Int) = (q : Int)) (hn : inB n (-50) 50 = true) : tiltOk zs (p : Int) n = armsB (twice zs p q n) := by
  have hqz : q < zs.length := by omega
  have h8 := (armsB_iff.1 hz).1
  have TH : tiltHead zs (p : Int) n = true := by simp only [tiltHead, hn, decide_eq_true h8, inB_yes (v := (p : Int)) (lo := 0) (hi := (zs.length : Int) - 1) (by omega)]; rfl
  have HA : zs.all armB = true := by unfold armsB at hz; simp only [Bool.and_eq_true] at hz; exact hz.2
  by_cases h : q = p
  · have S1 : tiltSelf zs (p : Int) = true := by unfold tiltSelf; rw [hq, h]; exact decide_eq_true rfl
    rw [h, twice_self hp, hz]
    unfold tiltOk
    rw [TH, HA, S1]
    rfl
  · have S1 : tiltSelf zs (p : Int) = false := by unfold tiltSelf; rw [hq]; exact decide_eq_false (by omega)
    rw [twice_fits hz hp hqz h]
    unfold tiltOk
    rw [TH, HA, S1]
    unfold tiltFits
    rw [hq]
    simp [hp, hqz, armB]
theorem twice_zs {zs : List Int} {p q : Nat} {n : Int} (hp : p < zs.length) (hq : (zs.length : Int) - 1 - (p : Int) = (q : Int)) (hok : tiltOk zs (p : Int) n = true) : tiltZs zs (p : Int) n = twice zs p q n := by
  have hqz : q < zs.length := by omega
  by_cases h : q = p
  · have S1 : tiltSelf zs (p : Int) = true := by unfold tiltSelf; rw [hq, h]; exact decide_eq_true rfl
    rw [h, twice_self hp]
    unfold tiltZs
    rw [if_neg (by simp [S1])]
  · have S1 : tiltSelf zs (p : Int) = false := by unfold tiltSelf; rw [hq]; exact decide_eq_false (by omega)
    rw [twice_apart hp hqz h]
    unfold tiltZs
    rw [if_pos ⟨hok, S1⟩, hq]
    simp [hp, hqz]

theorem stored0 {w w3 : World} {a : Addr} {u : Value} (h : w3 = w.setCell a u) :
    (∀ p v, a ≠ p → w.cell? p = some v → w3.cell? p = some v) ∧ (∀ p, w.frozen? p = false → w3.frozen? p = false) ∧ ∀ B w0, Below B w0 w → B ≤ a.block → Below B w0 w3 := by
  subst h
  exact ⟨fun p v hp hv => (World.cell?_setCell_other _ _ _ _ hp).trans hv, fun p hp => by simpa using hp, fun B w0 hb hB => hb.setCell hB u⟩

set_option maxRecDepth 100000 in
set_option maxHeartbeats 3200000 in
theorem implTilt (H i n : Int) (va vc : Value) (zs : List Int) (cs : List Lb) (b : Nat) (w : World) (hown : OwnK w b va vc zs cs) (hz : zs.length ≤ 2000000) (hc : cs.length ≤ 2000000) :
    Calls Try.prog 17 #[ctlV H va vc, .int .i64 i, .int .i64 n] w (PairK w H (tiltZs zs i n) cs (tiltOk zs i n)) := by
  have CC := Lib.hid (fun W h => copyControl_any H va vc zs cs b W h hz hc)
  obtain ⟨A, a, C, c, rfl, rfl⟩ := hown.slice
  have C0 := Lib.hid (fun v lo hi W => (inRange_any v lo hi W).mono fun e w' h => (show _ ∧ W = w' from ⟨h.1, h.2.symm⟩))
  have CA := Lib.hid (fun W h => (armsFit_any (.slice A zs.length a) zs b W h hz).mono fun e w' h => (show _ ∧ W = w' from ⟨h.1, h.2.symm⟩))
  have CH := Lib.hid (fun W => hasArm_any H A zs.length a (.slice C cs.length c) i W ⟨_, _, _, rfl⟩ hz)
  have GA := Lib.hid hown.ltB
  have KF := Lib.hid (show ∀ W, Below (w.heap.size + 2) ((w.alloc (.cells #[.int .i64 H, .slice A zs.length a, .slice C cs.length c] 27)).alloc (.cells #[.int .i64 0, .slice none 0 0, .slice none 0 0] 27)) W →
      (W.cell? ⟨w.heap.size, 0, none⟩ = some (.int .i64 H) ∧ W.cell? ⟨w.heap.size, 1, none⟩ = some (.slice A zs.length a) ∧ W.cell? ⟨w.heap.size, 2, none⟩ = some (.slice C cs.length c)) ∧
        (W.cell? ⟨w.heap.size + 1, 0, none⟩ = some (.int .i64 0) ∧ W.cell? ⟨w.heap.size + 1, 1, none⟩ = some (.slice none 0 0) ∧ W.cell? ⟨w.heap.size + 1, 2, none⟩ = some (.slice none 0 0) ∧ W.frozen? ⟨w.heap.size + 1, 0, none⟩ = false ∧ W.frozen? ⟨w.heap.size + 1, 1, none⟩ = false ∧ W.frozen? ⟨w.heap.size + 1, 2, none⟩ = false) ∧
          OwnK W b (.slice A zs.length a) (.slice C cs.length c) zs cs ∧ Below w.heap.size w W from fun W hb => by
    have x := ((boxV_new w [.int .i64 H, .slice A zs.length a, .slice C cs.length c] 27).alloc (.cells #[.int .i64 0, .slice none 0 0, .slice none 0 0] 27)).below (hb.mono (by simp))
    exact ⟨⟨x 0 _ rfl, x 1 _ rfl, x 2 _ rfl⟩, newBox3 (hb.mono (by simp)), ((hown.alloc _).alloc _).below (hb.mono (by simp)), (((Below.refl w.heap.size w).alloc (Nat.le_refl _) _).alloc (by simp) _).trans (hb.mono (by omega))⟩)
  clear hown
  unfold ctlV at CC CH ⊢
  cases g1 : hasB zs.length i with
  | false =>
    rw [g1] at CH
    have R := Lib.hid (show tiltOk zs i n = false from tilt_head_no (by unfold hasB at g1; simp [tiltHead, g1]))
    have R2 := Lib.hid (tilt_no R.out)
    go_enter Try.func17, Try.ntmps17
    go_wp2_with (first | (go_at_call 40; refine (CH.out _).mono ?_; rintro e w1 ⟨rfl, b1⟩; have B1 := Lib.hid (show Below (w.heap.size + 2) ((w.alloc (.cells #[.int .i64 H, .slice A zs.length a, .slice C cs.length c] 27)).alloc (.cells #[.int .i64 0, .slice none 0 0, .slice none 0 0] 27)) w1 from b1.mono (by simp)); have F1 := Lib.hid (KF.out _ B1.out); obtain ⟨x0, x1, x2⟩ := F1.out.1; clear b1) | (go_at_call 34; refine (C0.out _ _ _ _).mono ?_; rintro e w' ⟨rfl, rfl⟩) | (go_at_call 38; refine (CA.out _ F1.out.2.2.1.1).mono ?_; rintro e w' ⟨rfl, rfl⟩) | (go_at_call 36; refine (CC.out _ F1.out.2.2.1).mono ?_; rintro e w2 ⟨va, vc, rfl, o2, b2⟩; obtain ⟨A2, a2, C2, c2, rfl, rfl⟩ := o2.slice; have z1 := B1.out.size; simp only [World.size_alloc] at z1; have B2 := Lib.hid (B1.out.trans (b2.mono z1)); have F2 := Lib.hid (KF.out _ B2.out); have K2 := Lib.hid (o2.mono z1); obtain ⟨x0, x1, x2⟩ := F2.out.1; obtain ⟨d0, d1, d2, f0, f1, f2⟩ := F2.out.2.1; clear o2 b2; unfold ctlV))
    have BW := Lib.hid F2.out.2.2.2
    obtain ⟨k0, k1, k2⟩ := cells_set3 (g := w.heap.size + 1) (u := .int .i64 H) (v := .slice A2 zs.length a2) (x := .slice C2 cs.length c2) d0 d1 d2
    refine bodyPost_ret (v := .tuple #[ctlV H (.slice A2 zs.length a2) (.slice C2 cs.length c2), .bool false]) (by simp [results, Try.results17, go_sem, k0, k1, k2, ctlV]) rfl ⟨_, _, by rw [R.out], by rw [R2.out]; exact pairK_done K2.out BW.out _ _ _⟩
  | true =>
  rw [g1] at CH
  cases g2 : inB n (-50) 50 with
  | false =>
    have R := Lib.hid (show tiltOk zs i n = false from tilt_head_no (by simp [tiltHead, g2]))
    have R2 := Lib.hid (tilt_no R.out)
    go_enter Try.func17, Try.ntmps17
    go_wp2_with (first | (go_at_call 40; refine (CH.out _).mono ?_; rintro e w1 ⟨rfl, b1⟩; have B1 := Lib.hid (show Below (w.heap.size + 2) ((w.alloc (.cells #[.int .i64 H, .slice A zs.length a, .slice C cs.length c] 27)).alloc (.cells #[.int .i64 0, .slice none 0 0, .slice none 0 0] 27)) w1 from b1.mono (by simp)); have F1 := Lib.hid (KF.out _ B1.out); obtain ⟨x0, x1, x2⟩ := F1.out.1; clear b1) | (go_at_call 34; refine (C0.out _ _ _ _).mono ?_; rintro e w' ⟨rfl, rfl⟩) | (go_at_call 38; refine (CA.out _ F1.out.2.2.1.1).mono ?_; rintro e w' ⟨rfl, rfl⟩) | (go_at_call 36; refine (CC.out _ F1.out.2.2.1).mono ?_; rintro e w2 ⟨va, vc, rfl, o2, b2⟩; obtain ⟨A2, a2, C2, c2, rfl, rfl⟩ := o2.slice; have z1 := B1.out.size; simp only [World.size_alloc] at z1; have B2 := Lib.hid (B1.out.trans (b2.mono z1)); have F2 := Lib.hid (KF.out _ B2.out); have K2 := Lib.hid (o2.mono z1); obtain ⟨x0, x1, x2⟩ := F2.out.1; obtain ⟨d0, d1, d2, f0, f1, f2⟩ := F2.out.2.1; clear o2 b2; unfold ctlV))
    have BW := Lib.hid F2.out.2.2.2
    obtain ⟨k0, k1, k2⟩ := cells_set3 (g := w.heap.size + 1) (u := .int .i64 H) (v := .slice A2 zs.length a2) (x := .slice C2 cs.length c2) d0 d1 d2
    refine bodyPost_ret (v := .tuple #[ctlV H (.slice A2 zs.length a2) (.slice C2 cs.length c2), .bool false]) (by simp [results, Try.results17, go_sem, k0, k1, k2, ctlV]) rfl ⟨_, _, by rw [R.out], by rw [R2.out]; exact pairK_done K2.out BW.out _ _ _⟩
  | true =>
  cases g3 : armsB zs with
  | false =>
    rw [g3] at CA
    have R := Lib.hid (show tiltOk zs i n = false from (by
      unfold armsB at g3
      unfold tiltOk tiltHead
      by_cases h8 : zs.length ≤ 8
      · rw [decide_eq_true h8, Bool.true_and] at g3
        rw [g3]
        simp
      · rw [decide_eq_false h8]
        rfl))
    have R2 := Lib.hid (tilt_no R.out)
    go_enter Try.func17, Try.ntmps17
    go_wp2_with (first | (go_at_call 40; refine (CH.out _).mono ?_; rintro e w1 ⟨rfl, b1⟩; have B1 := Lib.hid (show Below (w.heap.size + 2) ((w.alloc (.cells #[.int .i64 H, .slice A zs.length a, .slice C cs.length c] 27)).alloc (.cells #[.int .i64 0, .slice none 0 0, .slice none 0 0] 27)) w1 from b1.mono (by simp)); have F1 := Lib.hid (KF.out _ B1.out); obtain ⟨x0, x1, x2⟩ := F1.out.1; clear b1) | (go_at_call 34; refine (C0.out _ _ _ _).mono ?_; rintro e w' ⟨rfl, rfl⟩) | (go_at_call 38; refine (CA.out _ F1.out.2.2.1.1).mono ?_; rintro e w' ⟨rfl, rfl⟩) | (go_at_call 36; refine (CC.out _ F1.out.2.2.1).mono ?_; rintro e w2 ⟨va, vc, rfl, o2, b2⟩; obtain ⟨A2, a2, C2, c2, rfl, rfl⟩ := o2.slice; have z1 := B1.out.size; simp only [World.size_alloc] at z1; have B2 := Lib.hid (B1.out.trans (b2.mono z1)); have F2 := Lib.hid (KF.out _ B2.out); have K2 := Lib.hid (o2.mono z1); obtain ⟨x0, x1, x2⟩ := F2.out.1; obtain ⟨d0, d1, d2, f0, f1, f2⟩ := F2.out.2.1; clear o2 b2; unfold ctlV))
    have BW := Lib.hid F2.out.2.2.2
    obtain ⟨k0, k1, k2⟩ := cells_set3 (g := w.heap.size + 1) (u := .int .i64 H) (v := .slice A2 zs.length a2) (x := .slice C2 cs.length c2) d0 d1 d2
    refine bodyPost_ret (v := .tuple #[ctlV H (.slice A2 zs.length a2) (.slice C2 cs.length c2), .bool false]) (by simp [results, Try.results17, go_sem, k0, k1, k2, ctlV]) rfl ⟨_, _, by rw [R.out], by rw [R2.out]; exact pairK_done K2.out BW.out _ _ _⟩
  | true =>
  rw [g3] at CA
  go_enter Try.func17, Try.ntmps17
  go_upto_region 4 with (first | (go_at_call 40; refine (CH.out _).mono ?_; rintro e w1 ⟨rfl, b1⟩; have B1 := Lib.hid (show Below (w.heap.size + 2) ((w.alloc (.cells #[.int .i64 H, .slice A zs.length a, .slice C cs.length c] 27)).alloc (.cells #[.int .i64 0, .slice none 0 0, .slice none 0 0] 27)) w1 from b1.mono (by simp)); have F1 := Lib.hid (KF.out _ B1.out); obtain ⟨x0, x1, x2⟩ := F1.out.1; clear b1) | (go_at_call 34; refine (C0.out _ _ _ _).mono ?_; rintro e w' ⟨rfl, rfl⟩) | (go_at_call 38; refine (CA.out _ F1.out.2.2.1.1).mono ?_; rintro e w' ⟨rfl, rfl⟩) | (go_at_call 36; refine (CC.out _ F1.out.2.2.1).mono ?_; rintro e w2 ⟨va, vc, rfl, o2, b2⟩; obtain ⟨A2, a2, C2, c2, rfl, rfl⟩ := o2.slice; have z1 := B1.out.size; simp only [World.size_alloc] at z1; have B2 := Lib.hid (B1.out.trans (b2.mono z1)); have F2 := Lib.hid (KF.out _ B2.out); have K2 := Lib.hid (o2.mono z1); obtain ⟨x0, x1, x2⟩ := F2.out.1; obtain ⟨d0, d1, d2, f0, f1, f2⟩ := F2.out.2.1; clear o2 b2; unfold ctlV))
  generalize hw : w2.alloc (.cells #[.int .i64 H, .slice A2 zs.length a2, .slice C2 cs.length c2] 27) = w3
  replace hw := hw.symm
  obtain ⟨⟨p0, p1, p2⟩, ⟨q0, q1, q2⟩, b3, z3⟩ := fresh3 hw
  have z2 := B2.out.size
  simp only [World.size_alloc] at z2
  have B3 := Lib.hid (B2.out.trans (b3.mono z2))
  have K3 := Lib.hid (K2.out.below b3)
  have lt3 := Lib.hid (fun k hk => (K2.out.ltB k hk).2)
  clear hw b3 K2 B2 B1 F1 F2 z1 x0 x1 x2 d0 d1 d2 f0 f1 f2
  generalize w2.heap.size = g at z2 p0 p1 p2 q0 q1 q2 z3 lt3 ⊢
  have hin : 0 ≤ i ∧ i ≤ (zs.length : Int) - 1 := by simpa [hasB, inB] using g1
  have hn : -50 ≤ n ∧ n ≤ 50 := by simpa [inB] using g2
  obtain ⟨p, rfl⟩ := Int.eq_ofNat_of_zero_le hin.1
  obtain ⟨q, hq⟩ := Int.eq_ofNat_of_zero_le (show 0 ≤ (zs.length : Int) - 1 - (p : Int) by omega)
  have hpz : p < zs.length := by omega
  have hqz : q < zs.length := by omega
  have h8 := (armsB_iff.1 g3).1
  have TO := Lib.hid (twice_ok g3 hpz hq g2)
  have TZ := Lib.hid (fun h => twice_zs (n := n) hpz hq h)
  have rp : -50 ≤ zs[p] ∧ zs[p] ≤ 50 := by simpa [armB, inB] using (armsB_iff.1 g3).2 p hpz
  have rq : -50 ≤ zs[q] ∧ zs[q] ≤ 50 := by simpa [armB, inB] using (armsB_iff.1 g3).2 q hqz
  have CO := Lib.hid (fun W => hq ▸ opposite_any H A zs.length a (.slice C cs.length c) (p : Int) W ⟨_, _, _, rfl⟩ hz hin.1 (by omega))
  unfold ctlV at CO
  obtain ⟨go, _, e1, hgo, lgo, y0, fy0⟩ := K3.out.1.spot hpz
  simp only [Value.slice.injEq] at e1
  obtain ⟨rfl, em, rfl⟩ := e1
  clear em
  have ggo : go < g := lt3.out go (.inl rfl)
  obtain ⟨x, hx⟩ : ∃ x, zs.getD p 0 = x := ⟨_, rfl⟩
  have hzp : zs[p] = x := by rw [← hx, List.getD_eq_getElem?_getD, List.getElem?_eq_getElem hpz]; rfl
  rw [hzp] at y0 rp
  have hp0 : (0 : Int) ≤ (p : Int) := by omega
  have hp1 : (p : Int) < (zs.length : Int) := by omega
  have hq0 : (0 : Int) ≤ (q : Int) := by omega
  have hq1 : (q : Int) < (zs.length : Int) := by omega
  have ea : IntKind.i64.wrap (x + n) = x + n := IntWalk.i64_in _ (by omega)
  have n1 : ¬ go = g := by omega
  have n1' : ¬ g = go := by omega
  have n2 : ¬ go = w.heap.size + 1 := by omega
  have n2' : ¬ w.heap.size + 1 = go := by omega
  have n3 : ¬ go = w.heap.size := by omega
  have n3' : ¬ w.heap.size = go := by omega
  have n6 : ¬ g = w.heap.size + 1 := by omega
  have n6' : ¬ w.heap.size + 1 = g := by omega
  go_wp2_with fail
  have K4 := Lib.hid (K3.out.store rfl p (x + n))
  generalize hw4 : w3.setCell ⟨go, p, none⟩ (.int .i64 (x + n)) = w4 at K4 ⊢
  obtain ⟨T1, T2, T3⟩ := stored0 hw4.symm
  have B4 := Lib.hid (T3 _ _ B3.out (show w.heap.size + 2 ≤ go by omega))
  have P4 := Lib.hid (show w4.cell? ⟨g, 0, none⟩ = some (.int .i64 H) ∧ w4.cell? ⟨g, 1, none⟩ = some (.slice (some ⟨go, 0, none⟩) zs.length a2) ∧ w4.cell? ⟨g, 2, none⟩ = some (.slice C2 cs.length c2) from ⟨T1 _ _ (by simp [n1]) p0, T1 _ _ (by simp [n1]) p1, T1 _ _ (by simp [n1]) p2⟩)
  have LL : (zs.set p (x + n)).length = zs.length := List.length_set
  have hyr : -100 ≤ (zs.set p (x + n))[q]'(by omega) ∧ (zs.set p (x + n))[q]'(by omega) ≤ 100 := by
    rw [List.getElem_set]
    split <;> omega
  have TW := Lib.hid (show twice zs p q n = (zs.set p (x + n)).set q ((zs.set p (x + n))[q]'(by omega) - n) by
    unfold twice
    rw [hx]
    rw [List.getD_eq_getElem?_getD, List.getElem?_eq_getElem (by omega)]
    rfl)
  have KG := Lib.hid (show ∀ W, Below w4.heap.size w4 W → (W.cell? ⟨g, 1, none⟩ = some (.slice (some ⟨go, 0, none⟩) zs.length a2) ∧ W.cell? ⟨go, q, none⟩ = some (.int .i64 ((zs.set p (x + n))[q]'(by omega))) ∧ W.frozen? ⟨go, q, none⟩ = false) ∧
      (W.cell? ⟨w.heap.size, 0, none⟩ = some (.int .i64 H) ∧ W.cell? ⟨w.heap.size, 1, none⟩ = some (.slice A zs.length a) ∧ W.cell? ⟨w.heap.size, 2, none⟩ = some (.slice C cs.length c)) ∧
        OwnK W (w.heap.size + 2) (.slice (some ⟨go, 0, none⟩) zs.length a2) (.slice C2 cs.length c2) (zs.set p (x + n)) cs ∧ Below (w.heap.size + 2) ((w.alloc (.cells #[.int .i64 H, .slice A zs.length a, .slice C cs.length c] 27)).alloc (.cells #[.int .i64 0, .slice none 0 0, .slice none 0 0] 27)) W ∧
          (W.cell? ⟨g, 0, none⟩ = some (.int .i64 H) ∧ W.cell? ⟨g, 2, none⟩ = some (.slice C2 cs.length c2)) from fun W hb => by
    have KW := K4.out.below hb
    obtain ⟨_, _, e1, _, _, y1, fy1⟩ := KW.1.spot (k := q) (by omega)
    simp only [Value.slice.injEq, Option.some.injEq, Addr.mk.injEq] at e1
    obtain ⟨⟨rfl, _⟩, em, ec⟩ := e1
    have BB := B4.out.trans (hb.mono (by have := B4.out.size; simp only [World.size_alloc] at this; omega))
    exact ⟨⟨cell_below P4.out.2.1 hb, y1, fy1⟩, (KF.out W BB).1, KW, BB, cell_below P4.out.1 hb, cell_below P4.out.2.2 hb⟩)
  clear T1 T2 T3 hw4 p0 p1 p2 q0 q1 q2 z3 y0 fy0 K3 B3 lgo x0 x1 x2
  generalize hy : (zs.set p (x + n))[q]'(by omega) = y at KG hyr TW
  have eb : IntKind.i64.wrap (y - n) = y - n := IntWalk.i64_in _ (by omega)
  obtain ⟨⟨p1, y1, fy1⟩, ⟨x0, x1, x2⟩, -, -, -⟩ := KG.out w4 (Below.refl _ _)
  go_region_with (go_at_call 41; refine (CO.out _).mono ?_; rintro e w5 ⟨rfl, b5⟩; replace b5 := undrew b5; have G5 := Lib.hid (KG.out _ (b5.mono (by simp))); clear b5; obtain ⟨⟨p15, y15, fy15⟩, ⟨x05, x15, x25⟩, -, -, -⟩ := G5.out)
  all_goals
    have K7 := Lib.hid (G5.out.2.2.1.store LL.symm q (y - n))
    rw [← TW.out] at K7
    generalize hw7 : w5.setCell ⟨go, q, none⟩ (.int .i64 (y - n)) = w7 at K7 ⊢
    obtain ⟨T1, T2, T3⟩ := stored0 hw7.symm
    have B7 := Lib.hid (T3 _ _ G5.out.2.2.2.1 (show w.heap.size + 2 ≤ go by omega))
    have q0 := T1 _ _ (by simp [n1]) G5.out.2.2.2.2.1
    have q1 := T1 _ _ (by simp [n1]) p15
    have q2 := T1 _ _ (by simp [n1]) G5.out.2.2.2.2.2
    have F7 := Lib.hid (KF.out _ B7.out)
    obtain ⟨x0, x1, x2⟩ := F7.out.1
    obtain ⟨d0, d1, d2, f0, f1, f2⟩ := F7.out.2.1
    have TL := twice_len zs p q n
    have CT := Lib.hid (fun W h => (armsFit_any (.slice (some ⟨go, 0, none⟩) zs.length a2) (twice zs p q n) (w.heap.size + 2) W h (by omega)).mono fun e w' h => (show _ ∧ W = w' from ⟨h.1, h.2.symm⟩))
    clear T1 T2 T3 hw7 x05 x15 x25 y15 fy15 p15 y1 fy1 p1
    cases g4 : armsB (twice zs p q n) with
    | false =>
      have R := Lib.hid (show tiltOk zs (p : Int) n = false from TO.out.trans g4)
      have R2 := Lib.hid (tilt_no R.out)
      rw [g4] at CT
      clear d0 d1 d2 f0 f1 f2
      go_wp2_with (first | (go_at_call 38; refine (CT.out _ K7.out.1).mono ?_; rintro e w' ⟨rfl, rfl⟩) | (go_at_call 36; refine (CC.out _ F7.out.2.2.1).mono ?_; rintro e w8 ⟨va, vc, rfl, o8, b8⟩; obtain ⟨A8, a8, C8, c8, rfl, rfl⟩ := o8.slice; have z7 := B7.out.size; simp only [World.size_alloc] at z7; have B8 := Lib.hid (B7.out.trans (b8.mono z7)); have F8 := Lib.hid (KF.out _ B8.out); have K8 := Lib.hid (o8.mono z7); obtain ⟨d0, d1, d2, f0, f1, f2⟩ := F8.out.2.1; clear o8 b8; unfold ctlV))
      have BW := Lib.hid F8.out.2.2.2
      obtain ⟨k0, k1, k2⟩ := cells_set3 (g := w.heap.size + 1) (u := .int .i64 H) (v := .slice A8 zs.length a8) (x := .slice C8 cs.length c8) d0 d1 d2
      refine bodyPost_ret (v := .tuple #[ctlV H (.slice A8 zs.length a8) (.slice C8 cs.length c8), .bool false]) (by simp [results, Try.results17, go_sem, k0, k1, k2, ctlV]) rfl ⟨_, _, by rw [R.out], by rw [R2.out]; exact pairK_done K8.out BW.out _ _ _⟩
    | true =>
      have R := Lib.hid (show tiltOk zs (p : Int) n = true from TO.out.trans g4)
      have R2 := Lib.hid (TZ.out R.out)
      rw [g4] at CT
      have BW := Lib.hid F7.out.2.2.2
      go_wp2_with (go_at_call 38; refine (CT.out _ K7.out.1).mono ?_; rintro e w' ⟨rfl, rfl⟩)
      obtain ⟨k0, k1, k2⟩ := cells_set3 (g := w.heap.size + 1) (u := .int .i64 H) (v := .slice (some ⟨go, 0, none⟩) zs.length a2) (x := .slice C2 cs.length c2) d0 d1 d2
      refine bodyPost_ret (v := .tuple #[ctlV H (.slice (some ⟨go, 0, none⟩) zs.length a2) (.slice C2 cs.length c2), .bool true]) (by simp [results, Try.results17, go_sem, k0, k1, k2, ctlV]) rfl ⟨_, _, by rw [R.out], by rw [R2.out]; exact pairK_done K7.out BW.out _ _ _⟩
end Go.Proofs.Ytigiechidcndpaa
