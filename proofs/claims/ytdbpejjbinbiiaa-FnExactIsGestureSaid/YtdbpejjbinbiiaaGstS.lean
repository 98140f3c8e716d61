/- The contract of spec.IsGesture (made by gen_gest.py). Condition: the limbs and the poses lie in rows of their own. -/
import Derived.Test.YtdbpejjbinbiiaaGstM
import Derived.Test.YtdbpejjbinbiiaaRow2
import Derived.Test.YtdbpejjbinbiiaaStpS
import Derived.Test.YtdbpejjbinbiiaaPullS
import Derived.Deep.RegionHeld3
namespace Go.Proofs.Ytdbpejjbinbiiaa
set_option linter.unusedVariables false
set_option linter.unusedSimpArgs false
open Go.RowKit

set_option maxRecDepth 100000 in
set_option maxHeartbeats 3200000 in
theorem specGest (J : Int) (v vp : Value) (ls : List Lb) (pss : List (List Int)) (most : Int) (base b2 : Nat) (w : World) (hown : OwnL w base v ls) (hp : OwnR w b2 vp pss) (hll : ls.length ≤ 2000000) (hl : pss.length ≤ 2000000) (hr : ∀ r (h : r < pss.length), pss[r].length ≤ 2000000) :
    Calls Try.prog 25 #[bodyV J v, vp, .int .i64 most] w fun e w' => e = .returned (.bool (isGest J ls pss most)) ∧ Below w.heap.size w w' := by
  have CP := Lib.hid (fun vh hs W h1 h2 => specPose J v vh ls hs base b2 W h1 h2)
  have CS := Lib.hid (fun v1 v2 ps qs W h1 h2 hp hq => specStep v1 v2 ps qs b2 b2 W h1 h2 hp hq)
  have C0 := Lib.hid (fun v lo hi W => (l01In_any v lo hi W).mono fun e w' h => (show _ ∧ W = w' from ⟨h.1, h.2.symm⟩))
  have HR := Lib.hid hr
  obtain ⟨A, c, rfl⟩ := hown.slice
  obtain ⟨P, d, rfl⟩ := hp.slice
  have OWN := Lib.hid hown
  have HP := Lib.hid hp
  have BX := Lib.hid (box_facts (J := J) hown)
  have BA := Lib.hid ((Below.refl w.heap.size w).alloc (Nat.le_refl _) (.cells #[.int .i64 J, .slice A ls.length c] 26))
  clear hown hp hr
  unfold bodyV at CP ⊢
  cases c1 : inB (pss.length : Int) 1 20 with
  | false =>
    have R := Lib.hid (show isGest J ls pss most = false by unfold isGest; rw [c1]; rfl)
    go_enter Try.func25, Try.ntmps25
    go_wp2_with (go_at_call 49; refine (C0.out _ _ _ _).mono ?_; rintro e w' ⟨rfl, rfl⟩)
    go_ret
    exact ⟨by rw [R.out]; rfl, BA.out⟩
  | true =>
  cases c2 : inB most 0 4000 with
  | false =>
    have R := Lib.hid (show isGest J ls pss most = false by unfold isGest; rw [c1, c2]; rfl)
    go_enter Try.func25, Try.ntmps25
    go_wp2_with (go_at_call 49; refine (C0.out _ _ _ _).mono ?_; rintro e w' ⟨rfl, rfl⟩)
    go_ret
    exact ⟨by rw [R.out]; rfl, BA.out⟩
  | true =>
  have RY := Lib.hid (show gestTo J ls pss most pss.length = true → isGest J ls pss most = true from fun h => by unfold isGest; rw [c1, c2, h]; rfl)
  have hmr : 0 ≤ most ∧ most ≤ 4000 := by simpa [inB] using c2
  go_enter Try.func25, Try.ntmps25
  go_wp2_with (go_at_call 49; refine (C0.out _ _ _ _).mono ?_; rintro e w' ⟨rfl, rfl⟩)
  clear c1 c2
  go_loopw [7] (fun iv wr => ∃ k : Nat, k ≤ pss.length ∧ iv = .int .i64 (k : Int) ∧ Hid (Below (w.heap.size + 1) (w.alloc (.cells #[.int .i64 J, .slice A ls.length c] 26)) wr) ∧ Hid (gestTo J ls pss most k = true)) (fun iv _ => pss.length - (intOf iv).toNat)
  case atStart => exact ⟨0, by omega, rfl, Lib.hid (Below.refl _ _), rfl⟩
  case round =>
    obtain ⟨k, hk, rfl, HB, HG⟩ := hrel
    by_cases hlt : k < pss.length
    rotate_left
    · obtain rfl : k = pss.length := by omega
      have R := Lib.hid (RY.out HG.out)
      obtain ⟨-, -, -, bw⟩ := BX.out wr HB.out
      go_wp2
      go_ret
      exact ⟨by rw [R.out]; rfl, bw⟩
    have hk0 : (0 : Int) ≤ (k : Int) := by omega
    have hk1 : (k : Int) < (pss.length : Int) := by omega
    obtain ⟨x0, x1, ol, bw⟩ := BX.out wr HB.out
    obtain ⟨g, _, U, cu, f1, z0, _, oi⟩ := (HP.out.below bw).spot hlt
    simp only [Value.slice.injEq] at f1
    obtain ⟨rfl, em, rfl⟩ := f1
    clear em
    have hz := HR.out k hlt
    have hsz := HB.out.size
    simp only [World.size_alloc] at hsz
    have BAD := Lib.hid (fun hp => gest_no hlt (gest_bad (J := J) (ls := ls) (most := most) hlt hp))
    have MORE := Lib.hid (show gestAt J ls pss most k = true → gestTo J ls pss most (k + 1) = true from fun h => by rw [gestTo, HG.out, h]; rfl)
    have NO := Lib.hid (fun h => gest_no (J := J) (ls := ls) (most := most) hlt h)
    have BW := Lib.hid bw
    have OL := Lib.hid ol
    have OI := Lib.hid oi
    clear ol oi bw
    cases g1 : poseOk J ls pss[k] with
    | false =>
      have R := Lib.hid (BAD.out g1)
      clear BAD MORE NO
      generalize pss[k] = ps at z0 OI g1 hz
      have KF := Lib.hid (show ∀ W, Below wr.heap.size wr W → (W.cell? ⟨w.heap.size, 0, none⟩ = some (.int .i64 J) ∧ W.cell? ⟨w.heap.size, 1, none⟩ = some (.slice A ls.length c) ∧ W.cell? ⟨g, k, none⟩ = some (.slice U ps.length cu)) ∧ OwnL W base (.slice A ls.length c) ls ∧ OwnI W b2 (.slice U ps.length cu) ps ∧ Below w.heap.size w W ∧ Below (w.heap.size + 1) (w.alloc (.cells #[.int .i64 J, .slice A ls.length c] 26)) W from fun W hb => by
        have hw := HB.out.trans (hb.mono hsz)
        obtain ⟨y0, y1, oy, by_⟩ := BX.out W hw
        exact ⟨⟨y0, y1, cell_below z0 hb⟩, oy, OI.out.below hb, by_, hw⟩)
      go_wp2_with fail
      refine wp_region_held_drew (S := (fun W => W.cell? ⟨w.heap.size, 0, none⟩ = some (.int .i64 J) ∧ W.cell? ⟨w.heap.size, 1, none⟩ = some (.slice A ls.length c) ∧ W.cell? ⟨g, k, none⟩ = some (.slice U ps.length cu))) (by kernel_rfl) ⟨x0, x1, z0⟩ (fun hHeld => ?_)
      refine wpAnyH_take (i := 0) (v := .agg #[.int .i64 J, .slice A ls.length c]) rfl (by kernel_rfl) (by kernel_rfl) (by kernel_rfl) (fun _ _ _ h => h) (Or.inl ⟨by rfl, by intro W hSw; (try dsimp only at hSw); go_simp⟩) hHeld ?_
      try simp only [Act.put, List.getElem_toArray, List.getElem_cons_succ, List.getElem_cons_zero, List.setIfInBounds_toArray, List.set_cons_zero, List.set_cons_succ]
      refine wpAnyH_take (i := 1) (v := .slice (some ⟨g, 0, none⟩) pss.length d) rfl (by kernel_rfl) (by kernel_rfl) (by kernel_rfl) (fun _ _ _ h => h) (Or.inl ⟨by rfl, by intro W hSw; (try dsimp only at hSw); go_simp⟩) hHeld ?_
      try simp only [Act.put, List.getElem_toArray, List.getElem_cons_succ, List.getElem_cons_zero, List.setIfInBounds_toArray, List.set_cons_zero, List.set_cons_succ]
      refine wpAnyH_take (i := 2) (v := .int .i64 (k : Int)) rfl (by kernel_rfl) (by kernel_rfl) (by kernel_rfl) (fun _ _ _ h => h) (Or.inl ⟨by rfl, by intro W hSw; (try dsimp only at hSw); go_simp⟩) hHeld ?_
      try simp only [Act.put, List.getElem_toArray, List.getElem_cons_succ, List.getElem_cons_zero, List.setIfInBounds_toArray, List.set_cons_zero, List.set_cons_succ]
      refine wpAnyH_take (i := 3) (v := .pointer (some ⟨g, k, none⟩)) rfl (by kernel_rfl) (by kernel_rfl) (by kernel_rfl) (fun _ _ _ h => h) (Or.inl ⟨by rfl, by intro W hSw; (try dsimp only at hSw); go_simp⟩) hHeld ?_
      try simp only [Act.put, List.getElem_toArray, List.getElem_cons_succ, List.getElem_cons_zero, List.setIfInBounds_toArray, List.set_cons_zero, List.set_cons_succ]
      refine wpAnyH_take (i := 4) (v := .slice U ps.length cu) rfl (by kernel_rfl) (by kernel_rfl) (by kernel_rfl) (fun _ _ _ h => h) (Or.inl ⟨by rfl, by intro W hSw; (try dsimp only at hSw); go_simp⟩) hHeld ?_
      try simp only [Act.put, List.getElem_toArray, List.getElem_cons_succ, List.getElem_cons_zero, List.setIfInBounds_toArray, List.set_cons_zero, List.set_cons_succ]
      refine wpAnyH_ready (rs := [5]) (by kernel_rfl) (by simp) ?_
      refine AllReadyH.cons rfl (fun K hK => ?_) AllReadyH.nil
      go_simp
      refine (CP.out _ ps _ (OL.out.below (Below.refl _ _).drew) (OI.out.below (Below.refl _ _).drew)).mono ?_
      rintro e w3 ⟨rfl, b3⟩
      rw [g1]
      replace b3 := undrew b3
      have F3 := Lib.hid (KF.out _ b3)
      clear b3
      go_wp2_with fail
      refine hK.out _ _ F3.out.1 (fun hHeld => ?_)
      clear hK K
      try simp only [Act.put, List.getElem_toArray, List.getElem_cons_succ, List.getElem_cons_zero, List.setIfInBounds_toArray, List.set_cons_zero, List.set_cons_succ]
      refine wpAnyH_take (i := 6) (v := .bool true) rfl (by kernel_rfl) (by kernel_rfl) (by kernel_rfl) (fun _ _ _ h => h) (Or.inl ⟨by rfl, by intro W hSw; (try dsimp only at hSw); go_simp⟩) hHeld ?_
      try simp only [Act.put, List.getElem_toArray, List.getElem_cons_succ, List.getElem_cons_zero, List.setIfInBounds_toArray, List.set_cons_zero, List.set_cons_succ]
      refine wpAnyH_take (i := 7) (v := .bool true) rfl (by kernel_rfl) (by kernel_rfl) (by kernel_rfl) (fun _ _ _ h => h) (Or.inl ⟨by rfl, by intro W hSw; (try dsimp only at hSw); go_simp⟩) hHeld ?_
      try simp only [Act.put, List.getElem_toArray, List.getElem_cons_succ, List.getElem_cons_zero, List.setIfInBounds_toArray, List.set_cons_zero, List.set_cons_succ]
      refine wpAnyH_take (i := 8) (v := undef) rfl (by kernel_rfl) (by kernel_rfl) (by kernel_rfl) (fun _ _ _ h => h) (Or.inr ⟨by rfl, rfl⟩) hHeld ?_
      try simp only [Act.put, List.getElem_toArray, List.getElem_cons_succ, List.getElem_cons_zero, List.setIfInBounds_toArray, List.set_cons_zero, List.set_cons_succ]
      refine wpAnyH_take (i := 9) (v := undef) rfl (by kernel_rfl) (by kernel_rfl) (by kernel_rfl) (fun _ _ _ h => h) (Or.inr ⟨by rfl, rfl⟩) hHeld ?_
      try simp only [Act.put, List.getElem_toArray, List.getElem_cons_succ, List.getElem_cons_zero, List.setIfInBounds_toArray, List.set_cons_zero, List.set_cons_succ]
      refine wpAnyH_take (i := 10) (v := undef) rfl (by kernel_rfl) (by kernel_rfl) (by kernel_rfl) (fun _ _ _ h => h) (Or.inr ⟨by rfl, rfl⟩) hHeld ?_
      try simp only [Act.put, List.getElem_toArray, List.getElem_cons_succ, List.getElem_cons_zero, List.setIfInBounds_toArray, List.set_cons_zero, List.set_cons_succ]
      refine wpAnyH_take (i := 11) (v := undef) rfl (by kernel_rfl) (by kernel_rfl) (by kernel_rfl) (fun _ _ _ h => h) (Or.inr ⟨by rfl, rfl⟩) hHeld ?_
      try simp only [Act.put, List.getElem_toArray, List.getElem_cons_succ, List.getElem_cons_zero, List.setIfInBounds_toArray, List.set_cons_zero, List.set_cons_succ]
      refine wpAnyH_take (i := 12) (v := undef) rfl (by kernel_rfl) (by kernel_rfl) (by kernel_rfl) (fun _ _ _ h => h) (Or.inr ⟨by rfl, rfl⟩) hHeld ?_
      try simp only [Act.put, List.getElem_toArray, List.getElem_cons_succ, List.getElem_cons_zero, List.setIfInBounds_toArray, List.set_cons_zero, List.set_cons_succ]
      refine wpAnyH_take (i := 13) (v := undef) rfl (by kernel_rfl) (by kernel_rfl) (by kernel_rfl) (fun _ _ _ h => h) (Or.inr ⟨by rfl, rfl⟩) hHeld ?_
      try simp only [Act.put, List.getElem_toArray, List.getElem_cons_succ, List.getElem_cons_zero, List.setIfInBounds_toArray, List.set_cons_zero, List.set_cons_succ]
      refine wpAnyH_take (i := 14) (v := undef) rfl (by kernel_rfl) (by kernel_rfl) (by kernel_rfl) (fun _ _ _ h => h) (Or.inr ⟨by rfl, rfl⟩) hHeld ?_
      try simp only [Act.put, List.getElem_toArray, List.getElem_cons_succ, List.getElem_cons_zero, List.setIfInBounds_toArray, List.set_cons_zero, List.set_cons_succ]
      refine wpAnyH_take (i := 15) (v := undef) rfl (by kernel_rfl) (by kernel_rfl) (by kernel_rfl) (fun _ _ _ h => h) (Or.inr ⟨by rfl, rfl⟩) hHeld ?_
      try simp only [Act.put, List.getElem_toArray, List.getElem_cons_succ, List.getElem_cons_zero, List.setIfInBounds_toArray, List.set_cons_zero, List.set_cons_succ]
      refine wpAnyH_take (i := 16) (v := undef) rfl (by kernel_rfl) (by kernel_rfl) (by kernel_rfl) (fun _ _ _ h => h) (Or.inr ⟨by rfl, rfl⟩) hHeld ?_
      try simp only [Act.put, List.getElem_toArray, List.getElem_cons_succ, List.getElem_cons_zero, List.setIfInBounds_toArray, List.set_cons_zero, List.set_cons_succ]
      refine wpAnyH_take (i := 17) (v := undef) rfl (by kernel_rfl) (by kernel_rfl) (by kernel_rfl) (fun _ _ _ h => h) (Or.inr ⟨by rfl, rfl⟩) hHeld ?_
      try simp only [Act.put, List.getElem_toArray, List.getElem_cons_succ, List.getElem_cons_zero, List.setIfInBounds_toArray, List.set_cons_zero, List.set_cons_succ]
      refine wpAnyH_take (i := 18) (v := undef) rfl (by kernel_rfl) (by kernel_rfl) (by kernel_rfl) (fun _ _ _ h => h) (Or.inr ⟨by rfl, rfl⟩) hHeld ?_
      try simp only [Act.put, List.getElem_toArray, List.getElem_cons_succ, List.getElem_cons_zero, List.setIfInBounds_toArray, List.set_cons_zero, List.set_cons_succ]
      refine wpAnyH_take (i := 19) (v := undef) rfl (by kernel_rfl) (by kernel_rfl) (by kernel_rfl) (fun _ _ _ h => h) (Or.inr ⟨by rfl, rfl⟩) hHeld ?_
      try simp only [Act.put, List.getElem_toArray, List.getElem_cons_succ, List.getElem_cons_zero, List.setIfInBounds_toArray, List.set_cons_zero, List.set_cons_succ]
      refine wpAnyH_take (i := 20) (v := undef) rfl (by kernel_rfl) (by kernel_rfl) (by kernel_rfl) (fun _ _ _ h => h) (Or.inr ⟨by rfl, rfl⟩) hHeld ?_
      try simp only [Act.put, List.getElem_toArray, List.getElem_cons_succ, List.getElem_cons_zero, List.setIfInBounds_toArray, List.set_cons_zero, List.set_cons_succ]
      refine wpAnyH_take (i := 21) (v := undef) rfl (by kernel_rfl) (by kernel_rfl) (by kernel_rfl) (fun _ _ _ h => h) (Or.inr ⟨by rfl, rfl⟩) hHeld ?_
      try simp only [Act.put, List.getElem_toArray, List.getElem_cons_succ, List.getElem_cons_zero, List.setIfInBounds_toArray, List.set_cons_zero, List.set_cons_succ]
      refine wpAnyH_take (i := 22) (v := undef) rfl (by kernel_rfl) (by kernel_rfl) (by kernel_rfl) (fun _ _ _ h => h) (Or.inr ⟨by rfl, rfl⟩) hHeld ?_
      try simp only [Act.put, List.getElem_toArray, List.getElem_cons_succ, List.getElem_cons_zero, List.setIfInBounds_toArray, List.set_cons_zero, List.set_cons_succ]
      refine wpAnyH_take (i := 23) (v := undef) rfl (by kernel_rfl) (by kernel_rfl) (by kernel_rfl) (fun _ _ _ h => h) (Or.inr ⟨by rfl, rfl⟩) hHeld ?_
      try simp only [Act.put, List.getElem_toArray, List.getElem_cons_succ, List.getElem_cons_zero, List.setIfInBounds_toArray, List.set_cons_zero, List.set_cons_succ]
      refine wpAnyH_take (i := 24) (v := .bool true) rfl (by kernel_rfl) (by kernel_rfl) (by kernel_rfl) (fun _ _ _ h => h) (Or.inl ⟨by rfl, by intro W hSw; (try dsimp only at hSw); go_simp⟩) hHeld ?_
      try simp only [Act.put, List.getElem_toArray, List.getElem_cons_succ, List.getElem_cons_zero, List.setIfInBounds_toArray, List.set_cons_zero, List.set_cons_succ]
      refine wpAnyH_done (by kernel_rfl) ?_ _
      go_wp2
      go_ret
      exact ⟨by rw [R.out]; rfl, F3.out.2.2.2.1⟩
    | true =>
    clear BAD
    cases k with
    | zero =>
      have M := Lib.hid (MORE.out (by rw [gest_first hlt]; exact g1))
      clear MORE NO
      generalize pss[0] = ps at z0 OI g1 hz
      have hk2 : ¬ (0 : Int) < 0 := by omega
      have hk3 : (0 : Int) < (pss.length : Int) := by omega
      have KF := Lib.hid (show ∀ W, Below wr.heap.size wr W → (W.cell? ⟨w.heap.size, 0, none⟩ = some (.int .i64 J) ∧ W.cell? ⟨w.heap.size, 1, none⟩ = some (.slice A ls.length c) ∧ W.cell? ⟨g, 0, none⟩ = some (.slice U ps.length cu)) ∧ OwnL W base (.slice A ls.length c) ls ∧ OwnI W b2 (.slice U ps.length cu) ps ∧ Below w.heap.size w W ∧ Below (w.heap.size + 1) (w.alloc (.cells #[.int .i64 J, .slice A ls.length c] 26)) W from fun W hb => by
        have hw := HB.out.trans (hb.mono hsz)
        obtain ⟨y0, y1, oy, by_⟩ := BX.out W hw
        exact ⟨⟨y0, y1, cell_below z0 hb⟩, oy, OI.out.below hb, by_, hw⟩)
      go_wp2_with fail
      refine wp_region_held_drew (S := (fun W => W.cell? ⟨w.heap.size, 0, none⟩ = some (.int .i64 J) ∧ W.cell? ⟨w.heap.size, 1, none⟩ = some (.slice A ls.length c) ∧ W.cell? ⟨g, 0, none⟩ = some (.slice U ps.length cu))) (by kernel_rfl) ⟨x0, x1, z0⟩ (fun hHeld => ?_)
      refine wpAnyH_take (i := 0) (v := .agg #[.int .i64 J, .slice A ls.length c]) rfl (by kernel_rfl) (by kernel_rfl) (by kernel_rfl) (fun _ _ _ h => h) (Or.inl ⟨by rfl, by intro W hSw; (try dsimp only at hSw); go_simp⟩) hHeld ?_
      try simp only [Act.put, List.getElem_toArray, List.getElem_cons_succ, List.getElem_cons_zero, List.setIfInBounds_toArray, List.set_cons_zero, List.set_cons_succ]
      refine wpAnyH_take (i := 1) (v := .slice (some ⟨g, 0, none⟩) pss.length d) rfl (by kernel_rfl) (by kernel_rfl) (by kernel_rfl) (fun _ _ _ h => h) (Or.inl ⟨by rfl, by intro W hSw; (try dsimp only at hSw); go_simp⟩) hHeld ?_
      try simp only [Act.put, List.getElem_toArray, List.getElem_cons_succ, List.getElem_cons_zero, List.setIfInBounds_toArray, List.set_cons_zero, List.set_cons_succ]
      refine wpAnyH_take (i := 2) (v := .int .i64 0) rfl (by kernel_rfl) (by kernel_rfl) (by kernel_rfl) (fun _ _ _ h => h) (Or.inl ⟨by rfl, by intro W hSw; (try dsimp only at hSw); go_simp⟩) hHeld ?_
      try simp only [Act.put, List.getElem_toArray, List.getElem_cons_succ, List.getElem_cons_zero, List.setIfInBounds_toArray, List.set_cons_zero, List.set_cons_succ]
      refine wpAnyH_take (i := 3) (v := .pointer (some ⟨g, 0, none⟩)) rfl (by kernel_rfl) (by kernel_rfl) (by kernel_rfl) (fun _ _ _ h => h) (Or.inl ⟨by rfl, by intro W hSw; (try dsimp only at hSw); go_simp⟩) hHeld ?_
      try simp only [Act.put, List.getElem_toArray, List.getElem_cons_succ, List.getElem_cons_zero, List.setIfInBounds_toArray, List.set_cons_zero, List.set_cons_succ]
      refine wpAnyH_take (i := 4) (v := .slice U ps.length cu) rfl (by kernel_rfl) (by kernel_rfl) (by kernel_rfl) (fun _ _ _ h => h) (Or.inl ⟨by rfl, by intro W hSw; (try dsimp only at hSw); go_simp⟩) hHeld ?_
      try simp only [Act.put, List.getElem_toArray, List.getElem_cons_succ, List.getElem_cons_zero, List.setIfInBounds_toArray, List.set_cons_zero, List.set_cons_succ]
      refine wpAnyH_ready (rs := [5]) (by kernel_rfl) (by simp) ?_
      refine AllReadyH.cons rfl (fun K hK => ?_) AllReadyH.nil
      go_simp
      refine (CP.out _ ps _ (OL.out.below (Below.refl _ _).drew) (OI.out.below (Below.refl _ _).drew)).mono ?_
      rintro e w3 ⟨rfl, b3⟩
      rw [g1]
      replace b3 := undrew b3
      have F3 := Lib.hid (KF.out _ b3)
      clear b3
      go_wp2_with fail
      refine hK.out _ _ F3.out.1 (fun hHeld => ?_)
      clear hK K
      try simp only [Act.put, List.getElem_toArray, List.getElem_cons_succ, List.getElem_cons_zero, List.setIfInBounds_toArray, List.set_cons_zero, List.set_cons_succ]
      refine wpAnyH_take (i := 6) (v := .bool false) rfl (by kernel_rfl) (by kernel_rfl) (by kernel_rfl) (fun _ _ _ h => h) (Or.inl ⟨by rfl, by intro W hSw; (try dsimp only at hSw); go_simp⟩) hHeld ?_
      try simp only [Act.put, List.getElem_toArray, List.getElem_cons_succ, List.getElem_cons_zero, List.setIfInBounds_toArray, List.set_cons_zero, List.set_cons_succ]
      refine wpAnyH_take (i := 7) (v := .bool false) rfl (by kernel_rfl) (by kernel_rfl) (by kernel_rfl) (fun _ _ _ h => h) (Or.inl ⟨by rfl, by intro W hSw; (try dsimp only at hSw); go_simp⟩) hHeld ?_
      try simp only [Act.put, List.getElem_toArray, List.getElem_cons_succ, List.getElem_cons_zero, List.setIfInBounds_toArray, List.set_cons_zero, List.set_cons_succ]
      refine wpAnyH_take (i := 8) (v := .int .i64 0) rfl (by kernel_rfl) (by kernel_rfl) (by kernel_rfl) (fun _ _ _ h => h) (Or.inl ⟨by rfl, by intro W hSw; (try dsimp only at hSw); go_simp⟩) hHeld ?_
      try simp only [Act.put, List.getElem_toArray, List.getElem_cons_succ, List.getElem_cons_zero, List.setIfInBounds_toArray, List.set_cons_zero, List.set_cons_succ]
      refine wpAnyH_take (i := 9) (v := .bool false) rfl (by kernel_rfl) (by kernel_rfl) (by kernel_rfl) (fun _ _ _ h => h) (Or.inl ⟨by rfl, by intro W hSw; (try dsimp only at hSw); go_simp⟩) hHeld ?_
      try simp only [Act.put, List.getElem_toArray, List.getElem_cons_succ, List.getElem_cons_zero, List.setIfInBounds_toArray, List.set_cons_zero, List.set_cons_succ]
      refine wpAnyH_take (i := 10) (v := .bool false) rfl (by kernel_rfl) (by kernel_rfl) (by kernel_rfl) (fun _ _ _ h => h) (Or.inl ⟨by rfl, by intro W hSw; (try dsimp only at hSw); go_simp⟩) hHeld ?_
      try simp only [Act.put, List.getElem_toArray, List.getElem_cons_succ, List.getElem_cons_zero, List.setIfInBounds_toArray, List.set_cons_zero, List.set_cons_succ]
      refine wpAnyH_take (i := 11) (v := undef) rfl (by kernel_rfl) (by kernel_rfl) (by kernel_rfl) (fun _ _ _ h => h) (Or.inr ⟨by rfl, rfl⟩) hHeld ?_
      try simp only [Act.put, List.getElem_toArray, List.getElem_cons_succ, List.getElem_cons_zero, List.setIfInBounds_toArray, List.set_cons_zero, List.set_cons_succ]
      refine wpAnyH_take (i := 12) (v := undef) rfl (by kernel_rfl) (by kernel_rfl) (by kernel_rfl) (fun _ _ _ h => h) (Or.inr ⟨by rfl, rfl⟩) hHeld ?_
      try simp only [Act.put, List.getElem_toArray, List.getElem_cons_succ, List.getElem_cons_zero, List.setIfInBounds_toArray, List.set_cons_zero, List.set_cons_succ]
      refine wpAnyH_take (i := 13) (v := undef) rfl (by kernel_rfl) (by kernel_rfl) (by kernel_rfl) (fun _ _ _ h => h) (Or.inr ⟨by rfl, rfl⟩) hHeld ?_
      try simp only [Act.put, List.getElem_toArray, List.getElem_cons_succ, List.getElem_cons_zero, List.setIfInBounds_toArray, List.set_cons_zero, List.set_cons_succ]
      refine wpAnyH_take (i := 14) (v := undef) rfl (by kernel_rfl) (by kernel_rfl) (by kernel_rfl) (fun _ _ _ h => h) (Or.inr ⟨by rfl, rfl⟩) hHeld ?_
      try simp only [Act.put, List.getElem_toArray, List.getElem_cons_succ, List.getElem_cons_zero, List.setIfInBounds_toArray, List.set_cons_zero, List.set_cons_succ]
      refine wpAnyH_take (i := 15) (v := undef) rfl (by kernel_rfl) (by kernel_rfl) (by kernel_rfl) (fun _ _ _ h => h) (Or.inr ⟨by rfl, rfl⟩) hHeld ?_
      try simp only [Act.put, List.getElem_toArray, List.getElem_cons_succ, List.getElem_cons_zero, List.setIfInBounds_toArray, List.set_cons_zero, List.set_cons_succ]
      refine wpAnyH_take (i := 16) (v := undef) rfl (by kernel_rfl) (by kernel_rfl) (by kernel_rfl) (fun _ _ _ h => h) (Or.inr ⟨by rfl, rfl⟩) hHeld ?_
      try simp only [Act.put, List.getElem_toArray, List.getElem_cons_succ, List.getElem_cons_zero, List.setIfInBounds_toArray, List.set_cons_zero, List.set_cons_succ]
      refine wpAnyH_take (i := 17) (v := undef) rfl (by kernel_rfl) (by kernel_rfl) (by kernel_rfl) (fun _ _ _ h => h) (Or.inr ⟨by rfl, rfl⟩) hHeld ?_
      try simp only [Act.put, List.getElem_toArray, List.getElem_cons_succ, List.getElem_cons_zero, List.setIfInBounds_toArray, List.set_cons_zero, List.set_cons_succ]
      refine wpAnyH_take (i := 18) (v := undef) rfl (by kernel_rfl) (by kernel_rfl) (by kernel_rfl) (fun _ _ _ h => h) (Or.inr ⟨by rfl, rfl⟩) hHeld ?_
      try simp only [Act.put, List.getElem_toArray, List.getElem_cons_succ, List.getElem_cons_zero, List.setIfInBounds_toArray, List.set_cons_zero, List.set_cons_succ]
      refine wpAnyH_take (i := 19) (v := undef) rfl (by kernel_rfl) (by kernel_rfl) (by kernel_rfl) (fun _ _ _ h => h) (Or.inr ⟨by rfl, rfl⟩) hHeld ?_
      try simp only [Act.put, List.getElem_toArray, List.getElem_cons_succ, List.getElem_cons_zero, List.setIfInBounds_toArray, List.set_cons_zero, List.set_cons_succ]
      refine wpAnyH_take (i := 20) (v := undef) rfl (by kernel_rfl) (by kernel_rfl) (by kernel_rfl) (fun _ _ _ h => h) (Or.inr ⟨by rfl, rfl⟩) hHeld ?_
      try simp only [Act.put, List.getElem_toArray, List.getElem_cons_succ, List.getElem_cons_zero, List.setIfInBounds_toArray, List.set_cons_zero, List.set_cons_succ]
      refine wpAnyH_take (i := 21) (v := undef) rfl (by kernel_rfl) (by kernel_rfl) (by kernel_rfl) (fun _ _ _ h => h) (Or.inr ⟨by rfl, rfl⟩) hHeld ?_
      try simp only [Act.put, List.getElem_toArray, List.getElem_cons_succ, List.getElem_cons_zero, List.setIfInBounds_toArray, List.set_cons_zero, List.set_cons_succ]
      refine wpAnyH_take (i := 22) (v := undef) rfl (by kernel_rfl) (by kernel_rfl) (by kernel_rfl) (fun _ _ _ h => h) (Or.inr ⟨by rfl, rfl⟩) hHeld ?_
      try simp only [Act.put, List.getElem_toArray, List.getElem_cons_succ, List.getElem_cons_zero, List.setIfInBounds_toArray, List.set_cons_zero, List.set_cons_succ]
      refine wpAnyH_take (i := 23) (v := .bool false) rfl (by kernel_rfl) (by kernel_rfl) (by kernel_rfl) (fun _ _ _ h => h) (Or.inl ⟨by rfl, by intro W hSw; (try dsimp only at hSw); go_simp⟩) hHeld ?_
      try simp only [Act.put, List.getElem_toArray, List.getElem_cons_succ, List.getElem_cons_zero, List.setIfInBounds_toArray, List.set_cons_zero, List.set_cons_succ]
      refine wpAnyH_take (i := 24) (v := .bool false) rfl (by kernel_rfl) (by kernel_rfl) (by kernel_rfl) (fun _ _ _ h => h) (Or.inl ⟨by rfl, by intro W hSw; (try dsimp only at hSw); go_simp⟩) hHeld ?_
      try simp only [Act.put, List.getElem_toArray, List.getElem_cons_succ, List.getElem_cons_zero, List.setIfInBounds_toArray, List.set_cons_zero, List.set_cons_succ]
      refine wpAnyH_done (by kernel_rfl) ?_ _
      go_wp2
      exact ⟨⟨0 + 1, by omega, by go_num, Lib.hid F3.out.2.2.2.2, M⟩, by simp [intOf]; omega⟩
    | succ k =>
      have hltj : k < pss.length := by omega
      obtain ⟨_, _, V, cv, f2, z1, _, oj⟩ := (HP.out.below BW.out).spot hltj
      simp only [Value.slice.injEq, Option.some.injEq, Addr.mk.injEq] at f2
      obtain ⟨⟨rfl, _⟩, em, rfl⟩ := f2
      clear em
      have hzj := HR.out k hltj
      have OJ := Lib.hid oj
      clear oj
      have NX := Lib.hid (gest_next (J := J) (ls := ls) (most := most) hlt)
      generalize pss[k + 1] = ps at z0 OI g1 hz NX
      generalize pss[k] = qs at z1 OJ hzj NX
      have XA := Lib.hid (And.intro x0 (And.intro x1 (And.intro z0 z1)))
      have SR := Lib.hid (step_range qs ps)
      have e1 : IntKind.i64.wrap (k : Int) = (k : Int) := IntWalk.i64_in _ (by omega)
      have KG := Lib.hid (show ∀ W, Below wr.heap.size wr W → (W.cell? ⟨w.heap.size, 0, none⟩ = some (.int .i64 J) ∧ W.cell? ⟨w.heap.size, 1, none⟩ = some (.slice A ls.length c) ∧ W.cell? ⟨g, k + 1, none⟩ = some (.slice U ps.length cu) ∧ W.cell? ⟨g, k, none⟩ = some (.slice V qs.length cv)) ∧ OwnI W b2 (.slice U ps.length cu) ps ∧ OwnI W b2 (.slice V qs.length cv) qs ∧ Below w.heap.size w W ∧ Below (w.heap.size + 1) (w.alloc (.cells #[.int .i64 J, .slice A ls.length c] 26)) W from fun W hb => by
        have hw := HB.out.trans (hb.mono hsz)
        obtain ⟨y0, y1, oy, by_⟩ := BX.out W hw
        exact ⟨⟨y0, y1, cell_below z0 hb, cell_below z1 hb⟩, OI.out.below hb, OJ.out.below hb, by_, hw⟩)
      have hk2 : (0 : Int) < (k : Int) + 1 := by omega
      have hk3 : (k : Int) < (pss.length : Int) := by omega
      have hk4 : (0 : Int) ≤ (k : Int) := by omega
      have hk5 : (0 : Int) ≤ (k : Int) + 1 := by omega
      have hk6 : (k : Int) + 1 < (pss.length : Int) := by omega
      by_cases hc : most < stepSize qs ps
      · have R := Lib.hid (NO.out (by rw [NX.out, g1, decide_eq_true hc]; rfl))
        clear MORE NO NX
        generalize hre : stepSize qs ps = r at hc SR
        have RE := Lib.hid hre
        clear hre
        go_wp2_with fail
        go_region_held3 (fun W => W.cell? ⟨w.heap.size, 0, none⟩ = some (.int .i64 J) ∧ W.cell? ⟨w.heap.size, 1, none⟩ = some (.slice A ls.length c) ∧ W.cell? ⟨g, k + 1, none⟩ = some (.slice U ps.length cu) ∧ W.cell? ⟨g, k, none⟩ = some (.slice V qs.length cv))
          (first | exact XA.out | exact F3.out.1 | exact F4.out.1)
          (first | (go_at_call 16; (refine (CP.out _ ps _ (OL.out.below (Below.refl _ _).drew) (OI.out.below (Below.refl _ _).drew)).mono ?_); rintro e w3 ⟨rfl, b3⟩; rw [g1]; replace b3 := undrew b3; have F3 := Lib.hid (KG.out _ b3); have B3 := Lib.hid b3; clear b3) | (go_at_call 20; (refine (CS.out _ _ qs ps _ F3.out.2.2.1 F3.out.2.1 hzj hz).mono ?_); rintro e w4 ⟨rfl, b4⟩; rw [RE.out]; have F4 := Lib.hid (KG.out _ (B3.out.trans (b4.mono B3.out.size))); clear b4))
        go_wp2
        go_ret
        exact ⟨by rw [R.out]; rfl, F4.out.2.2.2.1⟩
      · have M := Lib.hid (MORE.out (by rw [NX.out, g1, decide_eq_false hc]; rfl))
        clear MORE NO NX
        generalize hre : stepSize qs ps = r at hc SR
        have RE := Lib.hid hre
        clear hre
        go_wp2_with fail
        go_region_held3 (fun W => W.cell? ⟨w.heap.size, 0, none⟩ = some (.int .i64 J) ∧ W.cell? ⟨w.heap.size, 1, none⟩ = some (.slice A ls.length c) ∧ W.cell? ⟨g, k + 1, none⟩ = some (.slice U ps.length cu) ∧ W.cell? ⟨g, k, none⟩ = some (.slice V qs.length cv))
          (first | exact XA.out | exact F3.out.1 | exact F4.out.1)
          (first | (go_at_call 16; (refine (CP.out _ ps _ (OL.out.below (Below.refl _ _).drew) (OI.out.below (Below.refl _ _).drew)).mono ?_); rintro e w3 ⟨rfl, b3⟩; rw [g1]; replace b3 := undrew b3; have F3 := Lib.hid (KG.out _ b3); have B3 := Lib.hid b3; clear b3) | (go_at_call 20; (refine (CS.out _ _ qs ps _ F3.out.2.2.1 F3.out.2.1 hzj hz).mono ?_); rintro e w4 ⟨rfl, b4⟩; rw [RE.out]; have F4 := Lib.hid (KG.out _ (B3.out.trans (b4.mono B3.out.size))); clear b4))
        go_wp2
        exact ⟨⟨k + 1 + 1, by omega, by go_num, Lib.hid F4.out.2.2.2.2, M⟩, by simp [intOf]; omega⟩
end Go.Proofs.Ytdbpejjbinbiiaa
