/- The contracts of spec.PullsOk and spec.PoseOk. Condition: the limbs and the numbers lie in rows of their own. -/
import Derived.Test.YtblbmppbbhibeaaPullM
import Derived.Test.YtblbmppbbhibeaaOkW
import Derived.Test.YtblbmppbbhibeaaBox
import Derived.Test.YtblbmppbbhibeaaDistW
namespace Go.Proofs.Ytblbmppbbhibeaa
set_option linter.unusedVariables false
set_option linter.unusedSimpArgs false
open Go.RowKit

theorem getD_of {zs : List Int} {k : Nat} (h : k < zs.length) : zs.getD k 0 = zs[k] := by
  rw [List.getD_eq_getElem?_getD, List.getElem?_eq_getElem h]
  rfl
theorem all_more {p : Int → Bool} {zs : List Int} {k : Nat} (h : k < zs.length) : (zs.take (k + 1)).all p = ((zs.take k).all p && p zs[k]) := by
  rw [List.take_succ_eq_append_getElem h, List.all_append]
  simp
theorem any_more {p : Int → Bool} {zs : List Int} {k : Nat} (h : k < zs.length) : (zs.take (k + 1)).any p = ((zs.take k).any p || p zs[k]) := by
  rw [List.take_succ_eq_append_getElem h, List.any_append]
  simp
theorem all_not {α : Type} {p : α → Bool} {zs : List α} {x : α} (h : x ∈ zs) (hx : p x = false) : zs.all p = false := by
  rw [List.all_eq_false]
  exact ⟨x, h, by simp [hx]⟩

set_option maxRecDepth 100000 in
set_option maxHeartbeats 800000 in
theorem specPulls (J : Int) (v vp : Value) (ls : List Lb) (zs : List Int) (base b2 : Nat) (w : World) (hown : OwnL w base v ls) (hp : OwnI w b2 vp zs) (hlz : zs.length ≤ 2000000) :
    Calls Try.prog 20 #[bodyV J v, vp] w fun e w' => e = .returned (.bool (pullsOk J ls zs)) ∧ Below w.heap.size w w' := by
  have CS := Lib.hid (fun W h => specOk J v ls base W h)
  have C2 := Lib.hid (fun v lo hi W => l01In_any v lo hi W)
  obtain ⟨A, c, e⟩ := hown.slice
  subst e
  obtain ⟨P, d, e⟩ := hp.slice
  subst e
  have OWN := Lib.hid hown
  have HP := Lib.hid hp
  have BX := Lib.hid (box_facts (J := J) hown)
  clear hown hp
  unfold bodyV at CS ⊢
  cases hok : bodyOk J ls with
  | false =>
    rw [hok] at CS
    have R := Lib.hid (show pullsOk J ls zs = false by unfold pullsOk; rw [hok]; rfl)
    clear hok
    go_enter Try.func20, Try.ntmps20
    go_wp2_with fail
    refine (CS.out _ (OWN.out.alloc _)).mono ?_
    rintro e w1 ⟨rfl, b1⟩
    simp only [World.size_alloc] at b1
    obtain ⟨x0, x1, -, bw⟩ := BX.out w1 b1
    clear b1
    go_wp2
    go_ret
    exact ⟨by rw [R.out]; rfl, bw⟩
  | true =>
    rw [hok] at CS
    by_cases hl : (zs.length : Int) = J
    · have R := Lib.hid (show pullsOk J ls zs = (zs.all (inRange (-1) 500) && zs.any pulled) by unfold pullsOk; rw [hok, decide_eq_true hl]; rfl)
      clear hok
      subst hl
      go_enter Try.func20, Try.ntmps20
      go_wp2_with fail
      refine (CS.out _ (OWN.out.alloc _)).mono ?_
      rintro e w1 ⟨rfl, b1⟩
      simp only [World.size_alloc] at b1
      obtain ⟨x0, x1, -, bw⟩ := BX.out w1 b1
      have BW := Lib.hid bw
      have P1 := Lib.hid (HP.out.below bw)
      clear b1 bw
      go_wp2_with fail
      clear x0 x1
      go_loopw [5, 6] (fun sv iv wr => wr = w1 ∧ ∃ k : Nat, k ≤ zs.length ∧ iv = .int .i64 (k : Int) ∧ sv = .bool ((zs.take k).any pulled) ∧ Hid ((zs.take k).all (inRange (-1) 500) = true)) (fun _ iv _ => zs.length - (intOf iv).toNat)
      case atStart => exact ⟨rfl, 0, by omega, rfl, rfl, rfl⟩
      case round =>
        obtain ⟨rfl, k, hk, rfl, rfl, HA⟩ := hrel
        by_cases hlt : k < zs.length
        · obtain ⟨g, _, e1, _, _, z0, _⟩ := P1.out.spot hlt
          simp only [Value.slice.injEq] at e1
          obtain ⟨rfl, em, rfl⟩ := e1
          clear em
          have hk0 : (0 : Int) ≤ (k : Int) := by omega
          have hk1 : (k : Int) < (zs.length : Int) := by omega
          have AM := Lib.hid (all_more (p := inRange (-1) 500) hlt)
          have YM := Lib.hid (any_more (p := pulled) hlt)
          have NO := Lib.hid (fun hx => all_not (p := inRange (-1) 500) (List.getElem_mem hlt) hx)
          generalize zs[k] = x at z0 AM YM NO
          have C := Lib.hid (C2.out x (-1) 500)
          cases hx : inB x (-1) 500 with
          | false =>
            have R2 := Lib.hid (show pullsOk zs.length ls zs = false by rw [R.out, NO.out hx]; rfl)
            rw [hx] at C
            clear hx
            go_wp2_with (go_at_call 43; refine (C.out _).mono ?_; rintro e w' ⟨rfl, rfl⟩)
            go_ret
            exact ⟨by rw [R2.out]; rfl, BW.out⟩
          | true =>
            have A2 := Lib.hid (show (zs.take (k + 1)).all (inRange (-1) 500) = true by rw [AM.out, HA.out]; exact hx)
            rw [hx] at C
            clear hx
            cases hs : (zs.take k).any pulled with
            | true =>
              rw [hs] at YM
              go_wp2_with (go_at_call 43; refine (C.out _).mono ?_; rintro e w' ⟨rfl, rfl⟩)
              exact ⟨⟨trivial, k + 1, by omega, by go_num, by rw [YM.out]; rfl, A2⟩, by simp [intOf]; omega⟩
            | false =>
              rw [hs] at YM
              go_wp2_with (go_at_call 43; refine (C.out _).mono ?_; rintro e w' ⟨rfl, rfl⟩)
              exact ⟨⟨trivial, k + 1, by omega, by go_num, by rw [YM.out]; rfl, A2⟩, by simp [intOf]; omega⟩
        · obtain rfl : k = zs.length := by omega
          have HA' := Lib.hid (show zs.all (inRange (-1) 500) = true by have := HA.out; rwa [List.take_length] at this)
          have R2 := Lib.hid (show pullsOk zs.length ls zs = zs.any pulled by rw [R.out, HA'.out]; rfl)
          rw [List.take_length]
          go_wp2
          go_ret
          exact ⟨by rw [R2.out]; rfl, BW.out⟩
    · have R := Lib.hid (show pullsOk J ls zs = false by unfold pullsOk; rw [decide_eq_false hl]; simp)
      have hne : ((zs.length : Int) != J) = true := by simpa using hl
      clear hok
      go_enter Try.func20, Try.ntmps20
      go_wp2_with fail
      refine (CS.out _ (OWN.out.alloc _)).mono ?_
      rintro e w1 ⟨rfl, b1⟩
      simp only [World.size_alloc] at b1
      obtain ⟨x0, x1, -, bw⟩ := BX.out w1 b1
      clear b1
      go_wp2
      go_ret
      exact ⟨by rw [R.out]; rfl, bw⟩

set_option maxRecDepth 100000 in
set_option maxHeartbeats 1600000 in
theorem specPose_yes (m : Nat) (v vp : Value) (ls : List Lb) (hs : List Int) (base b2 : Nat) (w : World) (hown : OwnL w base v ls) (hp : OwnI w b2 vp hs) (hok : bodyOk m ls = true) (hl : hs.length = m) :
    Calls Try.prog 25 #[bodyV (m : Int) v, vp] w fun e w' => e = .returned (.bool (poseOk m ls hs)) ∧ Below w.heap.size w w' := by
  obtain ⟨hf, hlm, hm12, hrun⟩ := ok_parts' hok
  have CS := Lib.hid (fun W h => hok ▸ specOk m v ls base W h)
  have C2 := Lib.hid (fun v lo hi W => l01In_any v lo hi W)
  have R := Lib.hid (show poseOk m ls hs = (hs.all (inRange (-2000) 2000) && ls.all (limbHolds hs)) by unfold poseOk; rw [hok, decide_eq_true (by omega)]; rfl)
  obtain ⟨A, c, e⟩ := hown.slice
  subst e
  obtain ⟨P, d, e⟩ := hp.slice
  subst e
  have OWN := Lib.hid hown
  have HP := Lib.hid hp
  have HF := Lib.hid hf
  have BX := Lib.hid (box_facts (J := (m : Int)) hown)
  have hll : ls.length ≤ 11 := by omega
  clear hown hp hok hf hlm hrun
  unfold bodyV at CS ⊢
  rw [hl]
  go_enter Try.func25, Try.ntmps25
  go_wp2_with fail
  refine (CS.out _ (OWN.out.alloc _)).mono ?_
  rintro e w1 ⟨rfl, b1⟩
  simp only [World.size_alloc] at b1
  obtain ⟨x0, x1, ol, bw⟩ := BX.out w1 b1
  have B1 := Lib.hid b1
  have BW := Lib.hid bw
  have P1 := Lib.hid (HP.out.below bw)
  clear b1 bw ol
  go_wp2_with fail
  clear x0 x1
  go_loopw [5] (fun iv wr => wr = w1 ∧ ∃ k : Nat, k ≤ m ∧ iv = .int .i64 (k : Int) ∧ Hid ((hs.take k).all (inRange (-2000) 2000) = true)) (fun iv _ => m - (intOf iv).toNat)
  case atStart => exact ⟨rfl, 0, by omega, rfl, rfl⟩
  case round =>
    obtain ⟨rfl, k, hk, rfl, HA⟩ := hrel
    by_cases hlt : k < m
    · have hlt' : k < hs.length := by omega
      obtain ⟨g, _, e1, _, _, z0, _⟩ := P1.out.spot hlt'
      rw [hl] at e1
      simp only [Value.slice.injEq] at e1
      obtain ⟨rfl, em, rfl⟩ := e1
      clear em
      have hk0 : (0 : Int) ≤ (k : Int) := by omega
      have hk1 : (k : Int) < (m : Int) := by omega
      have AM := Lib.hid (all_more (p := inRange (-2000) 2000) hlt')
      have NO := Lib.hid (fun hx => all_not (p := inRange (-2000) 2000) (List.getElem_mem hlt') hx)
      generalize hs[k] = x at z0 AM NO
      have C := Lib.hid (C2.out x (-2000) 2000)
      cases hx : inB x (-2000) 2000 with
      | false =>
        have R2 := Lib.hid (show poseOk m ls hs = false by rw [R.out, NO.out hx]; rfl)
        rw [hx] at C
        clear hx
        go_wp2_with (go_at_call 43; refine (C.out _).mono ?_; rintro e w' ⟨rfl, rfl⟩)
        go_ret
        exact ⟨by rw [R2.out]; rfl, BW.out⟩
      | true =>
        have A2 := Lib.hid (show (hs.take (k + 1)).all (inRange (-2000) 2000) = true by rw [AM.out, HA.out]; exact hx)
        rw [hx] at C
        clear hx
        go_wp2_with (go_at_call 43; refine (C.out _).mono ?_; rintro e w' ⟨rfl, rfl⟩)
        exact ⟨⟨trivial, k + 1, by omega, by go_num, A2⟩, by simp [intOf]; omega⟩
    · obtain rfl : k = m := by omega
      have HA2 := Lib.hid (show hs.all (inRange (-2000) 2000) = true by have := HA.out; rwa [← hl, List.take_length] at this)
      have RG := Lib.hid (fun (k : Nat) (h : k < hs.length) => (by have := List.all_eq_true.1 HA2.out hs[k] (List.getElem_mem h); simpa [inRange] using this : -2000 ≤ hs[k] ∧ hs[k] ≤ 2000))
      clear HA
      go_wp2_with fail
      go_loopw [6] (fun iv wr => ∃ q : Nat, q ≤ ls.length ∧ iv = .int .i64 (q : Int) ∧ Hid ((ls.take q).all (limbHolds hs) = true) ∧ Hid (Below (w.heap.size + 1) (w.alloc (.cells #[.int .i64 (k : Int), .slice A ls.length c] 26)) wr)) (fun iv _ => ls.length - (intOf iv).toNat)
      case atStart => exact ⟨0, by omega, rfl, rfl, B1⟩
      case round =>
        obtain ⟨q, hq, rfl, HB, HW⟩ := hrel
        obtain ⟨x0, x1, ol, bw⟩ := BX.out wr HW.out
        by_cases hlt : q < ls.length
        · obtain ⟨gl, cl, e2, _, ll, rl, _⟩ := ol.spot hlt
          simp only [Value.slice.injEq] at e2
          obtain ⟨rfl, hloop, rfl⟩ := e2
          clear hloop
          obtain ⟨p, p', hp, hp', hpm, hpm', _, hn⟩ := fits_at HF.out hlt
          have hn2 := (limb_pos HF.out hlt).2
          rw [limbAt_lt hlt] at hp hp' hn hn2
          obtain ⟨g, _, e1, _, _, z0, _⟩ := (HP.out.below bw).spot (k := p) (by omega)
          rw [hl] at e1
          simp only [Value.slice.injEq] at e1
          obtain ⟨rfl, em, ec⟩ := e1
          clear em ec
          obtain ⟨_, _, e1, _, _, z1, _⟩ := (HP.out.below bw).spot (k := p') (by omega)
          simp only [Value.slice.injEq, Option.some.injEq, Addr.mk.injEq] at e1
          obtain ⟨⟨rfl, _⟩, em, ec⟩ := e1
          clear em ec
          have h0 := RG.out p (by omega)
          have h1 := RG.out p' (by omega)
          have LH := Lib.hid (show limbHolds hs ls[q] = inB (hs[p]'(by omega) - hs[p']'(by omega)) (-ls[q].n) ls[q].n by unfold limbHolds; rw [hp, hp', Int.toNat_natCast, Int.toNat_natCast, getD_of (by omega), getD_of (by omega)]; rfl)
          have AM := Lib.hid (show (ls.take (q + 1)).all (limbHolds hs) = ((ls.take q).all (limbHolds hs) && limbHolds hs ls[q]) by rw [List.take_succ_eq_append_getElem hlt, List.all_append]; simp)
          have NO := Lib.hid (fun hx => all_not (p := limbHolds hs) (List.getElem_mem hlt) hx)
          have r0 : wr.cell? ⟨gl, q * 3, none⟩ = some (.int .i64 ls[q].a) := rl 0 _ rfl
          have r1 : wr.cell? ⟨gl, q * 3 + 1, none⟩ = some (.int .i64 ls[q].b) := rl 1 _ rfl
          have r2 : wr.cell? ⟨gl, q * 3 + 2, none⟩ = some (.int .i64 ls[q].n) := rl 2 _ rfl
          rw [hp] at r0
          rw [hp'] at r1
          have BWr := Lib.hid bw
          have hsz := HW.out.size
          simp only [World.size_alloc] at hsz
          have hq0 : (0 : Int) ≤ (q : Int) := by omega
          have hq1 : (q : Int) < (ls.length : Int) := by omega
          have hp0 : (0 : Int) ≤ (p : Int) := by omega
          have hp1 : (p : Int) < (k : Int) := by omega
          have hp2 : (0 : Int) ≤ (p' : Int) := by omega
          have hp3 : (p' : Int) < (k : Int) := by omega
          clear rl ol bw hp hp'
          generalize hs[p]'(by omega) = x at z0 h0 LH
          generalize hs[p']'(by omega) = y at z1 h1 LH
          rw [LH.out] at AM
          have NO' := Lib.hid (fun hx => NO.out (LH.out.trans hx))
          generalize ls[q].n = n at r2 hn hn2 AM NO'
          have gw1 : IntKind.i64.wrap (x - y) = x - y := IntWalk.i64_in _ (by omega)
          have gw2 : IntKind.i64.wrap (-n) = -n := IntWalk.i64_in _ (by omega)
          have C := Lib.hid (C2.out (x - y) (-n) n)
          clear NO LH
          have y0 := (elder z0).1
          have y1 := (elder z1).1
          cases hx : inB (x - y) (-n) n with
          | false =>
            have R2 := Lib.hid (show poseOk k ls hs = false by rw [R.out, NO'.out hx]; simp)
            rw [hx] at C
            clear hx
            go_wp2_with fail
            go_region_held3 (fun w' => w'.cell? ⟨wr.heap.size, 0, none⟩ = some (.int .i64 (p : Int)) ∧ w'.cell? ⟨wr.heap.size, 1, none⟩ = some (.int .i64 (p' : Int)) ∧ w'.cell? ⟨wr.heap.size, 2, none⟩ = some (.int .i64 n) ∧ w'.cell? ⟨g, p, none⟩ = some (.int .i64 x) ∧ w'.cell? ⟨g, p', none⟩ = some (.int .i64 y))
              (first | exact ⟨by simp [go_sem], by simp [go_sem], by simp [go_sem], y0 _, y1 _⟩) (first | (go_at_call 43; (with_reducible refine (C.out _).mono ?_); rintro e w' ⟨rfl, rfl⟩))
            clear r0 r1 r2 z0 z1 y0 y1
            go_wp2
            go_ret
            exact ⟨by rw [R2.out]; rfl, (BWr.out.alloc BWr.out.size _).drew⟩
          | true =>
            have A2 := Lib.hid (show (ls.take (q + 1)).all (limbHolds hs) = true by rw [AM.out, HB.out, hx]; rfl)
            rw [hx] at C
            clear hx
            go_wp2_with fail
            go_region_held3 (fun w' => w'.cell? ⟨wr.heap.size, 0, none⟩ = some (.int .i64 (p : Int)) ∧ w'.cell? ⟨wr.heap.size, 1, none⟩ = some (.int .i64 (p' : Int)) ∧ w'.cell? ⟨wr.heap.size, 2, none⟩ = some (.int .i64 n) ∧ w'.cell? ⟨g, p, none⟩ = some (.int .i64 x) ∧ w'.cell? ⟨g, p', none⟩ = some (.int .i64 y))
              (first | exact ⟨by simp [go_sem], by simp [go_sem], by simp [go_sem], y0 _, y1 _⟩) (first | (go_at_call 43; (with_reducible refine (C.out _).mono ?_); rintro e w' ⟨rfl, rfl⟩))
            have HW2 := Lib.hid ((HW.out.alloc hsz (.cells #[.int .i64 (p : Int), .int .i64 (p' : Int), .int .i64 n] 57)).drew)
            clear r0 r1 r2 z0 z1 y0 y1
            go_wp2
            exact ⟨⟨q + 1, by omega, by go_num, A2, HW2⟩, by simp [intOf]; omega⟩
        · obtain rfl : q = ls.length := by omega
          have HB2 := Lib.hid (show ls.all (limbHolds hs) = true by have := HB.out; rwa [List.take_length] at this)
          have R2 := Lib.hid (show poseOk k ls hs = true by rw [R.out, HA2.out, HB2.out]; rfl)
          go_wp2
          go_ret
          exact ⟨by rw [R2.out]; rfl, bw⟩

set_option maxRecDepth 100000 in
set_option maxHeartbeats 800000 in
theorem specPose (J : Int) (v vp : Value) (ls : List Lb) (hs : List Int) (base b2 : Nat) (w : World) (hown : OwnL w base v ls) (hp : OwnI w b2 vp hs) :
    Calls Try.prog 25 #[bodyV J v, vp] w fun e w' => e = .returned (.bool (poseOk J ls hs)) ∧ Below w.heap.size w w' := by
  by_cases h : bodyOk J ls = true ∧ (hs.length : Int) = J
  · obtain ⟨hok, rfl⟩ := h
    exact specPose_yes hs.length v vp ls hs base b2 w hown hp hok rfl
  · have CS := Lib.hid (fun W h => specOk J v ls base W h)
    obtain ⟨A, c, e⟩ := hown.slice
    subst e
    obtain ⟨P, d, e⟩ := hp.slice
    subst e
    have OWN := Lib.hid hown
    have BX := Lib.hid (box_facts (J := J) hown)
    clear hown hp
    unfold bodyV at CS ⊢
    have R := Lib.hid (show poseOk J ls hs = false by
      unfold poseOk
      cases hok : bodyOk J ls with
      | false => rfl
      | true => rw [decide_eq_false (fun e => h ⟨hok, e⟩)]; rfl)
    cases hok : bodyOk J ls with
    | false =>
      rw [hok] at CS
      clear h hok
      go_enter Try.func25, Try.ntmps25
      go_wp2_with fail
      refine (CS.out _ (OWN.out.alloc _)).mono ?_
      rintro e w1 ⟨rfl, b1⟩
      simp only [World.size_alloc] at b1
      obtain ⟨x0, x1, -, bw⟩ := BX.out w1 b1
      clear b1
      go_wp2
      go_ret
      exact ⟨by rw [R.out]; rfl, bw⟩
    | true =>
      rw [hok] at CS
      have hne : ((hs.length : Int) != J) = true := by simpa using fun e => h ⟨hok, e⟩
      clear h hok
      go_enter Try.func25, Try.ntmps25
      go_wp2_with fail
      refine (CS.out _ (OWN.out.alloc _)).mono ?_
      rintro e w1 ⟨rfl, b1⟩
      simp only [World.size_alloc] at b1
      obtain ⟨x0, x1, -, bw⟩ := BX.out w1 b1
      clear b1
      go_wp2
      go_ret
      exact ⟨by rw [R.out]; rfl, bw⟩
end Go.Proofs.Ytblbmppbbhibeaa
