/- The contract of spec.BodyOk. Condition: the limbs lie in a row of their own. -/
import Derived.Test.YtblbmppbbhibeaaOkM
import Derived.Test.YtblbmppbbhibeaaIn
namespace Go.Proofs.Ytblbmppbbhibeaa
set_option linter.unusedVariables false
set_option linter.unusedSimpArgs false
open Go.RowKit

theorem specOk_bad (J : Int) (v : Value) (ls : List Lb) (base : Nat) (w : World) (hown : OwnL w base v ls) (hbad : ¬ (1 ≤ J ∧ J ≤ 12) ∨ ¬ (ls.length : Int) = J - 1) :
    Calls Try.prog 42 #[bodyV J v] w fun e w' => e = .returned (.bool false) ∧ Below w.heap.size w w' := by
  obtain ⟨A, c, e⟩ := hown.slice
  subst e
  clear hown
  unfold bodyV
  by_cases h1 : 1 ≤ J ∧ J ≤ 12
  · have h2 : ¬ (ls.length : Int) = J - 1 := hbad.resolve_left (fun x => x h1)
    have C := Lib.hid (fun W => l01In_yes h1 W)
    have hw : IntKind.i64.wrap (J - 1) = J - 1 := IntWalk.i64_in _ (by omega)
    go_enter Try.func42, Try.ntmps42
    go_wp2_with (go_at_call 43; refine (C.out _).mono ?_; rintro e w' ⟨rfl, rfl⟩)
    go_ret
    exact ⟨rfl, (Below.refl w.heap.size w).alloc (Nat.le_refl _) _⟩
  · have C := Lib.hid (fun W => l01In_no h1 W)
    go_enter Try.func42, Try.ntmps42
    go_wp2_with (go_at_call 43; refine (C.out _).mono ?_; rintro e w' ⟨rfl, rfl⟩)
    go_ret
    exact ⟨rfl, (Below.refl w.heap.size w).alloc (Nat.le_refl _) _⟩

theorem made_zeros (n : Nat) : (madeCells (Value.int .i64 0).cells (n * 1)).toList = (List.replicate n (0 : Int)).map intV := by
  have hm : ∀ v ∈ (madeCells (Value.int .i64 0).cells (n * 1)).toList, v = .int .i64 0 := by
    intro v hv
    unfold madeCells at hv
    simp only [Array.toList_map, List.mem_map] at hv
    obtain ⟨j, _, rfl⟩ := hv
    show (#[Value.int .i64 0])[j % 1]! = _
    rw [Nat.mod_one]
    rfl
  rw [List.eq_replicate_of_mem hm, Array.length_toList, size_madeCells, Nat.mul_one, List.map_replicate]
  rfl

/-- What stays as it was while the call goes on: the box of the body, and its limbs. -/
theorem box_facts {w : World} {base : Nat} {J : Int} {A : Option Addr} {n c : Nat} {ls : List Lb} (h : OwnL w base (.slice A n c) ls) (wr : World)
    (hb : Below (w.heap.size + 1) (w.alloc (.cells #[.int .i64 J, .slice A n c] 26)) wr) :
    wr.cell? ⟨w.heap.size, 0, none⟩ = some (.int .i64 J) ∧ wr.cell? ⟨w.heap.size, 1, none⟩ = some (.slice A n c) ∧ OwnL wr base (.slice A n c) ls ∧ Below w.heap.size w wr := by
  refine ⟨?_, ?_, (h.alloc _).below (by simpa using hb), ((Below.refl w.heap.size w).alloc (Nat.le_refl _) _).trans (hb.mono (by omega))⟩
  · rw [hb.cell (by simp)]
    simp [go_sem]
  · rw [hb.cell (by simp)]
    simp [go_sem]

set_option maxRecDepth 100000 in
set_option maxHeartbeats 800000 in
theorem specOk_run (m : Nat) (v : Value) (ls : List Lb) (base : Nat) (w : World) (hown : OwnL w base v ls) (h1 : 1 ≤ m ∧ m ≤ 12) (h2 : ls.length + 1 = m) :
    Calls Try.prog 42 #[bodyV (m : Int) v] w fun e w' => e = .returned (.bool (joinRun m ls (apart m)).isSome) ∧ Below w.heap.size w w' := by
  obtain ⟨A, c, e⟩ := hown.slice
  subst e
  have OWN := Lib.hid hown
  clear hown
  unfold bodyV
  obtain ⟨i, hi, hz, hs, hb⟩ := info_parts info_int
  have BX := Lib.hid (box_facts (J := (m : Int)) OWN.out)
  have C := Lib.hid (fun W => l01In_yes (v := (m : Int)) (lo := 1) (hi := 12) (by omega) W)
  have hm0 : (0 : Int) ≤ (m : Int) := by omega
  have hlm : (ls.length : Int) = (m : Int) - 1 := by omega
  have hw : IntKind.i64.wrap ((m : Int) - 1) = (m : Int) - 1 := IntWalk.i64_in _ (by omega)
  go_enter Try.func42, Try.ntmps42
  go_wp2_with (first | (go_at_call 43; refine (C.out _).mono ?_; rintro e w' ⟨rfl, rfl⟩) | (refine wpList_make_full _ rfl _ _ 27 rfl (w.heap.size + 1) 3 i (.int .i64 0) 1 Try.underlying27 hi hz hs .i64 .i64 _ _ m rfl rfl rfl rfl (by rw [hb]; omega) (by simp only [maxLen]; omega) (by simp) ?_; intro w1 own1 grown1))
  have own0 : OwnI w1 (w.heap.size + 1) (.slice (some ⟨w.heap.size + 1, 0, none⟩) m m) (apart 0 ++ List.replicate (m - 0) 0) := by
    rw [made_zeros] at own1
    simp only [World.size_alloc] at own1
    unfold OwnI
    simpa [apart] using own1
  have b1 : Below (w.heap.size + 1) (w.alloc (.cells #[.int .i64 (m : Int), .slice A ls.length c] 26)) w1 := (below_of_grown grown1).mono (by simp)
  clear own1 grown1
  go_loopw [4] (fun i wr => ∃ k : Nat, k ≤ m ∧ i = .int .i64 k ∧ OwnI wr (w.heap.size + 1) (.slice (some ⟨w.heap.size + 1, 0, none⟩) m m) (apart k ++ List.replicate (m - k) 0) ∧ Below (w.heap.size + 1) (w.alloc (.cells #[.int .i64 (m : Int), .slice A ls.length c] 26)) wr) (fun i _ => m - (intOf i).toNat)
  case atStart => exact ⟨0, by omega, rfl, own0, b1⟩
  case round =>
    obtain ⟨k, hk, rfl, hown, hbel⟩ := hrel
    obtain ⟨x0, x1, -, bw⟩ := BX.out wr hbel
    by_cases hlt : k < m
    · have hlen : (apart k ++ List.replicate (m - k) (0 : Int)).length = m := by simp [apart]; omega
      obtain ⟨g, c', e1, _, _, rg, f0⟩ := hown.spot (k := k) (by rw [hlen]; exact hlt)
      simp only [Value.slice.injEq, Option.some.injEq, Addr.mk.injEq] at e1
      obtain ⟨⟨rfl, _⟩, hloop, _⟩ := e1
      clear hloop
      obtain ⟨xk, hxk⟩ : ∃ xk : Value, wr.cell? ⟨w.heap.size + 1, k, none⟩ = some xk := ⟨_, rg⟩
      have st := hown.set hlen.symm k (k : Int)
      rw [apart_set m k hlt] at st
      have ST := Lib.hid st
      have B := Lib.hid hbel
      have hsz := hbel.size
      simp only [World.size_alloc] at hsz
      have hk0 : (0 : Int) ≤ (k : Int) := by omega
      have hk1 : (k : Int) < (m : Int) := by omega
      clear rg st hown hlen hbel
      go_wp2
      exact ⟨⟨k + 1, by omega, by go_num, ST.out.1, B.out.grown ST.out.2 hsz (by simp)⟩, by simp [intOf]; omega⟩
    · obtain rfl : m = k := by omega
      have hfin : OwnI wr (w.heap.size + 1) (.slice (some ⟨w.heap.size + 1, 0, none⟩) m m) (apart m) := by simpa using hown
      have hap : (apart m).length = m := by simp [apart]
      have B := Lib.hid hbel
      clear hown hbel
      go_wp2_with fail
      clear x0 x1 bw own0 b1 C
      go_loopw [5] (fun i wr => ∃ (k : Nat) (P : List Int), k ≤ ls.length ∧ i = .int .i64 k ∧ Hid (P.length = m) ∧ OwnI wr (w.heap.size + 1) (.slice (some ⟨w.heap.size + 1, 0, none⟩) m m) P ∧ Below (w.heap.size + 1) (w.alloc (.cells #[.int .i64 (m : Int), .slice A ls.length c] 26)) wr ∧ Hid (joinRun m (ls.drop k) P = joinRun m ls (apart m))) (fun i _ => ls.length - (intOf i).toNat)
      case atStart => exact ⟨0, apart m, by omega, rfl, hap, hfin, B.out, rfl⟩
      case round =>
        clear hfin B hap
        obtain ⟨k, P, hk, rfl, hP, hown, hbel, hrun⟩ := hrel
        obtain ⟨x0, x1, ol, bw⟩ := BX.out _ hbel
        by_cases hlt : k < ls.length
        · obtain ⟨g, c', e1, _, lg, rg, _⟩ := ol.spot hlt
          simp only [Value.slice.injEq] at e1
          obtain ⟨rfl, hloop, rfl⟩ := e1
          clear hloop
          have r0 : wr.cell? ⟨g, k * 3, none⟩ = some (.int .i64 ls[k].a) := rg 0 _ rfl
          have r1 : wr.cell? ⟨g, k * 3 + 1, none⟩ = some (.int .i64 ls[k].b) := rg 1 _ rfl
          have r2 : wr.cell? ⟨g, k * 3 + 2, none⟩ = some (.int .i64 ls[k].n) := rg 2 _ rfl
          have hk0 : (0 : Int) ≤ (k : Int) := by omega
          have hk1 : (k : Int) < (ls.length : Int) := by omega
          have hsz := hbel.size
          simp only [World.size_alloc] at hsz
          have y0 := fun o : Obj => (World.cell?_alloc_lt wr o ⟨w.heap.size, 0, none⟩ (by show w.heap.size < _; omega)).trans x0
          have y1 := fun o : Obj => (World.cell?_alloc_lt wr o ⟨w.heap.size, 1, none⟩ (by show w.heap.size < _; omega)).trans x1
          clear rg ol hlm
          by_cases hrg : (0 ≤ ls[k].a ∧ ls[k].a ≤ (m : Int) - 1) ∧ (0 ≤ ls[k].b ∧ ls[k].b ≤ (m : Int) - 1) ∧ (1 ≤ ls[k].n ∧ ls[k].n ≤ 100)
          · have Ca := Lib.hid (fun v lo hi W => l01In_any v lo hi W)
            obtain ⟨⟨ha0, ha1⟩, ⟨hb0, hb1⟩, hn⟩ := id hrg
            obtain ⟨p, hp⟩ := Int.eq_ofNat_of_zero_le ha0
            obtain ⟨q, hq⟩ := Int.eq_ofNat_of_zero_le hb0
            have hpm : p < P.length := by rw [hP.out]; omega
            have hqm : q < P.length := by rw [hP.out]; omega
            have step : joinStep m P ls[k] = if P[p] = P[q] then none else some (P.map fun z => if z = P[q] then P[p] else z) := by
              unfold joinStep
              rw [if_pos hrg, hp, hq, Int.toNat_natCast, Int.toNat_natCast, List.getD_eq_getElem?_getD, List.getD_eq_getElem?_getD, List.getElem?_eq_getElem hpm, List.getElem?_eq_getElem hqm]
              rfl
            have ea : inB (p : Int) 0 ((m : Int) - 1) = true := inB_yes (by omega)
            have eb : inB (q : Int) 0 ((m : Int) - 1) = true := inB_yes (by omega)
            have en := inB_yes hn
            rw [hp] at r0
            rw [hq] at r1
            obtain ⟨gp, _, ep, _, lp, zp, _⟩ := hown.spot hpm
            simp only [Value.slice.injEq, Option.some.injEq, Addr.mk.injEq] at ep
            obtain ⟨⟨rfl, _⟩, em, ec⟩ := ep
            clear em ec
            obtain ⟨gq, _, eq, _, _, zq, _⟩ := hown.spot hqm
            simp only [Value.slice.injEq, Option.some.injEq, Addr.mk.injEq] at eq
            obtain ⟨⟨rfl, _⟩, em, ec⟩ := eq
            clear em ec
            have yp := fun o : Obj => (World.cell?_alloc_lt wr o ⟨w.heap.size + 1, p, none⟩ lp).trans zp
            have yq := fun o : Obj => (World.cell?_alloc_lt wr o ⟨w.heap.size + 1, q, none⟩ lp).trans zq
            have hp0 : (0 : Int) ≤ (p : Int) := by omega
            have hq0 : (0 : Int) ≤ (q : Int) := by omega
            have hp1 : (p : Int) < (m : Int) := by omega
            have hq1 : (q : Int) < (m : Int) := by omega
            have HOWN := Lib.hid hown
            have HB := Lib.hid hbel
            have HQ := Lib.hid (⟨hpm, hqm, hn, lp⟩ : p < P.length ∧ q < P.length ∧ (1 ≤ ls[k].n ∧ ls[k].n ≤ 100) ∧ w.heap.size + 1 < wr.heap.size)
            generalize hx : P[p] = x at zp yp step
            generalize hy : P[q] = y at zq yq step
            clear hown hbel hrg ha0 ha1 hb0 hb1 hp hq hn hx hy
            by_cases hxy : x = y
            · have hres : (joinRun m ls (apart m)).isSome = false := by
                rw [← hrun.out, run_drop hlt, step, if_pos hxy]
                rfl
              subst hxy
              clear step hpm hqm
              go_wp2_with (go_at_call 43; refine (Ca.out _ _ _ _).mono ?_; rintro e w' ⟨rfl, rfl⟩)
              go_returns
              exact ⟨by rw [hres]; rfl, bw.alloc bw.size _⟩
            · rw [if_neg hxy] at step
              have STEP := Lib.hid step
              clear step hpm hqm
              go_wp2_with (go_at_call 43; refine (Ca.out _ _ _ _).mono ?_; rintro e w' ⟨rfl, rfl⟩)
              clear x0 x1 y0 y1 yp yq zp zq r0 r1 r2 ea eb en bw
              go_loopw [9] (fun iv wi => ∃ i : Nat, i ≤ m ∧ iv = .int .i64 i ∧ OwnI wi (w.heap.size + 1) (.slice (some ⟨w.heap.size + 1, 0, none⟩) m m) (renamed x y P i) ∧ Below (w.heap.size + 1) (w.alloc (.cells #[.int .i64 (m : Int), .slice (some ⟨g, 0, none⟩) ls.length c] 26)) wi) (fun iv _ => m - (intOf iv).toNat)
              case atStart => exact ⟨0, by omega, rfl, (by rw [renamed_zero]; exact HOWN.out.alloc _), HB.out.alloc (by have := HQ.out.2.2.2; omega) _⟩
              case round =>
                obtain ⟨i, hi', rfl, hown, hbel⟩ := hrel
                obtain ⟨x0, x1, -, bw⟩ := BX.out _ hbel
                by_cases hlt' : i < m
                · have hiP : i < P.length := by rw [hP.out]; exact hlt'
                  obtain ⟨gi, _, ei, _, li, zi, fi⟩ := hown.spot (k := i) (by rw [renamed_len]; exact hiP)
                  simp only [Value.slice.injEq, Option.some.injEq, Addr.mk.injEq] at ei
                  obtain ⟨⟨rfl, _⟩, em, ec⟩ := ei
                  clear em ec
                  rw [renamed_at x y P hiP] at zi
                  have hi0 : (0 : Int) ≤ (i : Int) := by omega
                  have hi1 : (i : Int) < (m : Int) := by omega
                  have hsz' := hbel.size
                  simp only [World.size_alloc] at hsz'
                  by_cases hz : P[i] = y
                  · have st := hown.set (by rw [renamed_len]; exact hP.out.symm) i x
                    rw [← renamed_hit hiP hz] at st
                    have ST := Lib.hid st
                    have B := Lib.hid hbel
                    rw [hz] at zi
                    clear st hown hbel hz hiP
                    go_wp2
                    exact ⟨⟨i + 1, by omega, by go_num, ST.out.1, B.out.grown ST.out.2 hsz' (by simp)⟩, by simp [intOf]; omega⟩
                  · have hno : OwnI wr (w.heap.size + 1) (.slice (some ⟨w.heap.size + 1, 0, none⟩) m m) (renamed x y P (i + 1)) := by rw [renamed_miss hiP hz]; exact hown
                    have B := Lib.hid hbel
                    have HN := Lib.hid hno
                    generalize P[i] = z at zi hz
                    clear hno hown hbel hiP
                    go_wp2
                    exact ⟨⟨i + 1, by omega, by go_num, HN.out, B.out⟩, by simp [intOf]; omega⟩
                · have hfin : OwnI wr (w.heap.size + 1) (.slice (some ⟨w.heap.size + 1, 0, none⟩) m m) (P.map fun z => if z = y then x else z) := by
                    rw [show i = m by omega] at hown
                    rw [← renamed_all, hP.out]
                    exact hown
                  have B := Lib.hid hbel
                  have F := Lib.hid hfin
                  clear hfin hown hbel
                  obtain rfl : m = i := by omega
                  go_wp2
                  exact ⟨⟨k + 1, P.map fun z => if z = y then x else z, by omega, by go_num, (by rw [List.length_map]; exact hP.out), F.out, B.out, (by rw [← hrun.out, run_drop hlt, STEP.out]; rfl)⟩, by simp [intOf]; omega⟩
          · have hres : (joinRun m ls (apart m)).isSome = false := by
              rw [← hrun.out, run_drop hlt, joinStep, if_neg hrg]
              rfl
            clear hown
            have Ca := Lib.hid (fun v lo hi W => l01In_any v lo hi W)
            by_cases ha : 0 ≤ ls[k].a ∧ ls[k].a ≤ (m : Int) - 1
            · have ea := inB_yes ha
              by_cases hbb : 0 ≤ ls[k].b ∧ ls[k].b ≤ (m : Int) - 1
              · have eb := inB_yes hbb
                have en := inB_no (v := ls[k].n) (lo := 1) (hi := 100) (fun x => hrg ⟨ha, hbb, x⟩)
                clear ha hbb hrg
                go_wp2_with (go_at_call 43; refine (Ca.out _ _ _ _).mono ?_; rintro e w' ⟨rfl, rfl⟩)
                go_returns
                exact ⟨by rw [hres]; rfl, bw.alloc bw.size _⟩
              · have eb := inB_no hbb
                clear ha hbb hrg
                go_wp2_with (go_at_call 43; refine (Ca.out _ _ _ _).mono ?_; rintro e w' ⟨rfl, rfl⟩)
                go_returns
                exact ⟨by rw [hres]; rfl, bw.alloc bw.size _⟩
            · have ea := inB_no ha
              clear ha hrg
              go_wp2_with (go_at_call 43; refine (Ca.out _ _ _ _).mono ?_; rintro e w' ⟨rfl, rfl⟩)
              go_returns
              exact ⟨by rw [hres]; rfl, bw.alloc bw.size _⟩
        · have hke : k = ls.length := by omega
          subst hke
          have hres : (joinRun m ls (apart m)).isSome = true := by
            rw [← hrun.out, List.drop_length]
            rfl
          clear ol hown hbel
          go_wp2
          go_ret
          exact ⟨by rw [hres]; rfl, bw⟩

theorem specOk (J : Int) (v : Value) (ls : List Lb) (base : Nat) (w : World) (hown : OwnL w base v ls) :
    Calls Try.prog 42 #[bodyV J v] w fun e w' => e = .returned (.bool (bodyOk J ls)) ∧ Below w.heap.size w w' := by
  by_cases h1 : 1 ≤ J ∧ J ≤ 12
  · by_cases h2 : (ls.length : Int) = J - 1
    · rw [bodyOk_run h1 h2]
      obtain ⟨m, rfl⟩ := Int.eq_ofNat_of_zero_le (show 0 ≤ J by omega)
      exact specOk_run m v ls base w hown (by omega) (by omega)
    · rw [bodyOk_count h2]
      exact specOk_bad J v ls base w hown (.inr h2)
  · rw [bodyOk_range h1]
    exact specOk_bad J v ls base w hown (.inl h1)
end Go.Proofs.Ytblbmppbbhibeaa
