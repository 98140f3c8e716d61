/- The contracts of the two functions LimbsAt. Condition: the limbs lie in a row of their own. -/
import Derived.Test.YtgmcinnajhbgfaaLenW
namespace Go.Proofs.Ytgmcinnajhbgfaa
open Go.RowKit

def limbsAt (J j : Int) (ls : List Lb) : List Int := if bodyOk J ls = true ∧ (0 ≤ j ∧ j < J) then incs ls j.toNat ls.length else []
theorem limbsAt_no {J j : Int} {ls : List Lb} (h : ¬ (bodyOk J ls = true ∧ (0 ≤ j ∧ j < J))) : limbsAt J j ls = [] := if_neg h
theorem limbsAt_yes {J : Int} {ls : List Lb} {j : Nat} (h : bodyOk J ls = true) (hj : (j : Int) < J) : limbsAt J j ls = incs ls j ls.length := by
  unfold limbsAt
  rw [if_pos ⟨h, by omega, hj⟩, Int.toNat_natCast]
theorem limbsAt_len (J j : Int) (ls : List Lb) : (limbsAt J j ls).length ≤ ls.length := by
  unfold limbsAt
  split
  · exact incs_len _ _ _
  · simp

def IntsPost (w : World) (zs : List Int) (e : Ending) (w' : World) : Prop := ∃ v, e = .returned v ∧ OwnI w' w.heap.size v zs ∧ Below w.heap.size w w'

theorem ownI_empty (w : World) (base g : Nat) (cs : Array Value) (hg : g = w.heap.size) (hb : base ≤ g) (hs : cs.size = 0) : OwnI (w.alloc (.cells cs 3)) base (.slice (some ⟨g, 0, none⟩) 0 0) [] := by
  subst hg
  exact ⟨rfl, .inr ⟨w.heap.size, 0, cs, rfl, hb, heap_alloc_new w _, Nat.le_refl _, Nat.zero_le _, by omega, by simp⟩⟩

theorem specAt_world {w w1 : World} {J : Int} {A : Option Addr} {n c : Nat} {cs : Array Value} {t : TypeId}
    (b1 : Below ((w.alloc (.cells #[.int .i64 J, .slice A n c] 26)).alloc (.cells cs t)).heap.size ((w.alloc (.cells #[.int .i64 J, .slice A n c] 26)).alloc (.cells cs t)) w1) :
    Below (w.heap.size + 1) (w.alloc (.cells #[.int .i64 J, .slice A n c] 26)) w1 := by
  refine Below.trans ((Below.refl _ _).alloc (by simp) _) (b1.mono (by simp <;> omega))
theorem OwnI.moved {w w' : World} {base : Nat} {v : Value} {zs : List Int} (h : OwnI w base v zs) (hb : Below w.heap.size w w') : OwnI w' base v zs := h.below hb
theorem ints_snoc_below {w0 wr w1 : World} {B : Nat} {o : Obj} {v : Value} {zs : List Int} (hb : Below B w0 wr) (hB : B ≤ wr.heap.size) (hown : OwnI wr B v zs) (hg : (wr.alloc o).grownBy w1 v.ownBlock) : Below B w0 w1 :=
  (hb.alloc hB o).grown hg (by simp; omega) (fun k hk => (hown.lt k hk).1)

set_option maxRecDepth 100000 in
set_option maxHeartbeats 800000 in
theorem specAt_no (J j : Int) (v : Value) (ls : List Lb) (base : Nat) (w : World) (hown : OwnL w base v ls) (h : ¬ (bodyOk J ls = true ∧ (0 ≤ j ∧ j < J))) :
    Calls Try.prog 24 #[bodyV J v, .int .i64 j] w (IntsPost w []) := by
  have CS := Lib.hid (fun W h => specOk J v ls base W h)
  have C2 := Lib.hid (fun v lo hi W => l01In_any v lo hi W)
  obtain ⟨A, c, e⟩ := hown.slice
  subst e
  have OWN := Lib.hid hown
  have BX := Lib.hid (box_facts (J := J) hown)
  clear hown
  unfold bodyV at CS ⊢
  have O0 := Lib.hid (ownI_empty (w.alloc (.cells #[.int .i64 J, .slice A ls.length c] 26)) w.heap.size (w.heap.size + 1) #[] (by simp) (by omega) rfl)
  cases hok : bodyOk J ls with
  | false =>
    rw [hok] at CS
    clear h hok
    go_enter Try.func24, Try.ntmps24
    go_wp2_with fail
    refine (CS.out _ ((OWN.out.alloc _).alloc _)).mono ?_
    rintro e w1 ⟨rfl, b1⟩
    have O1 := Lib.hid (O0.out.moved b1)
    obtain ⟨x0, x1, -, bw⟩ := BX.out w1 (specAt_world b1)
    clear b1
    go_wp2
    go_ret
    exact ⟨_, rfl, O1.out, bw⟩
  | true =>
    rw [hok] at CS
    have hj : ¬ (0 ≤ j ∧ j ≤ J - 1) := fun x => h ⟨hok, by omega⟩
    have hin := inB_no hj
    have hJ := ok_len hok
    have hJ1 : 1 ≤ J := hJ.2.2.1
    have hJ2 : J ≤ 12 := hJ.2.2.2
    clear h hok hj hJ
    go_enter Try.func24, Try.ntmps24
    go_wp2_with fail
    refine (CS.out _ ((OWN.out.alloc _).alloc _)).mono ?_
    rintro e w1 ⟨rfl, b1⟩
    have O1 := Lib.hid (O0.out.moved b1)
    obtain ⟨x0, x1, -, bw⟩ := BX.out w1 (specAt_world b1)
    clear b1
    go_wp2_with (go_at_call 42; refine (C2.out _ _ _ _).mono ?_; rintro e w' ⟨rfl, rfl⟩)
    go_ret
    exact ⟨_, rfl, O1.out, bw⟩

set_option maxRecDepth 100000 in
set_option maxHeartbeats 800000 in
theorem specAt_yes (J : Int) (j : Nat) (v : Value) (ls : List Lb) (base : Nat) (w : World) (hown : OwnL w base v ls) (hok : bodyOk J ls = true) (hj : (j : Int) < J) :
    Calls Try.prog 24 #[bodyV J v, .int .i64 (j : Int)] w (IntsPost w (incs ls j ls.length)) := by
  have CS := Lib.hid (fun W h => hok ▸ specOk J v ls base W h)
  have C2 := Lib.hid (fun v lo hi W => l01In_any v lo hi W)
  obtain ⟨A, c, e⟩ := hown.slice
  subst e
  have OWN := Lib.hid hown
  have BX := Lib.hid (box_facts (J := J) hown)
  clear hown
  unfold bodyV at CS ⊢
  have O0 := Lib.hid (ownI_empty (w.alloc (.cells #[.int .i64 J, .slice A ls.length c] 26)) (w.heap.size + 1) (w.heap.size + 1) #[] (by simp) (by omega) rfl)
  have hin := inB_yes (v := (j : Int)) (lo := 0) (hi := J - 1) ⟨by omega, by omega⟩
  obtain ⟨hll, -, hJ1, hJ2⟩ := ok_len hok
  obtain ⟨i0, hi0, hz0, hz1, hz2⟩ := info_parts info_int
  have hpos : 0 < 1 := by omega
  clear hok hj
  go_enter Try.func24, Try.ntmps24
  go_wp2_with fail
  refine (CS.out _ ((OWN.out.alloc _).alloc _)).mono ?_
  rintro e w1 ⟨rfl, b1⟩
  have O1 := Lib.hid (O0.out.moved b1)
  have b2 := specAt_world b1
  obtain ⟨x0, x1, -, bw⟩ := BX.out w1 b2
  clear b1
  go_wp2_with (go_at_call 42; refine (C2.out _ _ _ _).mono ?_; rintro e w' ⟨rfl, rfl⟩)
  clear x0 x1 bw
  go_loopw [5, 6] (fun ov iv wr => ∃ (k : Nat) (vo : Value), vo = ov ∧ k ≤ ls.length ∧ iv = .int .i64 (k : Int) ∧ OwnI wr (w.heap.size + 1) vo (incs ls j k) ∧ Below (w.heap.size + 1) (w.alloc (.cells #[.int .i64 J, .slice A ls.length c] 26)) wr) (fun _ iv _ => ls.length - (intOf iv).toNat)
  case atStart => exact ⟨0, _, rfl, by omega, rfl, O1.out, b2⟩
  case round =>
    clear b2 O1
    obtain ⟨k, vo, rfl, hk, rfl, hown, hbel⟩ := hrel
    obtain ⟨x0, x1, ol, bw⟩ := BX.out wr hbel
    by_cases hlt : k < ls.length
    · obtain ⟨g, c', e1, _, lg, rg, _⟩ := ol.spot hlt
      simp only [Value.slice.injEq] at e1
      obtain ⟨rfl, hloop, rfl⟩ := e1
      clear hloop
      have r0 : wr.cell? ⟨g, k * 3, none⟩ = some (.int .i64 ls[k].a) := rg 0 _ rfl
      have r1 : wr.cell? ⟨g, k * 3 + 1, none⟩ = some (.int .i64 ls[k].b) := rg 1 _ rfl
      have hk0 : (0 : Int) ≤ (k : Int) := by omega
      have hk1 : (k : Int) < (ls.length : Int) := by omega
      have hsz := hbel.size
      simp only [World.size_alloc] at hsz
      have HI := Lib.hid (show incs ls j (k + 1) = incs ls j k ++ if ls[k].a = (j : Int) ∨ ls[k].b = (j : Int) then [(k : Int)] else [] by rw [incs_succ, limbAt_lt hlt])
      have HO := Lib.hid hown
      have HB := Lib.hid hbel
      have hin := incs_len ls j k
      have hmax : (incs ls j k).length + 1 ≤ maxLen := by simp only [maxLen]; omega
      have hbd : ((incs ls j k).length + 1) * 8 ≤ 140737488355328 := by omega
      clear rg ol bw hbel
      generalize ls[k].a = x at r0 HI
      generalize ls[k].b = y at r1 HI
      by_cases hx : x = (j : Int)
      · have HI' := Lib.hid (show incs ls j (k + 1) = incs ls j k ++ [(k : Int)] by rw [HI.out, if_pos (.inl hx)])
        rw [hx] at r0
        clear hx HI
        go_wp2_with (at_builtin; refine wpList_append_lies _ rfl (.tmp 45) (.tmp 47) 28 rfl (w.heap.size + 1) 3 i0 (.int .i64 0) 1 8 Try.underlying28 hi0 hz0 hz1 hz2 rfl hpos vo _ _ rfl (hown.alloc _) ⟨wr.heap.size, 0, none⟩ 1 1 [.int .i64 (k : Int)] rfl rfl (cell_one_new _ _ _) ?_ hpos hmax hbd ?_ (wr.heap.size + 1) ?_ ?_; (simp [Value.oneCell']); (simp; omega); (simp); intro gg cap w2 hown1 hgrow hat hlt')
        exact ⟨⟨k + 1, _, rfl, by omega, by go_num, (by rw [HI'.out]; exact ownI_snoc hown1), ints_snoc_below HB.out hsz HO.out hgrow⟩, by simp [intOf]; omega⟩
      · by_cases hy : y = (j : Int)
        · have HI' := Lib.hid (show incs ls j (k + 1) = incs ls j k ++ [(k : Int)] by rw [HI.out, if_pos (.inr hy)])
          have hxb : (x == (j : Int)) = false := by simpa using hx
          rw [hy] at r1
          clear hy hx HI
          go_wp2_with (at_builtin; refine wpList_append_lies _ rfl (.tmp 45) (.tmp 47) 28 rfl (w.heap.size + 1) 3 i0 (.int .i64 0) 1 8 Try.underlying28 hi0 hz0 hz1 hz2 rfl hpos vo _ _ rfl (hown.alloc _) ⟨wr.heap.size, 0, none⟩ 1 1 [.int .i64 (k : Int)] rfl rfl (cell_one_new _ _ _) ?_ hpos hmax hbd ?_ (wr.heap.size + 1) ?_ ?_; (simp [Value.oneCell']); (simp; omega); (simp); intro gg cap w2 hown1 hgrow hat hlt')
          exact ⟨⟨k + 1, _, rfl, by omega, by go_num, (by rw [HI'.out]; exact ownI_snoc hown1), ints_snoc_below HB.out hsz HO.out hgrow⟩, by simp [intOf]; omega⟩
        · have HI' := Lib.hid (show incs ls j (k + 1) = incs ls j k by rw [HI.out, if_neg (by omega), List.append_nil])
          have hxb : (x == (j : Int)) = false := by simpa using hx
          have hyb : (y == (j : Int)) = false := by simpa using hy
          clear hown hx hy HI
          go_wp2
          exact ⟨⟨k + 1, _, rfl, by omega, by go_num, (by rw [HI'.out]; exact HO.out), HB.out⟩, by simp [intOf]; omega⟩
    · obtain rfl : k = ls.length := by omega
      have HO := Lib.hid (hown.mono (b := w.heap.size) (by omega))
      clear hown
      go_wp2
      go_ret
      exact ⟨_, rfl, HO.out, bw⟩

theorem specAt (J j : Int) (v : Value) (ls : List Lb) (base : Nat) (w : World) (hown : OwnL w base v ls) :
    Calls Try.prog 24 #[bodyV J v, .int .i64 j] w (IntsPost w (limbsAt J j ls)) := by
  by_cases h : bodyOk J ls = true ∧ (0 ≤ j ∧ j < J)
  · obtain ⟨m, rfl⟩ := Int.eq_ofNat_of_zero_le h.2.1
    rw [limbsAt_yes h.1 h.2.2]
    exact specAt_yes J m v ls base w hown h.1 h.2.2
  · rw [limbsAt_no h]
    exact specAt_no J j v ls base w hown h

set_option maxRecDepth 100000 in
set_option maxHeartbeats 800000 in
theorem implAt_no (J j : Int) (v : Value) (ls : List Lb) (base : Nat) (w : World) (hown : OwnL w base v ls) (hl : ls.length ≤ 2000000) (h : ¬ (bodyOk J ls = true ∧ (0 ≤ j ∧ j < J))) :
    Calls Try.prog 13 #[bodyV J v, .int .i64 j] w (IntsPost w []) := by
  have CS := Lib.hid (fun W h => implOk J v ls base W h hl)
  obtain ⟨A, c, e⟩ := hown.slice
  subst e
  have C2 := Lib.hid (fun j W => hasJoint_any J j A ls.length c W)
  have OWN := Lib.hid hown
  have BX := Lib.hid (box_facts (J := J) hown)
  clear hown
  unfold bodyV at CS ⊢
  cases hok : bodyOk J ls with
  | false =>
    rw [hok] at CS
    clear h hok
    go_enter Try.func13, Try.ntmps13
    go_wp2_with fail
    refine (CS.out _ (OWN.out.alloc _)).mono ?_
    rintro e w1 ⟨rfl, b1⟩
    simp only [World.size_alloc] at b1
    obtain ⟨x0, x1, -, bw⟩ := BX.out w1 b1
    clear b1
    go_wp2
    go_ret
    exact ⟨_, rfl, ⟨rfl, .inl ⟨rfl, rfl⟩⟩, bw⟩
  | true =>
    rw [hok] at CS
    have hj : ¬ (0 ≤ j ∧ j < J) := fun x => h ⟨hok, x⟩
    have hin := hasB_no hj
    clear h hok hj
    go_enter Try.func13, Try.ntmps13
    go_wp2_with fail
    refine (CS.out _ (OWN.out.alloc _)).mono ?_
    rintro e w1 ⟨rfl, b1⟩
    simp only [World.size_alloc] at b1
    obtain ⟨x0, x1, -, bw⟩ := BX.out w1 b1
    clear b1
    go_wp2_with (go_at_call 37; refine (C2.out _ _).mono ?_; rintro e w' ⟨rfl, rfl⟩)
    go_ret
    exact ⟨_, rfl, ⟨rfl, .inl ⟨rfl, rfl⟩⟩, bw.alloc bw.size _⟩

set_option maxRecDepth 100000 in
set_option maxHeartbeats 800000 in
theorem implAt_yes (m j : Nat) (v : Value) (ls : List Lb) (base : Nat) (w : World) (hown : OwnL w base v ls) (hok : bodyOk m ls = true) (hj : j < m) :
    Calls Try.prog 13 #[bodyV (m : Int) v, .int .i64 (j : Int)] w (IntsPost w (incs ls j ls.length)) := by
  obtain ⟨hll, hlm, hJ1, hJ2⟩ := ok_len hok
  have CS := Lib.hid (fun W h => hok ▸ implOk m v ls base W h (by omega))
  have CL := Lib.hid (fun W h => link_any m v ls base W h (ok_fits hok) (by omega) (by omega))
  obtain ⟨A, c, e⟩ := hown.slice
  subst e
  have C2 := Lib.hid (fun j W => hasJoint_any m j A ls.length c W)
  have OWN := Lib.hid hown
  have BX := Lib.hid (box_facts (J := (m : Int)) hown)
  unfold bodyV at CS CL ⊢
  have hin := hasB_yes (J := (m : Int)) (j := (j : Int)) ⟨by omega, by omega⟩
  have hj0 : (0 : Int) ≤ (j : Int) := by omega
  have hj1 : (j : Int) < (m : Int) := by omega
  clear hok hlm hown
  go_enter Try.func13, Try.ntmps13
  go_wp2_with fail
  refine (CS.out _ (OWN.out.alloc _)).mono ?_
  rintro e w1 ⟨rfl, b1⟩
  simp only [World.size_alloc] at b1
  have X1 := Lib.hid (BX.out w1 b1)
  obtain ⟨x0, x1, -, -⟩ := X1.out
  obtain ⟨y0, -, -⟩ := elder x0
  obtain ⟨y1, -, -⟩ := elder x1
  have hb1 := b1.size
  clear b1
  go_wp2_with (go_at_call 37; refine (C2.out _ _).mono ?_; rintro e w' ⟨rfl, rfl⟩)
  refine (CL.out _ (X1.out.2.2.1.alloc _)).mono ?_
  rintro e w2 ⟨g, bs, pb, vl, vb, rfl, hg, hgb, hsz2, net2, row2, b2⟩
  obtain ⟨_, _, ep, _, _, z⟩ := row2.spot (k := j) (by simpa using hj)
  simp only [Value.slice.injEq, Option.some.injEq, Addr.mk.injEq] at ep
  obtain ⟨⟨rfl, _⟩, em, ec⟩ := ep
  clear em ec
  simp only [List.getElem_map, List.getElem_range] at z
  have z0 := net2.cell0 hj
  have HO := Lib.hid ((net2.ints j hj).mono (b := w.heap.size) (by simp only [World.size_alloc] at hg hb1; omega))
  have HB := Lib.hid ((X1.out.2.2.2.alloc X1.out.2.2.2.size (.cells #[.int .i64 (m : Int), .slice A ls.length c] 26)).trans (b2.mono (by simp only [World.size_alloc] at hb1 ⊢; omega)))
  clear net2 row2 b2 x0 x1 y0 y1
  generalize vl j = vj at z0 HO
  go_wp2
  go_ret
  exact ⟨_, rfl, HO.out, HB.out⟩

theorem implAt (J j : Int) (v : Value) (ls : List Lb) (base : Nat) (w : World) (hown : OwnL w base v ls) (hl : ls.length ≤ 2000000) :
    Calls Try.prog 13 #[bodyV J v, .int .i64 j] w (IntsPost w (limbsAt J j ls)) := by
  by_cases h : bodyOk J ls = true ∧ (0 ≤ j ∧ j < J)
  · obtain ⟨k, rfl⟩ := Int.eq_ofNat_of_zero_le h.2.1
    obtain ⟨m, rfl⟩ := Int.eq_ofNat_of_zero_le (show 0 ≤ J by have := h.2.2; omega)
    rw [limbsAt_yes h.1 h.2.2]
    exact implAt_yes m k v ls base w hown h.1 (by omega)
  · rw [limbsAt_no h]
    exact implAt_no J j v ls base w hown hl h
end Go.Proofs.Ytgmcinnajhbgfaa
