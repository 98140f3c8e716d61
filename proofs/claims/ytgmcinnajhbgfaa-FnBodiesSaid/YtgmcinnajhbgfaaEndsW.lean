/- The contracts of the two functions EndsOf. Condition: the limbs lie in a row of their own. -/
import Derived.Test.YtgmcinnajhbgfaaAtW
namespace Go.Proofs.Ytgmcinnajhbgfaa
open Go.RowKit

def endsTo (ls : List Lb) : Nat → List Int
  | 0 => []
  | i + 1 => endsTo ls i ++ if (incs ls i ls.length).length ≤ 1 then [(i : Int)] else []
theorem endsTo_succ (ls : List Lb) (i : Nat) : endsTo ls (i + 1) = endsTo ls i ++ if (incs ls i ls.length).length ≤ 1 then [(i : Int)] else [] := rfl
theorem endsTo_len (ls : List Lb) (i : Nat) : (endsTo ls i).length ≤ i := by
  induction i with
  | zero => simp [endsTo]
  | succ i ih =>
    rw [endsTo_succ]
    split <;> simp <;> omega
def endsOf (J : Int) (ls : List Lb) : List Int := if bodyOk J ls = true then endsTo ls J.toNat else []
theorem endsOf_no {J : Int} {ls : List Lb} (h : bodyOk J ls = false) : endsOf J ls = [] := by simp [endsOf, h]
theorem endsOf_yes {m : Nat} {ls : List Lb} (h : bodyOk m ls = true) : endsOf m ls = endsTo ls m := by simp [endsOf, h]
theorem endsOf_len (J : Int) (ls : List Lb) : (endsOf J ls).length ≤ ls.length + 1 := by
  unfold endsOf
  split
  · rename_i h
    have := ok_len h
    exact Nat.le_trans (endsTo_len _ _) (by omega)
  · simp

set_option maxRecDepth 100000 in
set_option maxHeartbeats 800000 in
theorem specEnds_no (J : Int) (v : Value) (ls : List Lb) (base : Nat) (w : World) (hown : OwnL w base v ls) (hok : bodyOk J ls = false) :
    Calls Try.prog 29 #[bodyV J v] w (IntsPost w []) := by
  have CS := Lib.hid (fun W h => hok ▸ specOk J v ls base W h)
  obtain ⟨A, c, e⟩ := hown.slice
  subst e
  have OWN := Lib.hid hown
  clear hown hok
  unfold bodyV at CS ⊢
  have O0 := Lib.hid (ownI_empty (w.alloc (.cells #[.int .i64 J, .slice A ls.length c] 26)) w.heap.size (w.heap.size + 1) #[] (by simp) (by omega) rfl)
  go_enter Try.func29, Try.ntmps29
  go_wp2
  go_loopw [3, 4] (fun ov iv wr => ov = .slice (some ⟨w.heap.size + 1, 0, none⟩) 0 0 ∧ iv = .int .i64 0 ∧ wr = (w.alloc (.cells #[.int .i64 J, .slice A ls.length c] 26)).alloc (.cells #[] 3)) (fun _ _ _ => 0)
  case atStart => exact ⟨rfl, rfl, rfl⟩
  case round =>
    obtain ⟨rfl, rfl, rfl⟩ := hrel
    have hB : Below w.heap.size w ((w.alloc (.cells #[.int .i64 J, .slice A ls.length c] 26)).alloc (.cells #[] 3)) := ((Below.refl _ _).alloc (Nat.le_refl _) _).alloc (by simp) _
    by_cases hJ : 0 < J
    · go_wp2_with fail
      refine (CS.out _ ((OWN.out.alloc _).alloc _)).mono ?_
      rintro e w1 ⟨rfl, b1⟩
      have O1 := Lib.hid (O0.out.moved b1)
      have hB1 := hB.trans (b1.mono hB.size)
      clear b1
      go_wp2
      go_ret
      exact ⟨_, rfl, O1.out, hB1⟩
    · have hJ' : J ≤ 0 := by omega
      go_wp2
      go_ret
      exact ⟨_, rfl, O0.out, hB⟩

set_option maxRecDepth 100000 in
set_option maxHeartbeats 1600000 in
theorem specEnds_yes (m : Nat) (v : Value) (ls : List Lb) (base : Nat) (w : World) (hown : OwnL w base v ls) (hok : bodyOk m ls = true) :
    Calls Try.prog 29 #[bodyV (m : Int) v] w (IntsPost w (endsTo ls m)) := by
  have CS := Lib.hid (fun W h => hok ▸ specOk m v ls base W h)
  have CA := Lib.hid (fun (j : Nat) (hj : (j : Int) < (m : Int)) W h => limbsAt_yes hok hj ▸ specAt m j v ls base W h)
  obtain ⟨A, c, e⟩ := hown.slice
  subst e
  have OWN := Lib.hid hown
  have BX := Lib.hid (box_facts (J := (m : Int)) hown)
  obtain ⟨hll, -, hJ1, hJ2⟩ := ok_len hok
  clear hown hok
  unfold bodyV at CS CA ⊢
  have O0 := Lib.hid (ownI_empty (w.alloc (.cells #[.int .i64 (m : Int), .slice A ls.length c] 26)) (w.heap.size + 1) (w.heap.size + 1) #[] (by simp) (by omega) rfl)
  obtain ⟨i0, hi0, hz0, hz1, hz2⟩ := info_parts info_int
  have hpos : 0 < 1 := by omega
  go_enter Try.func29, Try.ntmps29
  go_wp2
  go_loopw [3, 4] (fun ov iv wr => ∃ (k : Nat) (vo : Value), vo = ov ∧ k ≤ m ∧ iv = .int .i64 (k : Int) ∧ OwnI wr (w.heap.size + 1) vo (endsTo ls k) ∧ Below (w.heap.size + 1) (w.alloc (.cells #[.int .i64 (m : Int), .slice A ls.length c] 26)) wr) (fun _ iv _ => m - (intOf iv).toNat)
  case atStart => exact ⟨0, _, rfl, by omega, rfl, O0.out, ((Below.refl _ _).alloc (by simp) _)⟩
  case round =>
    obtain ⟨k, vo, rfl, hk, rfl, hown, hbel⟩ := hrel
    have X := Lib.hid (BX.out wr hbel)
    obtain ⟨x0, x1, -, -⟩ := X.out
    have hsz := hbel.size
    simp only [World.size_alloc] at hsz
    by_cases hlt : k < m
    · have hk1 : (k : Int) < (m : Int) := by omega
      have hk0 : (0 : Int) ≤ (k : Int) := by omega
      have HO := Lib.hid hown
      have HB := Lib.hid hbel
      clear hown hbel
      go_wp2_with fail
      refine (CS.out _ X.out.2.2.1).mono ?_
      rintro e w1 ⟨rfl, b1⟩
      have HO1 := Lib.hid (HO.out.moved b1)
      have HB1 := Lib.hid (HB.out.trans (b1.mono hsz))
      have X1 := Lib.hid (BX.out w1 HB1.out)
      have hsz1 := Nat.le_trans hsz b1.size
      clear b1 x0 x1 X
      obtain ⟨x0, x1, -, -⟩ := X1.out
      go_wp2_with fail
      refine (CA.out k hk1 _ X1.out.2.2.1).mono ?_
      rintro e w2 ⟨vl, rfl, ol, b2⟩
      obtain ⟨Al, cl, rfl⟩ := ol.slice
      have HO2 := Lib.hid (HO1.out.moved b2)
      have HB2 := Lib.hid (HB1.out.trans (b2.mono hsz1))
      have hsz2 := Nat.le_trans hsz1 b2.size
      have hil := incs_len ls k ls.length
      have HE := Lib.hid (endsTo_succ ls k)
      have hel := endsTo_len ls k
      have hmax : (endsTo ls k).length + 1 ≤ maxLen := by simp only [maxLen]; omega
      have hbd : ((endsTo ls k).length + 1) * 8 ≤ 140737488355328 := by omega
      have own2 := HO2.out
      clear b2 x0 x1 X1 ol
      generalize (incs ls k ls.length).length = n at hil HE
      by_cases hn : n ≤ 1
      · have HE' := Lib.hid (show endsTo ls (k + 1) = endsTo ls k ++ [(k : Int)] by rw [HE.out, if_pos hn])
        clear HE
        go_wp2_with (at_builtin; refine wpList_append_lies _ rfl (.tmp 21) (.tmp 23) 28 rfl (w.heap.size + 1) 3 i0 (.int .i64 0) 1 8 Try.underlying28 hi0 hz0 hz1 hz2 rfl hpos vo _ _ rfl (own2.alloc _) ⟨w2.heap.size, 0, none⟩ 1 1 [.int .i64 (k : Int)] rfl rfl (cell_one_new _ _ _) ?_ hpos hmax hbd ?_ (w2.heap.size + 1) ?_ ?_; (simp [Value.oneCell']); (simp; omega); (simp); intro gg cap w3 hown1 hgrow hat hlt')
        exact ⟨⟨k + 1, _, rfl, by omega, by go_num, (by rw [HE'.out]; exact ownI_snoc hown1), ints_snoc_below HB2.out hsz2 HO2.out hgrow⟩, by simp [intOf]; omega⟩
      · have HE' := Lib.hid (show endsTo ls (k + 1) = endsTo ls k by rw [HE.out, if_neg hn, List.append_nil])
        clear HE own2
        go_wp2
        exact ⟨⟨k + 1, _, rfl, by omega, by go_num, (by rw [HE'.out]; exact HO2.out), HB2.out⟩, by simp [intOf]; omega⟩
    · obtain rfl : m = k := by omega
      have HO := Lib.hid (hown.mono (b := w.heap.size) (by omega))
      have HB := Lib.hid X.out.2.2.2
      clear hown hbel
      go_wp2
      go_ret
      exact ⟨_, rfl, HO.out, HB.out⟩

theorem specEnds (J : Int) (v : Value) (ls : List Lb) (base : Nat) (w : World) (hown : OwnL w base v ls) :
    Calls Try.prog 29 #[bodyV J v] w (IntsPost w (endsOf J ls)) := by
  cases h : bodyOk J ls with
  | true =>
    obtain ⟨m, rfl⟩ := Int.eq_ofNat_of_zero_le (show 0 ≤ J by have := ok_len h; omega)
    rw [endsOf_yes h]
    exact specEnds_yes m v ls base w hown h
  | false =>
    rw [endsOf_no h]
    exact specEnds_no J v ls base w hown h

set_option maxRecDepth 100000 in
set_option maxHeartbeats 800000 in
theorem implEnds_no (J : Int) (v : Value) (ls : List Lb) (base : Nat) (w : World) (hown : OwnL w base v ls) (hl : ls.length ≤ 2000000) (hok : bodyOk J ls = false) :
    Calls Try.prog 12 #[bodyV J v] w (IntsPost w []) := by
  have CS := Lib.hid (fun W h => hok ▸ implOk J v ls base W h hl)
  obtain ⟨A, c, e⟩ := hown.slice
  subst e
  have OWN := Lib.hid hown
  clear hown hok
  unfold bodyV at CS ⊢
  go_enter Try.func12, Try.ntmps12
  go_wp2_with fail
  refine (CS.out _ (OWN.out.alloc _)).mono ?_
  rintro e w1 ⟨rfl, b1⟩
  have bw : Below w.heap.size w w1 := ((Below.refl _ _).alloc (Nat.le_refl _) _).trans (b1.mono (by simp))
  clear b1
  go_wp2
  go_ret
  exact ⟨_, rfl, ⟨rfl, .inl ⟨rfl, rfl⟩⟩, bw⟩

set_option maxRecDepth 100000 in
set_option maxHeartbeats 1600000 in
theorem implEnds_yes (m : Nat) (v : Value) (ls : List Lb) (base : Nat) (w : World) (hown : OwnL w base v ls) (hok : bodyOk m ls = true) :
    Calls Try.prog 12 #[bodyV (m : Int) v] w (IntsPost w (endsTo ls m)) := by
  obtain ⟨hll, hlm, hJ1, hJ2⟩ := ok_len hok
  have CS := Lib.hid (fun W h => hok ▸ implOk m v ls base W h (by omega))
  have CL := Lib.hid (fun W h => link_any m v ls base W h (ok_fits hok) (by omega) (by omega))
  obtain ⟨A, c, e⟩ := hown.slice
  subst e
  have OWN := Lib.hid hown
  have BX := Lib.hid (box_facts (J := (m : Int)) hown)
  obtain ⟨i0, hi0, hz0, hz1, hz2⟩ := info_parts info_int
  have hpos : 0 < 1 := by omega
  unfold bodyV at CS CL ⊢
  clear hok hlm hown
  go_enter Try.func12, Try.ntmps12
  go_wp2_with fail
  refine (CS.out _ (OWN.out.alloc _)).mono ?_
  rintro e w1 ⟨rfl, b1⟩
  simp only [World.size_alloc] at b1
  have X1 := Lib.hid (BX.out w1 b1)
  obtain ⟨x0, x1, -, -⟩ := X1.out
  clear b1
  go_wp2_with fail
  refine (CL.out _ X1.out.2.2.1).mono ?_
  rintro e w2 ⟨g, bs, pb, vl, vb, rfl, hg, hgb, hsz2, net2, row2, b2⟩
  have NET := Lib.hid net2
  have ROW := Lib.hid row2
  have HB2 := Lib.hid (X1.out.2.2.2.trans (b2.mono X1.out.2.2.2.size))
  have hww := HB2.out.size
  clear net2 row2 b2 x0 x1
  go_wp2
  go_loopw [3, 12] (fun ov iv wr => ∃ (k : Nat) (vo : Value), vo = ov ∧ k ≤ m ∧ iv = .int .i64 (k : Int) ∧ OwnI wr w2.heap.size vo (endsTo ls k) ∧ Below w2.heap.size w2 wr) (fun _ iv _ => m - (intOf iv).toNat)
  case atStart => exact ⟨0, _, rfl, by omega, rfl, ⟨rfl, .inl ⟨rfl, rfl⟩⟩, Below.refl _ _⟩
  case round =>
    obtain ⟨k, vo, rfl, hk, rfl, hown, hbel⟩ := hrel
    have hsz := hbel.size
    by_cases hlt : k < m
    · have hk1 : (k : Int) < (m : Int) := by omega
      have hk0 : (0 : Int) ≤ (k : Int) := by omega
      have net := NET.out.below hbel
      have row := ROW.out.below hbel
      obtain ⟨_, _, ep, _, _, z⟩ := row.spot (k := k) (by simpa using hlt)
      simp only [Value.slice.injEq, Option.some.injEq, Addr.mk.injEq] at ep
      obtain ⟨⟨rfl, _⟩, em, ec⟩ := ep
      clear em ec
      simp only [List.getElem_map, List.getElem_range] at z
      have z0 := net.cell0 hlt
      obtain ⟨Al, cl, ev⟩ := (net.ints k hlt).slice
      rw [ev] at z0
      have HO := Lib.hid hown
      have HB := Lib.hid hbel
      have hil := incs_len ls k ls.length
      have HE := Lib.hid (endsTo_succ ls k)
      have hel := endsTo_len ls k
      have hmax : (endsTo ls k).length + 1 ≤ maxLen := by simp only [maxLen]; omega
      have hbd : ((endsTo ls k).length + 1) * 8 ≤ 140737488355328 := by omega
      clear net row ev hbel
      generalize (incs ls k ls.length).length = n at hil HE z0
      by_cases hn : n ≤ 1
      · have HE' := Lib.hid (show endsTo ls (k + 1) = endsTo ls k ++ [(k : Int)] by rw [HE.out, if_pos hn])
        clear HE
        go_wp2_with (at_builtin; refine wpList_append_lies _ rfl (.tmp 23) (.tmp 25) 28 rfl w2.heap.size 3 i0 (.int .i64 0) 1 8 Try.underlying28 hi0 hz0 hz1 hz2 rfl hpos vo _ _ rfl (hown.alloc _) ⟨wr.heap.size, 0, none⟩ 1 1 [.int .i64 (k : Int)] rfl rfl (cell_one_new _ _ _) ?_ hpos hmax hbd ?_ (wr.heap.size + 1) ?_ ?_; (simp [Value.oneCell']); (simp; omega); (simp); intro gg cap w3 hown1 hgrow hat hlt')
        exact ⟨⟨k + 1, _, rfl, by omega, by go_num, (by rw [HE'.out]; exact ownI_snoc hown1), ints_snoc_below HB.out hsz HO.out hgrow⟩, by simp [intOf]; omega⟩
      · have HE' := Lib.hid (show endsTo ls (k + 1) = endsTo ls k by rw [HE.out, if_neg hn, List.append_nil])
        clear HE hown
        go_wp2
        exact ⟨⟨k + 1, _, rfl, by omega, by go_num, (by rw [HE'.out]; exact HO.out), HB.out⟩, by simp [intOf]; omega⟩
    · obtain rfl : m = k := by omega
      have HO := Lib.hid (hown.mono (b := w.heap.size) (by omega))
      have HB := Lib.hid (HB2.out.trans (hbel.mono hww))
      clear hown hbel
      go_wp2
      go_ret
      exact ⟨_, rfl, HO.out, HB.out⟩

theorem implEnds (J : Int) (v : Value) (ls : List Lb) (base : Nat) (w : World) (hown : OwnL w base v ls) (hl : ls.length ≤ 2000000) :
    Calls Try.prog 12 #[bodyV J v] w (IntsPost w (endsOf J ls)) := by
  cases h : bodyOk J ls with
  | true =>
    obtain ⟨m, rfl⟩ := Int.eq_ofNat_of_zero_le (show 0 ≤ J by have := ok_len h; omega)
    rw [endsOf_yes h]
    exact implEnds_yes m v ls base w hown h
  | false =>
    rw [endsOf_no h]
    exact implEnds_no J v ls base w hown hl h
end Go.Proofs.Ytgmcinnajhbgfaa
