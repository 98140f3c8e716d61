/- The contract of impl.HangPose: it answers as the model does. Condition: the limbs and the numbers lie in rows of their own. -/
import Derived.Test.YtblbmppbbhibeaaHangF
namespace Go.Proofs.Ytblbmppbbhibeaa
set_option linter.unusedVariables false
set_option linter.unusedSimpArgs false
open Go.RowKit

/-- One joint's height, by the function that hangingFrom hands back. -/
theorem hang_call (m j eb base : Nat) (ls : List Lb) (zs : List Int) (ve : Value) (xs : List (Nat × Nat)) (w : World) (h : pullsOk m ls zs = true) (hj : j < m) (hc : w.cell? ⟨eb, 0, none⟩ = some ve) (ht : Tops w base ve xs (pullAt zs) (farAt m ls zs)) (hx : xs.length = (strs zs).length) :
    Calls Try.prog 66 #[.int .i64 (j : Int), .pointer (some ⟨eb, 0, none⟩)] w fun e w' => e = .returned (.int .i64 (hang m ls zs j)) ∧ Below w.heap.size w w' := by
  obtain ⟨hok, hzl, hzr, -⟩ := pulls_parts h
  obtain ⟨hf, hlm, hm12, -⟩ := ok_parts' hok
  have hd : (100 : Int) * (ls.length : Int) ≤ 1100 := by omega
  have hsl : (strs zs).length ≤ zs.length := strsTo_len _ _
  have key : ∀ k (hk : k < (strs zs).length), ∃ i : Nat, i < zs.length ∧ (strs zs)[k] = (i : Int) ∧ pullAt zs k = zs.getD i 0 ∧ (farAt m ls zs k).length = m ∧ (farAt m ls zs k).getD j 0 = dist m ls i j := fun k hk => by
    obtain ⟨i, hi, hiz, -⟩ := strs_at hk
    refine ⟨i, hiz, hi, ?_, ?_, ?_⟩
    · unfold pullAt
      rw [getD_of hk, hi, Int.toNat_natCast]
    · unfold farAt
      rw [distsTo_len]
    · unfold farAt
      rw [getD_of hk, hi, Int.toNat_natCast, getD_of (by rw [distsTo_len]; exact hj), distsTo_at]
  have e : hang m ls zs j = topOver m ls zs j ((strs zs).take xs.length) := by rw [hang_top h, hx, List.take_length]
  rw [e]
  refine top_call j eb base ve xs (pullAt zs) (farAt m ls zs) (fun k => topOver m ls zs j ((strs zs).take k)) w hc ht (by omega) rfl (fun k hk => ?_) (fun k hk => ?_)
  · obtain ⟨i, hi, e1, e2, _, e3⟩ := key k (by omega)
    show topOver m ls zs j ((strs zs).take (k + 1)) = _
    rw [topOver_more (by omega), e1, e2, e3, Int.toNat_natCast]
  · obtain ⟨i, hi, _, e2, e4, e3⟩ := key k (by omega)
    have := hzr i hi
    have := dist_range (m := m) hf i j
    rw [e2, e3, e4]
    omega

/-- The first k heights, and naught behind. -/
def hangRow (m : Nat) (ls : List Lb) (zs : List Int) (k : Nat) : List Int := (List.range m).map fun x => if x < k then hang m ls zs x else 0
theorem hangRow_len (m : Nat) (ls : List Lb) (zs : List Int) (k : Nat) : (hangRow m ls zs k).length = m := by simp [hangRow]
theorem hangRow_at {m : Nat} {ls : List Lb} {zs : List Int} {k x : Nat} (h : x < (hangRow m ls zs k).length) : (hangRow m ls zs k)[x] = if x < k then hang m ls zs x else 0 := by simp [hangRow]
theorem hangRow_set {m : Nat} {ls : List Lb} {zs : List Int} {k : Nat} : (hangRow m ls zs k).set k (hang m ls zs k) = hangRow m ls zs (k + 1) := by
  refine List.ext_getElem (by simp [hangRow]) fun x h1 h2 => ?_
  rw [List.getElem_set, hangRow_at, hangRow_at]
  by_cases e : k = x
  · subst e
    rw [if_pos rfl, if_pos (by omega)]
  · rw [if_neg e]
    by_cases c : x < k
    · rw [if_pos c, if_pos (by omega)]
    · rw [if_neg c, if_neg (by omega)]
theorem hangRow_zero (m : Nat) (ls : List Lb) (zs : List Int) : hangRow m ls zs 0 = List.replicate m 0 := by
  refine List.ext_getElem (by simp [hangRow]) fun x h1 h2 => ?_
  rw [hangRow_at, if_neg (by omega)]
  simp
theorem hangRow_end (m : Nat) (ls : List Lb) (zs : List Int) : hangRow m ls zs m = hangs m ls zs := by
  refine List.ext_getElem (by simp [hangRow, hangs]) fun x h1 h2 => ?_
  rw [hangRow_at, if_pos (by rw [hangRow_len] at h1; exact h1), hangs_at]

set_option maxRecDepth 100000 in
set_option maxHeartbeats 800000 in
theorem implHang_no (J : Int) (v vp : Value) (ls : List Lb) (zs : List Int) (base b2 : Nat) (w : World) (hown : OwnL w base v ls) (hp : OwnI w b2 vp zs) (hl : ls.length ≤ 2000000) (hlz : zs.length ≤ 2000000) (h : pullsOk J ls zs = false) :
    Calls Try.prog 12 #[bodyV J v, vp] w (IntsPost w []) := by
  have CS := Lib.hid (fun W h1 h2 => h ▸ implPulls J v vp ls zs base b2 W h1 h2 hl hlz)
  obtain ⟨A, c, e⟩ := hown.slice
  subst e
  have OWN := Lib.hid hown
  have HP := Lib.hid hp
  have BX := Lib.hid (box_facts (J := J) hown)
  clear hown hp h
  unfold bodyV at CS ⊢
  go_enter Try.func12, Try.ntmps12
  go_wp2_with fail
  refine (CS.out _ (OWN.out.alloc _) (HP.out.alloc _)).mono ?_
  rintro e w1 ⟨rfl, b1⟩
  simp only [World.size_alloc] at b1
  obtain ⟨x0, x1, -, bw⟩ := BX.out w1 b1
  clear b1
  go_wp2
  go_ret
  exact ⟨_, rfl, ⟨rfl, .inl ⟨rfl, rfl⟩⟩, bw⟩

set_option maxRecDepth 100000 in
set_option maxHeartbeats 1600000 in
theorem implHang_yes (m : Nat) (v vp : Value) (ls : List Lb) (zs : List Int) (base b2 : Nat) (w : World) (hown : OwnL w base v ls) (hp : OwnI w b2 vp zs) (h : pullsOk m ls zs = true) :
    Calls Try.prog 12 #[bodyV (m : Int) v, vp] w (IntsPost w (hangs m ls zs)) := by
  obtain ⟨hok, hzl, -, -⟩ := pulls_parts h
  obtain ⟨-, hlm, hm12, -⟩ := ok_parts' hok
  have CS := Lib.hid (fun W h1 h2 => h ▸ implPulls m v vp ls zs base b2 W h1 h2 (by omega) (by omega))
  have CH := Lib.hid (fun W h1 h2 => hangFrom_any m v vp ls zs base b2 W h1 h2 h)
  have CC := Lib.hid (fun j eb base ve xs W hj => hang_call m j eb base ls zs ve xs W h hj)
  obtain ⟨A, c, e⟩ := hown.slice
  subst e
  obtain ⟨P, d, e⟩ := hp.slice
  subst e
  have OWN := Lib.hid hown
  have HP := Lib.hid hp
  have BX := Lib.hid (box_facts (J := (m : Int)) hown)
  obtain ⟨i, hi, hz, hs, hb⟩ := info_parts info_int
  have hm0 : (0 : Int) ≤ (m : Int) := by omega
  clear hown hp h hok hlm hzl
  unfold bodyV at CS CH ⊢
  go_enter Try.func12, Try.ntmps12
  go_wp2_with fail
  refine (CS.out _ (OWN.out.alloc _) (HP.out.alloc _)).mono ?_
  rintro e w1 ⟨rfl, b1⟩
  simp only [World.size_alloc] at b1
  have B1 := Lib.hid b1
  have hs1 := b1.size
  simp only [World.size_alloc] at hs1
  obtain ⟨x0, x1, o1, bw⟩ := BX.out w1 b1
  have P1 := Lib.hid (HP.out.below bw)
  clear b1 bw
  go_wp2_with fail
  refine (CH.out _ o1 P1.out).mono ?_
  rintro e w2 ⟨eb, ve, xs, rfl, hce, ⟨bt, ht⟩, hxl, b2'⟩
  have B2 := Lib.hid (B1.out.trans (b2'.mono hs1))
  have HT := Lib.hid (And.intro hce (And.intro ht hxl))
  clear b2' x0 x1 o1 hce ht hxl
  obtain ⟨x0, x1, -, bw⟩ := BX.out w2 B2.out
  have BW := Lib.hid bw
  clear bw
  go_wp2_with (refine wpList_make_full _ rfl _ _ 27 rfl w2.heap.size 3 i (.int .i64 0) 1 Try.underlying27 hi hz hs .i64 .i64 _ _ m rfl rfl rfl rfl (by rw [hb]; omega) (by simp only [maxLen]; omega) (by simp) ?_; intro w3 own3 grown3)
  rw [made_zeros] at own3
  have O3 := Lib.hid (show OwnI w3 w2.heap.size (.slice (some ⟨w2.heap.size, 0, none⟩) m m) (hangRow m ls zs 0) by rw [hangRow_zero]; unfold OwnI; rw [List.length_replicate]; exact own3)
  have B3 := Lib.hid (below_of_grown grown3)
  clear own3 grown3 x0 x1
  go_loopw [20] (fun iv wr => ∃ k : Nat, k ≤ m ∧ iv = .int .i64 (k : Int) ∧ Hid (OwnI wr w2.heap.size (.slice (some ⟨w2.heap.size, 0, none⟩) m m) (hangRow m ls zs k)) ∧ Hid (Below w2.heap.size w2 wr)) (fun iv _ => m - (intOf iv).toNat)
  case atStart => exact ⟨0, by omega, rfl, O3, B3⟩
  case round =>
    clear O3 B3
    obtain ⟨k, hk, rfl, HO, HB⟩ := hrel
    by_cases hlt : k < m
    · have C := Lib.hid (CC.out k eb bt ve xs wr hlt (cell_below HT.out.1 HB.out) (HT.out.2.1.below HB.out) HT.out.2.2)
      have hk0 : (0 : Int) ≤ (k : Int) := by omega
      have hk1 : (k : Int) < (m : Int) := by omega
      go_wp2_with fail
      refine C.out.mono ?_
      rintro e w4 ⟨rfl, b4⟩
      have O4 := Lib.hid (HO.out.below b4)
      have B4 := Lib.hid (HB.out.trans (b4.mono HB.out.size))
      obtain ⟨_, _, e1, _, _, z1, f1⟩ := O4.out.spot (k := k) (by rw [hangRow_len]; exact hlt)
      rw [hangRow_len] at e1
      simp only [Value.slice.injEq, Option.some.injEq, Addr.mk.injEq] at e1
      obtain ⟨⟨rfl, _⟩, em, ec⟩ := e1
      have ST := Lib.hid (O4.out.set (hangRow_len m ls zs k).symm k (hang m ls zs k))
      rw [hangRow_set] at ST
      have B5 := Lib.hid (B4.out.setCell (p := ⟨w2.heap.size, k, none⟩) (Nat.le_refl _) (.int .i64 (hang m ls zs k)))
      clear em ec b4 C HO HB
      generalize hang m ls zs k = y at ST B5
      go_wp2
      exact ⟨⟨k + 1, by omega, by go_num, Lib.hid ST.out.1, B5⟩, by simp [intOf]; omega⟩
    · obtain rfl : k = m := by omega
      rw [hangRow_end] at HO
      have HO2 := Lib.hid (HO.out.mono (b := w.heap.size) (by have := BW.out.size; omega))
      have BR := Lib.hid (BW.out.trans (HB.out.mono BW.out.size))
      go_wp2
      go_ret
      exact ⟨_, rfl, HO2.out, BR.out⟩

theorem implHang (J : Int) (v vp : Value) (ls : List Lb) (zs : List Int) (base b2 : Nat) (w : World) (hown : OwnL w base v ls) (hp : OwnI w b2 vp zs) (hl : ls.length ≤ 2000000) (hlz : zs.length ≤ 2000000) :
    Calls Try.prog 12 #[bodyV J v, vp] w (IntsPost w (hangPose J ls zs)) := by
  unfold hangPose
  cases h : pullsOk J ls zs with
  | false => exact implHang_no J v vp ls zs base b2 w hown hp hl hlz h
  | true =>
    obtain ⟨m, rfl⟩ := Int.eq_ofNat_of_zero_le (show 0 ≤ J by have := ok_len (pulls_parts h).1; omega)
    exact implHang_yes m v vp ls zs base b2 w hown hp h
end Go.Proofs.Ytblbmppbbhibeaa
