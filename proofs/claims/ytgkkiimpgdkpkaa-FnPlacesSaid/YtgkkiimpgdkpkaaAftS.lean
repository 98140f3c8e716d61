/- The contract of spec.AfterSwaps. Condition: both rows of numbers are rows of their own. -/
import Derived.Test.YtgkkiimpgdkpkaaSwpS
import Derived.Test.YtgkkiimpgdkpkaaSrtM
namespace Go.Proofs.Ytgkkiimpgdkpkaa
set_option linter.unusedVariables false
set_option linter.unusedSimpArgs false
open Go.RowKit

set_option maxRecDepth 100000 in
set_option maxHeartbeats 800000 in
theorem specAfter (v1 v2 : Value) (zs ss : List Int) (b1 b2 : Nat) (w : World) (h1 : OwnI w b1 v1 zs) (h2 : OwnI w b2 v2 ss) (hz : zs.length ≤ 2000000) (hs : ss.length ≤ 2000000) :
    Calls Try.prog 28 #[v1, v2] w (IntsB w (afterSwaps zs ss)) := by
  have CO := Lib.hid (fun W h => specOrder v1 zs b1 W h hz)
  have CS := Lib.hid (fun v zs k b W h hl => specSwap v zs k b W h hl)
  obtain ⟨A, c, rfl⟩ := h1.slice
  obtain ⟨P, p, rfl⟩ := h2.slice
  have O := Lib.hid h1
  have OS := Lib.hid h2
  clear h1 h2
  have E0 := Lib.hid (ownI_empty w w.heap.size w.heap.size #[] rfl (Nat.le_refl _) rfl)
  go_enter Try.func28, Try.ntmps28
  go_wp2_with (first | (have q_ := E1; at_builtin; refine wpList_rowsI rfl (.tmp 14) (.tmp 15) rfl w1.heap.size b1 (.slice (some ⟨w1.heap.size, 0, none⟩) 0 0) (.slice A zs.length c) [] zs rfl rfl E1.out ((O.out.below B1.out).alloc _) ?_ ?_ ?_; (simp only [List.length_nil]; omega); (simp); intro v2 w2 o2 g2 hat; replace o2 : OwnI w2 w1.heap.size v2 zs := o2; obtain ⟨C, e, rfl⟩ := o2.slice; have b2 : Below w1.heap.size w1 w2 := ((Below.refl _ _).alloc (Nat.le_refl _) _).grown g2 (by simp) (fun q hq => (E1.out.lt q hq).1); have O2 := Lib.hid (o2.mono hs1); have V2 := Lib.hid (O1.out.below b2); have B2 := Lib.hid (B1.out.trans (b2.mono hs1)); clear o2 b2 g2 hat; clear q_) | (at_builtin; refine wpList_rowsI rfl (.tmp 11) (.tmp 12) rfl w.heap.size b1 (.slice (some ⟨w.heap.size, 0, none⟩) 0 0) (.slice A zs.length c) [] zs rfl rfl E0.out (O.out.alloc _) ?_ ?_ ?_; (simp only [List.length_nil]; omega); (simp); intro v1 w1 o1 g1 hat; replace o1 : OwnI w1 w.heap.size v1 zs := o1; obtain ⟨B, d, rfl⟩ := o1.slice; have b1 : Below w.heap.size w w1 := ((Below.refl _ _).alloc (Nat.le_refl _) _).grown g1 (by simp) (fun q hq => (E0.out.lt q hq).1); have O1 := Lib.hid o1; have B1 := Lib.hid b1; clear o1 b1 g1 hat; have E1 := Lib.hid (ownI_empty w1 w1.heap.size w1.heap.size #[] rfl (Nat.le_refl _) rfl); have hs1 := B1.out.size))
  go_loopw [7, 8] (fun nv iv wr => ∃ (k : Nat) (cur : List Int) (vn : Value), vn = nv ∧ k ≤ ss.length ∧ iv = .int .i64 (k : Int) ∧ Hid (aft zs (ss.take k) = some cur) ∧ (k = 0 ∨ ss.length ≤ 60) ∧ Hid (OwnI wr w.heap.size (.slice B zs.length d) zs) ∧ Hid (OwnI wr w.heap.size vn cur) ∧ Hid (cur.length = zs.length) ∧ Hid (Below w.heap.size w wr)) (fun _ iv _ => ss.length - (intOf iv).toNat)
  case atStart => exact ⟨0, zs, _, rfl, by omega, rfl, rfl, .inl rfl, V2, O2, Lib.hid rfl, B2⟩
  case round =>
    clear V2 O2 B2 O1 B1 E1 E0 hs1
    obtain ⟨k, cur, vn, rfl, hk, rfl, HF, hfew, OV, ON, HCL, BW⟩ := hrel
    obtain ⟨Q, q, rfl⟩ := ON.out.slice
    by_cases hlt : k < ss.length
    · have hk0 : (0 : Int) ≤ (k : Int) := by omega
      have hk1 : (k : Int) < (ss.length : Int) := by omega
      obtain ⟨g, _, f1, _, _, z0, _⟩ := (OS.out.below BW.out).spot hlt
      simp only [Value.slice.injEq] at f1
      obtain ⟨rfl, em, rfl⟩ := f1
      clear em
      have TK := Lib.hid (show aft zs (ss.take (k + 1)) = swapTry cur ss[k] by rw [aft_take hlt, HF.out]; rfl)
      have BAD := Lib.hid (fun (h : swapTry cur ss[k] = none) => after_bad (zs := zs) (k := k + 1) hlt (by rw [TK.out, h]))
      have C1 := Lib.hid (CS.out _ cur ss[k] _ wr ON.out (by rw [HCL.out]; exact hz))
      obtain ⟨t1, t2⟩ := swapR_try (cur := cur) (s := ss[k])
      generalize ss[k] = s at z0 TK BAD C1 t1 t2
      cases ht : swapTry cur s with
      | none =>
        have R := Lib.hid (BAD.out ht)
        rw [ht] at t1
        have C2 := Lib.hid (C1.out.mono (fun e w' (h : IntsB wr (swapR cur s) e w') => (by
          obtain ⟨v, e1, _, e3⟩ := h
          have e1' : e = .returned (.tuple #[v, .bool false]) := by rw [e1, t1]; rfl
          exact ⟨v, e1', e3⟩ : ∃ v, e = .returned (.tuple #[v, .bool false]) ∧ Below wr.heap.size wr w')))
        clear t1 t2 C1 TK BAD ht
        go_wp2_with fail
        refine C2.out.mono ?_
        rintro e w3 ⟨v3, rfl, b3⟩
        go_wp2
        go_ret2
        exact ⟨_, by rw [R.out]; rfl, by rw [R.out]; exact OV.out.below b3, BW.out.trans (b3.mono BW.out.size)⟩
      | some nx =>
        have C2 := Lib.hid (t2 nx ht ▸ C1.out)
        have HNL := Lib.hid (show nx.length = zs.length by
          obtain ⟨_, _, rfl⟩ := try_parts ht
          rw [swap_len, HCL.out])
        have TK2 := Lib.hid (TK.out.trans ht)
        clear t1 t2 C1 TK BAD ht
        by_cases h60 : ss.length ≤ 60
        · have h61 : ¬ (60 : Int) < (ss.length : Int) := by omega
          go_wp2_with fail
          refine C2.out.mono ?_
          rintro e w3 ⟨v3, rfl, o3, b3⟩
          obtain ⟨D, dd, rfl⟩ := o3.slice
          have O3 := Lib.hid (o3.mono BW.out.size)
          have V3 := Lib.hid (OV.out.below b3)
          have B3 := Lib.hid (BW.out.trans (b3.mono BW.out.size))
          clear o3 b3
          go_wp2
          exact ⟨⟨k + 1, nx, _, rfl, by omega, by go_num, TK2, .inr h60, V3, O3, HNL, B3⟩, by simp [intOf]; omega⟩
        · have R := Lib.hid (after_many (zs := zs) (ss := ss) (by omega))
          have h61 : (60 : Int) < (ss.length : Int) := by omega
          go_wp2_with fail
          refine C2.out.mono ?_
          rintro e w3 ⟨v3, rfl, o3, b3⟩
          obtain ⟨D, dd, rfl⟩ := o3.slice
          go_wp2
          go_ret2
          exact ⟨_, by rw [R.out]; rfl, by rw [R.out]; exact OV.out.below b3, BW.out.trans (b3.mono BW.out.size)⟩
    · obtain rfl : k = ss.length := by omega
      have hfin : aft zs ss = some cur := by have := HF.out; rwa [List.take_length] at this
      have R := Lib.hid (after_end (by omega) hfin)
      have SM := Lib.hid (fun hn => aft_same hn hfin)
      have CW := Lib.hid (CO.out _ (O.out.below BW.out))
      cases hok : orderOk zs with
      | true =>
        rw [hok] at CW
        have R2 := Lib.hid (show afterSwaps zs ss = (cur, true) by rw [R.out, hok]; rfl)
        clear hok R SM hfin
        go_wp2_with (go_at_call 20; refine CW.out.mono ?_; rintro e w3 ⟨rfl, b3⟩)
        go_ret2
        exact ⟨_, by rw [R2.out]; rfl, by rw [R2.out]; exact ON.out.below b3, BW.out.trans (b3.mono BW.out.size)⟩
      | false =>
        rw [hok] at CW
        have e := SM.out hok
        have R2 := Lib.hid (show afterSwaps zs ss = (cur, false) by rw [R.out, hok, e]; rfl)
        clear hok R SM hfin e
        go_wp2_with (go_at_call 20; refine CW.out.mono ?_; rintro e w3 ⟨rfl, b3⟩)
        go_ret2
        exact ⟨_, by rw [R2.out]; rfl, by rw [R2.out]; exact ON.out.below b3, BW.out.trans (b3.mono BW.out.size)⟩
end Go.Proofs.Ytgkkiimpgdkpkaa
