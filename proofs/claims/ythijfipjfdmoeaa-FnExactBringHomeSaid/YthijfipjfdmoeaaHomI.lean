/- The contract of the program's BringHome. Condition: the crossings lie in a row of their own. -/
import Derived.Test.YthijfipjfdmoeaaConI
import Derived.Test.YthijfipjfdmoeaaOraI
import Derived.Test.YthijfipjfdmoeaaSrtI
namespace Go.Proofs.Ythijfipjfdmoeaa
set_option linter.unusedVariables false
set_option linter.unusedSimpArgs false
open Go.RowKit

set_option maxRecDepth 100000 in
set_option maxHeartbeats 1600000 in
theorem implHome (n : Int) (v : Value) (ls : List RCross) (b : Nat) (w : World) (h : OwnCross w b v ls) (hl : ls.length ≤ 2000000) :
    Calls Try.prog 19 #[.int .i64 n, v] w (CrossB w (bringHome n ls)) := by
  have CK := Lib.hid (fun W h => implCrOk n v ls b W h hl)
  have CA := Lib.hid (fun W h => implOrdA n v ls b W h hl)
  have CS := Lib.hid (fun v b W h => implSort v (ordAfter n ls) b W h (by have := ordAfter_len n ls; omega))
  obtain ⟨A, c, rfl⟩ := h.slice
  have O := Lib.hid h
  clear h
  cases hc : crossOk n ls with
  | false =>
    have R := Lib.hid (show bringHome n ls = ([], false) by unfold bringHome; rw [hc]; rfl)
    rw [hc] at CK
    go_enter Try.func19, Try.ntmps19
    go_wp2_with (go_at_call 32; refine (CK.out _ O.out).mono ?_; rintro e w1 ⟨rfl, b1⟩; have B1 := Lib.hid b1; clear b1)
    go_ret2
    exact ⟨_, by rw [R.out]; rfl, by rw [R.out]; exact ownCross_none _ _, B1.out⟩
  | true =>
  rw [hc] at CK
  have sl := sortSwaps_len (ordAfter n ls)
  have R := Lib.hid (show bringHome n ls = (frontL (sortSwaps (ordAfter n ls)), true) by unfold bringHome; rw [if_pos hc])
  generalize sortSwaps (ordAfter n ls) = ss at CS sl R
  generalize ordAfter n ls = zs at CA CS
  have FX := Lib.hid (fun v2 b1 b2 v1 xs y W h1 h2 hx => followX v1 v2 xs [y] b1 b2 W h1 h2 hx (by simp))
  clear hc
  go_enter Try.func19, Try.ntmps19
  go_wp2_with fail
  refine (CK.out _ O.out).mono ?_
  rintro e w1 ⟨rfl, b1⟩
  have B1 := Lib.hid b1
  clear b1 CK
  go_wp2_with fail
  refine (CA.out _ (O.out.below B1.out)).mono ?_
  rintro e w2 ⟨v2, rfl, o2, b2⟩
  obtain ⟨Z, cz, rfl⟩ := o2.slice
  have O2 := Lib.hid o2
  have B2 := Lib.hid (B1.out.trans (b2.mono B1.out.size))
  clear b2 o2 B1 CA
  go_wp2_with fail
  refine (CS.out _ _ _ O2.out).mono ?_
  rintro e w3 ⟨v3, rfl, o3, b3⟩
  obtain ⟨S, cs, rfl⟩ := o3.slice
  have S3 := Lib.hid o3
  have hs2 := B2.out.size
  have B3 := Lib.hid (B2.out.trans (b3.mono hs2))
  have L3 := Lib.hid (show Below w3.heap.size w3 w3 from Below.refl _ _)
  clear b3 o3 B2 O2 CS hs2
  go_wp2_with fail
  go_loopw [6, 18] (fun ov iv wr => ∃ (k : Nat) (vo : Value), vo = ov ∧ k ≤ ss.length ∧ iv = .int .i64 (k : Int) ∧ Hid (OwnCross wr w.heap.size vo (frontL (ss.take k))) ∧ Hid (Below w3.heap.size w3 wr) ∧ Hid (Below w.heap.size w wr)) (fun _ iv _ => ss.length - (intOf iv).toNat)
  case atStart => exact ⟨0, _, rfl, by omega, rfl, Lib.hid (ownCross_none _ _), L3, B3⟩
  case round =>
    clear L3 B3
    obtain ⟨k, vo, rfl, hk, rfl, OO, LW, BW⟩ := hrel
    by_cases hlt : k < ss.length
    · have hk0 : (0 : Int) ≤ (k : Int) := by omega
      have hk1 : (k : Int) < (ss.length : Int) := by omega
      have hsz := BW.out.size
      have FM := Lib.hid (frontL_more hlt)
      have hfl : (frontL (ss.take k)).length ≤ 49 := by simp [frontL]; omega
      have HL := Lib.hid hfl
      obtain ⟨g, _, f1, _, _, z0, _⟩ := (S3.out.below LW.out).spot hlt
      simp only [Value.slice.injEq] at f1
      obtain ⟨rfl, em, rfl⟩ := f1
      generalize ss[k] = s at z0 FM
      have ONE := Lib.hid (oneCross wr w.heap.size ⟨s, true⟩ hsz)
      have C := Lib.hid (FX.out _ w.heap.size w.heap.size vo (frontL (ss.take k)) ⟨s, true⟩ _ (OO.out.alloc _) ONE.out (by omega))
      rw [← FM.out] at C
      have hl3 := LW.out.size
      clear em hfl ONE
      go_wp2_with fail
      refine C.out.mono ?_
      rintro e w4 ⟨v4, rfl, o4, b4⟩
      have O4 := Lib.hid (o4.mono (b := w.heap.size) (by simp; omega))
      have L4 := Lib.hid ((LW.out.alloc hl3 _).trans (b4.mono (by simp; omega)))
      have B4 := Lib.hid ((BW.out.alloc hsz _).trans (b4.mono (by simp; omega)))
      clear o4 b4 OO LW BW C
      go_wp2
      exact ⟨⟨k + 1, _, rfl, by omega, by go_num, O4, L4, B4⟩, by simp [intOf]; omega⟩
    · obtain rfl : k = ss.length := by omega
      have F := Lib.hid (show frontL ss = frontL (ss.take ss.length) by rw [List.take_length])
      go_wp2
      go_ret2
      exact ⟨_, by rw [R.out]; rfl, by rw [R.out, F.out]; exact OO.out, BW.out⟩
end Go.Proofs.Ythijfipjfdmoeaa
