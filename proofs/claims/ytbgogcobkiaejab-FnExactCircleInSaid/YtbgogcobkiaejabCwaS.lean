/- The contract of spec.l11Waits. Condition: the cues lie in a row of their own, twelve at most. -/
import Derived.Test.YtbgogcobkiaejabCwaM
import Derived.Test.YtbgogcobkiaejabBits
import Derived.Test.YtbgogcobkiaejabMadZ
import Derived.Test.YtbgogcobkiaejabCueL
import Derived.OwnWalk
import Derived.RegionTactic
import Derived.BigRegion
import Derived.StillTailTactics
import Derived.Deep.RegionHeld3
namespace Go.Proofs.Ytbgogcobkiaejab
set_option linter.unusedVariables false
set_option linter.unusedSimpArgs false
open Go.RowKit

def natI (V : List Nat) : List Int := V.map fun (s : Nat) => (s : Int)
theorem natI_len (V : List Nat) : (natI V).length = V.length := by simp [natI]
theorem natI_set (V : List Nat) (i s : Nat) : (natI V).set i (s : Int) = natI (V.set i s) := by simp [natI, List.map_set]
theorem natI_at (V : List Nat) {i : Nat} (h : i < V.length) : (natI V)[i]'(by rw [natI_len]; exact h) = ((V.getD i 0 : Nat) : Int) := by
  simp only [natI, List.getElem_map]
  rw [List.getD_eq_getElem?_getD, List.getElem?_eq_getElem h]
  rfl
/-- The first i sets, and none yet for the others. -/
def rowsTo (ls : List RCue) (i : Nat) : List Nat := (rowsA ls).take i ++ List.replicate (ls.length - i) 0
theorem rowsA_len (ls : List RCue) : (rowsA ls).length = ls.length := by rw [rowsA, List.length_map]
theorem rowsTo_len (ls : List RCue) {i : Nat} (h : i ≤ ls.length) : (rowsTo ls i).length = ls.length := by
  unfold rowsTo
  rw [List.length_append, List.length_take, List.length_replicate, rowsA_len]
  omega
theorem rowsTo_all (ls : List RCue) : rowsTo ls ls.length = rowsA ls := by
  unfold rowsTo
  rw [Nat.sub_self, ← rowsA_len, List.take_length]
  simp
theorem rowsTo_zero (ls : List RCue) : rowsTo ls 0 = List.replicate ls.length 0 := by simp [rowsTo]
theorem rowsTo_put (ls : List RCue) {i s : Nat} (h : i < ls.length) : (rowsTo ls i).set i s = (rowsA ls).take i ++ s :: List.replicate (ls.length - (i + 1)) 0 := by
  unfold rowsTo
  have e : ((rowsA ls).take i).length = i := by rw [List.length_take, rowsA_len]; omega
  rw [List.set_append_right _ _ (by omega), e, Nat.sub_self, show ls.length - i = (ls.length - (i + 1)) + 1 by omega, List.replicate_succ, List.set_cons_zero]
theorem rowsTo_same (ls : List RCue) {i : Nat} (h : i < ls.length) : (rowsTo ls i).set i (afterTo ls.length ls[i].f1 0) = rowsTo ls i := by
  rw [rowsTo_put ls h]
  unfold rowsTo
  rw [show ls.length - i = (ls.length - (i + 1)) + 1 by omega, List.replicate_succ]
  rfl
theorem rowsTo_more (ls : List RCue) {i : Nat} (h : i < ls.length) : (rowsTo ls i).set i (afterTo ls.length ls[i].f1 ls[i].f1.length) = rowsTo ls (i + 1) := by
  rw [rowsTo_put ls h]
  unfold rowsTo
  have e : (rowsA ls).take (i + 1) = (rowsA ls).take i ++ [afterTo ls.length ls[i].f1 ls[i].f1.length] := by
    rw [List.take_succ_eq_append_getElem (by rw [rowsA_len]; exact h)]
    congr 2
    simp [rowsA]
  rw [e, List.append_assoc]
  rfl
theorem pass_lt {n m : Nat} {W : List Nat} (h : ∀ j, j < W.length → W.getD j 0 < 2 ^ n) {i j : Nat} (hi : i ≤ W.length) (hj : j < W.length) (hm : m < W.length) : (passTo m W i).getD j 0 < 2 ^ n := by
  rw [pass_at m W i hi j]
  split
  · exact Nat.or_lt_two_pow (h j hj) (h m hm)
  · exact h j hj
theorem pow_small {n : Nat} (h : n ≤ 12) : 2 ^ n ≤ 4096 := Nat.pow_le_pow_right (by omega) h

set_option maxRecDepth 100000 in
set_option maxHeartbeats 3200000 in
theorem specWaits (v : Value) (ls : List RCue) (b : Nat) (w : World) (h : OwnCue w b v ls) (hn : ls.length ≤ 12) (hl : bulkCue ls ≤ 1048576) :
    Calls Try.prog 46 #[v] w (IntsPost w (natI (waitSet ls))) := by
  obtain ⟨i0, hi0, hz0, hz1, hz2⟩ := info_parts info_int
  have C0 := Lib.hid (fun v lo hi W => (l01In_any v lo hi W).mono fun e w' h => (show _ ∧ W = w' from ⟨h.1, h.2.symm⟩))
  obtain ⟨A, c, rfl⟩ := h.slice
  have O := Lib.hid h
  have PS := Lib.hid (pow_small hn)
  have RW := Lib.hid (fun k (h : k < ls.length) => (show ls[k].f1.length ≤ 1048576 by have := bulkCue_row ls k h; omega))
  clear h
  have en : IntKind.i64.wrap ((ls.length : Int) - 1) = (ls.length : Int) - 1 := IntWalk.i64_in _ (by omega)
  go_enter Try.func46, Try.ntmps46
  go_wp2_with (refine wpList_make_full _ rfl _ _ 26 rfl w.heap.size 3 i0 (.int .i64 0) 1 Try.underlying26 hi0 hz0 hz1 .i64 .i64 _ _ ls.length rfl rfl rfl rfl (by rw [hz2]; omega) (by simp only [maxLen]; omega) (by simp) ?_; intro w1 own1 grown1)
  have O1 := Lib.hid (show OwnI w1 w.heap.size (.slice (some ⟨w.heap.size, 0, none⟩) ls.length ls.length) (natI (rowsTo ls 0)) by rw [rowsTo_zero]; have := madeZero own1; simpa [natI] using this)
  have B1 := Lib.hid (below_of_grown grown1)
  clear own1 grown1
  go_loopw [5] (fun iv wr => ∃ i : Nat, i ≤ ls.length ∧ iv = .int .i64 (i : Int) ∧ Hid (OwnI wr w.heap.size (.slice (some ⟨w.heap.size, 0, none⟩) ls.length ls.length) (natI (rowsTo ls i))) ∧ Hid (Below w.heap.size w wr)) (fun iv _ => ls.length - (intOf iv).toNat)
  case atStart => exact ⟨0, by omega, rfl, O1, B1⟩
  case round =>
    clear O1 B1
    obtain ⟨i, hi, rfl, OO, BW⟩ := hrel
    by_cases hlt : i < ls.length
    rotate_left
    · obtain rfl : i = ls.length := by omega
      rw [rowsTo_all] at OO
      clear hlt hi
      have HC := Lib.hid (fun m (hm : m ≤ ls.length) i (hi : i ≤ ls.length) => (show (passTo m (closeTo (rowsA ls) m) i).length = ls.length by rw [pass_len, close_len, rowsA_len]))
      have HL := Lib.hid (fun m (hm : m < ls.length) i (hi : i ≤ ls.length) j (hj : j < ls.length) => (show (passTo m (closeTo (rowsA ls) m) i).getD j 0 < 4096 by
        have e : (closeTo (rowsA ls) m).length = ls.length := by rw [close_len, rowsA_len]
        have := pass_lt (n := ls.length) (m := m) (W := closeTo (rowsA ls) m) (fun j hj => close_lt ls (by omega) (by omega)) (i := i) (j := j) (by omega) (by omega) (by omega)
        have := PS.out
        omega))
      have NXT := Lib.hid (fun m => (show passTo m (closeTo (rowsA ls) m) ls.length = closeTo (rowsA ls) (m + 1) by rw [closeTo, rowsA_len]))
      have DONE := Lib.hid (show closeTo (rowsA ls) ls.length = waitSet ls from rfl)
      have O3 := Lib.hid (show OwnI wr w.heap.size (.slice (some ⟨w.heap.size, 0, none⟩) ls.length ls.length) (natI (closeTo (rowsA ls) 0)) from OO.out)
      go_wp2_with fail
      clear OO
      go_loopw [7] (fun mv wr => ∃ m : Nat, m ≤ ls.length ∧ mv = .int .i64 (m : Int) ∧ Hid (OwnI wr w.heap.size (.slice (some ⟨w.heap.size, 0, none⟩) ls.length ls.length) (natI (closeTo (rowsA ls) m))) ∧ Hid (Below w.heap.size w wr)) (fun mv _ => ls.length - (intOf mv).toNat)
      case atStart => exact ⟨0, by omega, rfl, O3, BW⟩
      case round =>
        clear O3 BW
        obtain ⟨m, hm, rfl, OO, BW⟩ := hrel
        by_cases hlm : m < ls.length
        rotate_left
        · obtain rfl : m = ls.length := by omega
          rw [DONE.out] at OO
          go_wp2
          go_ret
          exact ⟨_, rfl, OO.out, BW.out⟩
        have hm0 : (0 : Int) ≤ (m : Int) := by omega
        have hm1 : (m : Int) < (ls.length : Int) := by omega
        have O4 := Lib.hid (show OwnI wr w.heap.size (.slice (some ⟨w.heap.size, 0, none⟩) ls.length ls.length) (natI (passTo m (closeTo (rowsA ls) m) 0)) from OO.out)
        go_wp2_with fail
        clear OO
        go_loopw [8] (fun iv wr => ∃ i : Nat, i ≤ ls.length ∧ iv = .int .i64 (i : Int) ∧ Hid (OwnI wr w.heap.size (.slice (some ⟨w.heap.size, 0, none⟩) ls.length ls.length) (natI (passTo m (closeTo (rowsA ls) m) i))) ∧ Hid (Below w.heap.size w wr)) (fun iv _ => ls.length - (intOf iv).toNat)
        case atStart => exact ⟨0, by omega, rfl, O4, BW⟩
        case round =>
          clear O4 BW
          obtain ⟨i, hi, rfl, OO, BW⟩ := hrel
          by_cases hlt : i < ls.length
          rotate_left
          · obtain rfl : i = ls.length := by omega
            rw [NXT.out] at OO
            go_wp2
            exact ⟨⟨m + 1, by omega, by go_num, OO, BW⟩, by simp [intOf]; omega⟩
          have hx0 : (0 : Int) ≤ (i : Int) := by omega
          have hx1 : (i : Int) < (ls.length : Int) := by omega
          have hlen := HC.out m hm i hi
          have hs := HL.out m hlm i hi i hlt
          have ht := HL.out m hlm i hi m hlm
          have NX := Lib.hid (show passTo m (closeTo (rowsA ls) m) (i + 1) = if ((passTo m (closeTo (rowsA ls) m) i).getD i 0).testBit m = true then (passTo m (closeTo (rowsA ls) m) i).set i ((passTo m (closeTo (rowsA ls) m) i).getD i 0 ||| (passTo m (closeTo (rowsA ls) m) i).getD m 0) else passTo m (closeTo (rowsA ls) m) i from rfl)
          obtain ⟨_, _, f1, -, -, p0, pf⟩ := OO.out.spot (k := i) (by rw [natI_len, hlen]; exact hlt)
          simp only [Value.slice.injEq, Option.some.injEq, Addr.mk.injEq] at f1
          obtain ⟨⟨rfl, _⟩, -, -⟩ := f1
          rw [natI_at _ (by rw [hlen]; exact hlt)] at p0
          obtain ⟨_, _, f1, -, -, q0, -⟩ := OO.out.spot (k := m) (by rw [natI_len, hlen]; exact hlm)
          simp only [Value.slice.injEq, Option.some.injEq, Addr.mk.injEq] at f1
          obtain ⟨⟨rfl, _⟩, -, -⟩ := f1
          rw [natI_at _ (by rw [hlen]; exact hlm)] at q0
          have SET := OO.out.set (k := i) (by rw [natI_len, hlen]) (((passTo m (closeTo (rowsA ls) m) i).getD i 0 ||| (passTo m (closeTo (rowsA ls) m) i).getD m 0 : Nat) : Int)
          rw [natI_set] at SET
          have SS := Lib.hid SET
          have hbs := BW.out.size
          have ebit := bit_nat2 ((passTo m (closeTo (rowsA ls) m) i).getD i 0) m (by omega) (by omega)
          have eor := or_nat (s := (passTo m (closeTo (rowsA ls) m) i).getD i 0) (t := (passTo m (closeTo (rowsA ls) m) i).getD m 0) (by omega) (by omega)
          clear SET hlen
          generalize (passTo m (closeTo (rowsA ls) m) i).getD m 0 = t at q0 SS eor ht NX
          generalize (passTo m (closeTo (rowsA ls) m) i).getD i 0 = s at p0 SS eor ebit hs NX
          by_cases c : s.testBit m = true
          · rw [if_pos c] at ebit
            have N2 := Lib.hid (show passTo m (closeTo (rowsA ls) m) (i + 1) = (passTo m (closeTo (rowsA ls) m) i).set i (s ||| t) by rw [NX.out, if_pos c])
            have S2 := Lib.hid (show OwnI (wr.setCell ⟨w.heap.size, i, none⟩ (.int .i64 ((s ||| t : Nat) : Int))) w.heap.size (.slice (some ⟨w.heap.size, 0, none⟩) ls.length ls.length) (natI (passTo m (closeTo (rowsA ls) m) (i + 1))) by rw [N2.out]; exact SS.out.1)
            have B2 := Lib.hid (BW.out.grown SS.out.2 hbs (fun q hq => by have := Option.some.inj hq; omega))
            clear NX N2 SS c OO
            generalize (s ||| t) = st at eor S2 B2
            go_wp2_with fail
            go_still_tail 12, (by kernel_rfl)
            go_wp2
            exact ⟨⟨i + 1, by omega, by go_num, Lib.hid (S2.out.below (Below.refl _ _).drew), Lib.hid B2.out.drew⟩, by simp [intOf]; omega⟩
          · rw [if_neg c] at ebit
            have N2 := Lib.hid (show passTo m (closeTo (rowsA ls) m) (i + 1) = passTo m (closeTo (rowsA ls) m) i by rw [NX.out, if_neg c])
            clear NX SS c eor
            go_wp2
            exact ⟨⟨i + 1, by omega, by go_num, Lib.hid (by rw [N2.out]; exact OO.out), BW⟩, by simp [intOf]; omega⟩
    have hx0 : (0 : Int) ≤ (i : Int) := by omega
    have hx1 : (i : Int) < (ls.length : Int) := by omega
    have O2 := Lib.hid (show OwnI wr w.heap.size (.slice (some ⟨w.heap.size, 0, none⟩) ls.length ls.length) (natI ((rowsTo ls i).set i (afterTo ls.length ls[i].f1 0))) by rw [rowsTo_same ls hlt]; exact OO.out)
    have MO := Lib.hid (rowsTo_more ls hlt)
    have RL := Lib.hid (rowsTo_len ls hi)
    have HR := RW.out i hlt
    have SP := Lib.hid (fun W (hb : Below w.heap.size w W) => (O.out.below hb).spot hlt)
    clear OO
    go_wp2_with fail
    go_loopw [6] (fun kv wr => ∃ k : Nat, k ≤ ls[i].f1.length ∧ kv = .int .i64 (k : Int) ∧ Hid (OwnI wr w.heap.size (.slice (some ⟨w.heap.size, 0, none⟩) ls.length ls.length) (natI ((rowsTo ls i).set i (afterTo ls.length ls[i].f1 k)))) ∧ Hid (Below w.heap.size w wr)) (fun kv _ => ls[i].f1.length - (intOf kv).toNat)
    case atStart => exact ⟨0, by omega, rfl, O2, BW⟩
    case round =>
      clear O2 BW
      obtain ⟨k, hk, rfl, OO, BW⟩ := hrel
      obtain ⟨g, cg, A1, c1, A2, c2, f1, -, ⟨x0, x1, x2⟩, ⟨o1, -⟩, -, -, -, -⟩ := SP.out _ BW.out
      simp only [Value.slice.injEq] at f1
      obtain ⟨rfl, -, rfl⟩ := f1
      by_cases hlk : k < ls[i].f1.length
      rotate_left
      · obtain rfl : k = ls[i].f1.length := by omega
        rw [MO.out] at OO
        clear x0 x2 o1
        generalize ls[i].f1.length = q at x1 HR
        go_wp2
        exact ⟨⟨i + 1, by omega, by go_num, OO, BW⟩, by simp [intOf]; omega⟩
      have hk0 : (0 : Int) ≤ (k : Int) := by omega
      have hk1 : (k : Int) < (ls[i].f1.length : Int) := by omega
      obtain ⟨ga, ca, e1, -, -, z0, -⟩ := o1.spot hlk
      simp only [Value.slice.injEq] at e1
      obtain ⟨rfl, -, rfl⟩ := e1
      have AF := Lib.hid (show afterTo ls.length ls[i].f1 (k + 1) = if inB ls[i].f1[k] 0 ((ls.length : Int) - 1) = true then afterTo ls.length ls[i].f1 k ||| 1 <<< ls[i].f1[k].toNat else afterTo ls.length ls[i].f1 k by
        rw [afterTo, List.getD_eq_getElem?_getD, List.getElem?_eq_getElem hlk]
        rfl)
      have LT := after_lt ls.length ls[i].f1 k
      have hps := PS.out
      have HLN := Lib.hid (show ((rowsTo ls i).set i (afterTo ls.length ls[i].f1 k)).length = ls.length by rw [List.length_set]; exact RL.out)
      have hbs := BW.out.size
      generalize ls[i].f1[k] = x at z0 AF
      clear x0 x2 o1
      cases hin : inB x 0 ((ls.length : Int) - 1) with
      | false =>
        have NX := Lib.hid (show afterTo ls.length ls[i].f1 (k + 1) = afterTo ls.length ls[i].f1 k by rw [AF.out, hin]; rfl)
        generalize hq : ls[i].f1.length = q at x1 hk1 hlk HR
        have C1 := Lib.hid (hin ▸ C0.out x 0 ((ls.length : Int) - 1) wr)
        clear hin AF
        go_wp2_with (go_at_call 42; refine C1.out.mono ?_; rintro e w' ⟨rfl, rfl⟩)
        exact ⟨⟨k + 1, by omega, by go_num, Lib.hid (by rw [NX.out]; exact OO.out), BW⟩, by simp [intOf]; omega⟩
      | true =>
        have hr : 0 ≤ x ∧ x ≤ (ls.length : Int) - 1 := by simpa [inB] using hin
        have NX := Lib.hid (show afterTo ls.length ls[i].f1 (k + 1) = afterTo ls.length ls[i].f1 k ||| 1 <<< x.toNat by rw [AF.out, if_pos hin])
        have C1 := Lib.hid (hin ▸ C0.out x 0 ((ls.length : Int) - 1) wr)
        obtain ⟨j, rfl⟩ := Int.eq_ofNat_of_zero_le hr.1
        rw [Int.toNat_natCast] at NX
        have SET := OO.out.set (k := i) (by rw [natI_len, HLN.out]) ((afterTo ls.length ls[i].f1 k ||| 1 <<< j : Nat) : Int)
        rw [natI_set, List.set_set] at SET
        obtain ⟨_, _, f1, -, -, p0, pf⟩ := OO.out.spot (k := i) (by rw [natI_len, HLN.out]; exact hlt)
        simp only [Value.slice.injEq, Option.some.injEq, Addr.mk.injEq] at f1
        obtain ⟨⟨rfl, _⟩, -, -⟩ := f1
        rw [natI_at _ (by rw [HLN.out]; exact hlt), List.getD_eq_getElem?_getD, List.getElem?_set_self (by rw [RL.out]; exact hlt)] at p0
        replace p0 : wr.cell? ⟨w.heap.size, i, none⟩ = some (.int .i64 ((afterTo ls.length ls[i].f1 k : Nat) : Int)) := p0
        have S2 := Lib.hid (show OwnI (wr.setCell ⟨w.heap.size, i, none⟩ (.int .i64 ((afterTo ls.length ls[i].f1 k ||| 1 <<< j : Nat) : Int))) w.heap.size (.slice (some ⟨w.heap.size, 0, none⟩) ls.length ls.length) (natI ((rowsTo ls i).set i (afterTo ls.length ls[i].f1 (k + 1)))) by rw [NX.out]; exact SET.1)
        have B2 := Lib.hid (BW.out.grown SET.2 hbs (fun q hq => by have := Option.some.inj hq; omega))
        have esh := shl_nat64 j (by omega)
        have eor := or_nat (s := afterTo ls.length ls[i].f1 k) (t := 1 <<< j) (by omega) (by rw [Nat.shiftLeft_eq, Nat.one_mul]; exact Nat.pow_lt_pow_right (by omega) (by omega))
        generalize hq : ls[i].f1.length = q at x1 hk1 hlk HR
        obtain ⟨s, hs⟩ : ∃ s, s = afterTo ls.length ls[i].f1 k := ⟨_, rfl⟩
        rw [← hs] at p0 eor S2 B2
        generalize 1 <<< j = t at esh eor S2 B2
        generalize (s ||| t) = st at eor S2 B2
        clear hin AF SET NX OO LT hs
        go_wp2_with (go_at_call 42; refine C1.out.mono ?_; rintro e w' ⟨rfl, rfl⟩)
        go_still_tail 17, (by kernel_rfl)
        go_wp2
        exact ⟨⟨k + 1, by omega, by go_num, Lib.hid (S2.out.below (Below.refl _ _).drew), Lib.hid B2.out.drew⟩, by simp [intOf]; omega⟩
end Go.Proofs.Ytbgogcobkiaejab
