/- The contracts of spec.FullTurn, BringHome and JoinCrosses. Condition: the crossings lie in rows of their own. -/
import Derived.Test.YthijfipjfdmoeaaUnwM
import Derived.Test.YthijfipjfdmoeaaOrAS
import Derived.Test.YthijfipjfdmoeaaSrtS
namespace Go.Proofs.Ythijfipjfdmoeaa
set_option linter.unusedVariables false
set_option linter.unusedSimpArgs false
open Go.RowKit

theorem twoCross (w : World) (base : Nat) (l m : RCross) (hb : base ≤ w.heap.size) : OwnCross (w.alloc (.cells #[.int .i64 l.f0, .bool l.f1, .int .i64 m.f0, .bool m.f1] 56)) base (.slice (some ⟨w.heap.size, 0, none⟩) 2 2) [l, m] :=
  ⟨rfl, .inr ⟨w.heap.size, 2, #[.int .i64 l.f0, .bool l.f1, .int .i64 m.f0, .bool m.f1], rfl, hb, heap_alloc_new w _, Nat.le_refl _, by simp only [maxLen]; omega, rfl, rfl⟩⟩

set_option maxRecDepth 100000 in
set_option maxHeartbeats 1600000 in
theorem specFull (n i k : Int) (f : Bool) (w : World) :
    Calls Try.prog 21 #[.int .i64 n, .int .i64 i, .int .i64 k, .bool f] w (CrossB w (fullTurn n i k f)) := by
  have C0 := Lib.hid (fun v lo hi W => (l01In_any v lo hi W).mono fun e w' h => (show _ ∧ W = w' from ⟨h.1, h.2.symm⟩))
  have E0 := Lib.hid (emptyCross w w.heap.size w.heap.size #[] rfl (Nat.le_refl _) rfl)
  have B0 := Lib.hid ((Below.refl w.heap.size w).alloc (Nat.le_refl _) (.cells #[] 56))
  cases h1 : inB n 2 7 with
  | false =>
    have R := Lib.hid (turn_no (i := i) (k := k) (f := f) (.inl h1))
    go_enter Try.func21, Try.ntmps21
    go_wp2_with (go_at_call 48; refine (C0.out _ _ _ _).mono ?_; rintro e w' ⟨rfl, rfl⟩)
    go_ret2
    exact ⟨_, by rw [R.out]; rfl, by rw [R.out]; exact E0.out, B0.out⟩
  | true =>
  have hn : 2 ≤ n ∧ n ≤ 7 := by simpa [inB] using h1
  have e1 : IntKind.i64.wrap (n - 1) = n - 1 := IntWalk.i64_in _ (by omega)
  cases h2 : inB k 1 (n - 1) with
  | false =>
    have R := Lib.hid (turn_no (n := n) (i := i) (f := f) (.inr (.inl h2)))
    go_enter Try.func21, Try.ntmps21
    go_wp2_with (go_at_call 48; refine (C0.out _ _ _ _).mono ?_; rintro e w' ⟨rfl, rfl⟩)
    go_ret2
    exact ⟨_, by rw [R.out]; rfl, by rw [R.out]; exact E0.out, B0.out⟩
  | true =>
  have hk : 1 ≤ k ∧ k ≤ n - 1 := by simpa [inB] using h2
  have e2 : IntKind.i64.wrap (k - 1) = k - 1 := IntWalk.i64_in _ (by omega)
  cases h3 : inB i 0 (k - 1) with
  | false =>
    have R := Lib.hid (turn_no (n := n) (k := k) (f := f) (.inr (.inr h3)))
    go_enter Try.func21, Try.ntmps21
    go_wp2_with (go_at_call 48; refine (C0.out _ _ _ _).mono ?_; rintro e w' ⟨rfl, rfl⟩)
    go_ret2
    exact ⟨_, by rw [R.out]; rfl, by rw [R.out]; exact E0.out, B0.out⟩
  | true =>
  have hi : 0 ≤ i ∧ i ≤ k - 1 := by simpa [inB] using h3
  have R := Lib.hid (show fullTurn n i k f = (turnL i.toNat k.toNat f, true) by unfold fullTurn; rw [if_pos ⟨h1, h2, h3⟩])
  obtain ⟨I, rfl⟩ := Int.eq_ofNat_of_zero_le hi.1
  obtain ⟨K, rfl⟩ := Int.eq_ofNat_of_zero_le (show 0 ≤ k by omega)
  rw [Int.toNat_natCast, Int.toNat_natCast] at R
  obtain ⟨D, hD⟩ : ∃ D : Nat, K = I + 1 + D := ⟨K - I - 1, by omega⟩
  have RT := Lib.hid (show turnL I K f = downL K D ++ [⟨(I : Int), f⟩, ⟨(I : Int), f⟩] ++ upL I D by unfold turnL; rw [show K - 1 - I = D by omega])
  have HD := Lib.hid hD
  clear hi hD
  go_enter Try.func21, Try.ntmps21
  go_wp2_with (go_at_call 48; refine (C0.out _ _ _ _).mono ?_; rintro e w' ⟨rfl, rfl⟩)
  go_loopw [10, 11] (fun ov iv wr => ∃ (m : Nat) (vo : Value), vo = ov ∧ m ≤ D ∧ iv = .int .i64 ((K : Int) - 1 - (m : Int)) ∧ Hid (OwnCross wr w.heap.size vo (downL K m)) ∧ Hid (Below w.heap.size w wr)) (fun _ iv _ => (intOf iv).toNat)
  case atStart => exact ⟨0, _, rfl, by omega, by simp, E0, B0⟩
  case round =>
    clear E0 B0
    obtain ⟨m, vo, rfl, hm, rfl, OO, BW⟩ := hrel
    have hsz := BW.out.size
    by_cases hlt : m < D
    · have hd := HD.out
      have hm7 : m ≤ 7 := by omega
      have hp : (I : Int) < (K : Int) - 1 - (m : Int) := by omega
      have ew : IntKind.i64.wrap ((K : Int) - 1 - (m : Int) - 1) = (K : Int) - 1 - ((m + 1 : Nat) : Int) := by rw [IntWalk.i64_in _ (by omega)]; omega
      have hlen := downL_len K m
      have HL := Lib.hid hlen
      have DM := Lib.hid (show downL K (m + 1) = downL K m ++ [⟨(K : Int) - 1 - (m : Int), false⟩] from rfl)
      have MZ : ((K : Int) - 1 - ((m + 1 : Nat) : Int)).toNat < ((K : Int) - 1 - (m : Int)).toNat := by omega
      have ONE := Lib.hid (oneCross wr w.heap.size ⟨(K : Int) - 1 - (m : Int), false⟩ hsz)
      generalize (K : Int) - 1 - (m : Int) = p at hp ew DM MZ ONE ⊢
      generalize hq : (K : Int) - 1 - ((m + 1 : Nat) : Int) = q at ew MZ
      have HQ := Lib.hid hq
      clear hlen hq hd
      go_wp2_with (at_builtin; refine wpList_rowsCross rfl (.tmp 39) (.tmp 42) rfl w.heap.size w.heap.size vo (.slice (some ⟨wr.heap.size, 0, none⟩) 1 1) (downL K m) [⟨p, false⟩] rfl rfl (OO.out.alloc _) ONE.out ?_ ?_ ?_; (rw [HL.out]; simp; omega); (simp; omega); intro v3 w3 o3 g3 hat3; have B3 := Lib.hid (mineCross (BW.out.alloc hsz _) (by simp; omega) (OO.out.alloc _) g3); have O3 := Lib.hid (DM.out ▸ o3); clear o3 g3 hat3)
      exact ⟨⟨m + 1, _, rfl, by omega, by rw [HQ.out], O3, B3⟩, by simpa [intOf] using MZ⟩
    obtain rfl : m = D := by omega
    have hm7 : m ≤ 7 ∧ I ≤ 7 := by have := HD.out; omega
    clear hlt hm
    have hp : ¬ (I : Int) < (K : Int) - 1 - (m : Int) := by have := HD.out; omega
    have hlen := downL_len K m
    have HL := Lib.hid hlen
    have TWO := Lib.hid (twoCross wr w.heap.size ⟨(I : Int), f⟩ ⟨(I : Int), f⟩ hsz)
    have ei : IntKind.i64.wrap ((I : Int) + 1) = (I : Int) + 1 := IntWalk.i64_in _ (by omega)
    generalize (K : Int) - 1 - (m : Int) = p at hp ⊢
    clear hlen
    go_wp2_with (at_builtin; refine wpList_rowsCross rfl (.tmp 44) (.tmp 51) rfl w.heap.size w.heap.size vo (.slice (some ⟨wr.heap.size, 0, none⟩) 2 2) (downL K m) [⟨(I : Int), f⟩, ⟨(I : Int), f⟩] rfl rfl (OO.out.alloc _) TWO.out ?_ ?_ ?_; (rw [HL.out]; simp; omega); (simp; omega); intro v3 w3 o3 g3 hat3; have B3 := Lib.hid (mineCross (BW.out.alloc hsz _) (by simp; omega) (OO.out.alloc _) g3); have O3 := Lib.hid o3; clear o3 g3 hat3)
    clear OO BW hsz
    go_loopw [10, 12] (fun ov iv wr => ∃ (j : Nat) (vo : Value), vo = ov ∧ j ≤ m ∧ iv = .int .i64 ((I : Int) + 1 + (j : Int)) ∧ Hid (OwnCross wr w.heap.size vo (downL K m ++ [⟨(I : Int), f⟩, ⟨(I : Int), f⟩] ++ upL I j)) ∧ Hid (Below w.heap.size w wr)) (fun _ iv _ => K - (intOf iv).toNat)
    case atStart => exact ⟨0, _, rfl, by omega, by simp, Lib.hid (by rw [upL, List.append_nil]; exact O3.out), B3⟩
    case round =>
      clear O3 B3
      obtain ⟨j, vo, rfl, hj, rfl, OO, BW⟩ := hrel
      have hsz := BW.out.size
      by_cases hlt : j < m
      · have hd := HD.out
        have hp : (I : Int) + 1 + (j : Int) < (K : Int) := by omega
        have ew : IntKind.i64.wrap ((I : Int) + 1 + (j : Int) + 1) = (I : Int) + 1 + ((j + 1 : Nat) : Int) := by rw [IntWalk.i64_in _ (by omega)]; omega
        have hlen := downL_len K m
        have hlen2 := upL_len I j
        have HL := Lib.hid (show (downL K m ++ ([⟨(I : Int), f⟩, ⟨(I : Int), f⟩] : List RCross) ++ upL I j).length = m + 2 + j by rw [List.length_append, List.length_append, hlen, hlen2]; rfl)
        have DM := Lib.hid (show downL K m ++ [⟨(I : Int), f⟩, ⟨(I : Int), f⟩] ++ upL I (j + 1) = downL K m ++ [⟨(I : Int), f⟩, ⟨(I : Int), f⟩] ++ upL I j ++ [⟨(I : Int) + 1 + (j : Int), true⟩] by rw [upL, ← List.append_assoc])
        have MZ : K - ((I : Int) + 1 + ((j + 1 : Nat) : Int)).toNat < K - ((I : Int) + 1 + (j : Int)).toNat := by omega
        have ONE := Lib.hid (oneCross wr w.heap.size ⟨(I : Int) + 1 + (j : Int), true⟩ hsz)
        generalize downL K m ++ [⟨(I : Int), f⟩, ⟨(I : Int), f⟩] ++ upL I j = xs at OO HL DM
        generalize (I : Int) + 1 + (j : Int) = p at hp ew DM MZ ONE ⊢
        generalize hq : (I : Int) + 1 + ((j + 1 : Nat) : Int) = q at ew MZ
        have HQ := Lib.hid hq
        clear hlen hlen2 hq hd
        go_wp2_with (at_builtin; refine wpList_rowsCross rfl (.tmp 60) (.tmp 63) rfl w.heap.size w.heap.size vo (.slice (some ⟨wr.heap.size, 0, none⟩) 1 1) xs [⟨p, true⟩] rfl rfl (OO.out.alloc _) ONE.out ?_ ?_ ?_; (rw [HL.out]; simp; omega); (simp; omega); intro v3 w3 o3 g3 hat3; have B3 := Lib.hid (mineCross (BW.out.alloc hsz _) (by simp; omega) (OO.out.alloc _) g3); have O3 := Lib.hid (DM.out ▸ o3); clear o3 g3 hat3)
        exact ⟨⟨j + 1, _, rfl, by omega, by rw [HQ.out], O3, B3⟩, by simpa [intOf] using MZ⟩
      · obtain rfl : j = m := by omega
        have hp : ¬ (I : Int) + 1 + (j : Int) < (K : Int) := by have := HD.out; omega
        generalize (I : Int) + 1 + (j : Int) = p at hp ⊢
        go_wp2
        go_ret2
        exact ⟨_, by rw [R.out]; rfl, by rw [R.out, RT.out]; exact OO.out, BW.out⟩

set_option maxRecDepth 100000 in
set_option maxHeartbeats 1600000 in
theorem specJoin (v1 v2 : Value) (xs ys : List RCross) (b1 b2 : Nat) (w : World) (h1 : OwnCross w b1 v1 xs) (h2 : OwnCross w b2 v2 ys) (hx : xs.length ≤ 2000000) (hy : ys.length ≤ 2000000) :
    Calls Try.prog 29 #[v1, v2] w (CrossPost w (xs ++ ys)) := by
  obtain ⟨A, c, rfl⟩ := h1.slice
  obtain ⟨P, p, rfl⟩ := h2.slice
  have O1 := Lib.hid h1
  have O2 := Lib.hid h2
  clear h1 h2
  have E0 := Lib.hid (emptyCross w w.heap.size w.heap.size #[] rfl (Nat.le_refl _) rfl)
  go_enter Try.func29, Try.ntmps29
  go_wp2_with (first | (have q_ := A8; at_builtin; refine wpList_rowsCross rfl (.tmp 7) (.tmp 8) rfl w.heap.size b2 v8 (.slice P ys.length p) xs ys rfl rfl A8.out (O2.out.below B8.out) ?_ ?_ ?_; (omega); (exact B8.out.size); intro v9 w9 o9 g9 hat9; have B9 := Lib.hid (mineCross B8.out B8.out.size A8.out g9); have A9 := Lib.hid o9; clear o9 g9 hat9) | (at_builtin; refine wpList_rowsCross rfl (.tmp 5) (.tmp 6) rfl w.heap.size b1 (.slice (some ⟨w.heap.size, 0, none⟩) 0 0) (.slice A xs.length c) [] xs rfl rfl E0.out (O1.out.alloc _) ?_ ?_ ?_; (simp; omega); (simp); intro v8 w8 o8 g8 hat8; replace o8 : OwnCross w8 w.heap.size v8 xs := o8; have B8 := Lib.hid (mineCross ((Below.refl w.heap.size w).alloc (Nat.le_refl _) _) (by simp) E0.out g8); have A8 := Lib.hid o8; clear o8 g8 hat8))
  go_ret
  exact ⟨_, rfl, A9.out, B9.out⟩

set_option maxRecDepth 100000 in
set_option maxHeartbeats 1600000 in
theorem specHome (n : Int) (v : Value) (ls : List RCross) (b : Nat) (w : World) (h : OwnCross w b v ls) (hl : ls.length ≤ 2000000) :
    Calls Try.prog 28 #[.int .i64 n, v] w (CrossB w (bringHome n ls)) := by
  have CK := Lib.hid (fun W h => specCrOk n v ls b W h hl)
  have CA := Lib.hid (fun W h => specOrdA n v ls b W h hl)
  have CS := Lib.hid (fun v b W h => specSort v (ordAfter n ls) b W h (by have := ordAfter_len n ls; omega))
  obtain ⟨A, c, rfl⟩ := h.slice
  have O := Lib.hid h
  clear h
  have E0 := Lib.hid (emptyCross w w.heap.size w.heap.size #[] rfl (Nat.le_refl _) rfl)
  have B0 := Lib.hid ((Below.refl w.heap.size w).alloc (Nat.le_refl _) (.cells #[] 56))
  have OA := Lib.hid (O.out.alloc (.cells #[] 56))
  cases hc : crossOk n ls with
  | false =>
    have R := Lib.hid (show bringHome n ls = ([], false) by unfold bringHome; rw [hc]; rfl)
    rw [hc] at CK
    go_enter Try.func28, Try.ntmps28
    go_wp2_with (go_at_call 37; refine (CK.out _ OA.out).mono ?_; rintro e w1 ⟨rfl, b1⟩; have E1 := Lib.hid (E0.out.below b1); have B1 := Lib.hid (B0.out.trans (b1.mono B0.out.size)); clear b1)
    go_ret2
    exact ⟨_, by rw [R.out]; rfl, by rw [R.out]; exact E1.out, B1.out⟩
  | true =>
  rw [hc] at CK
  have sl := sortSwaps_len (ordAfter n ls)
  have R := Lib.hid (show bringHome n ls = (frontL (sortSwaps (ordAfter n ls)), true) by unfold bringHome; rw [if_pos hc])
  generalize sortSwaps (ordAfter n ls) = ss at CS sl R
  generalize ordAfter n ls = zs at CA CS
  clear hc
  go_enter Try.func28, Try.ntmps28
  go_wp2_with fail
  refine (CK.out _ OA.out).mono ?_
  rintro e w1 ⟨rfl, b1⟩
  have E1 := Lib.hid (E0.out.below b1)
  have B1 := Lib.hid (B0.out.trans (b1.mono B0.out.size))
  clear b1 CK E0 B0 OA
  go_wp2_with fail
  refine (CA.out _ (O.out.below B1.out)).mono ?_
  rintro e w2 ⟨v2, rfl, o2, b2⟩
  obtain ⟨Z, cz, rfl⟩ := o2.slice
  have O2 := Lib.hid o2
  have E2 := Lib.hid (E1.out.below b2)
  have B2 := Lib.hid (B1.out.trans (b2.mono B1.out.size))
  clear b2 o2 E1 B1 CA
  go_wp2_with fail
  refine (CS.out _ _ _ O2.out).mono ?_
  rintro e w3 ⟨v3, rfl, o3, b3⟩
  obtain ⟨S, cs, rfl⟩ := o3.slice
  have hs2 := B2.out.size
  have S3 := Lib.hid (o3.mono hs2)
  have E3 := Lib.hid (E2.out.below b3)
  have B3 := Lib.hid (B2.out.trans (b3.mono B2.out.size))
  have Q3 := Lib.hid (show (Value.slice S ss.length cs).ownBlock = none ∨ (Value.slice S ss.length cs).ownBlock ≠ (Value.slice (some ⟨w.heap.size, 0, none⟩) 0 0).ownBlock from sep_of fun x h1 h2 => by
    have := (o3.lt x h1).1
    have := (E2.out.lt x h2).2
    omega)
  clear b3 o3 E2 B2 O2 CS hs2
  go_wp2_with fail
  go_loopw [6, 8] (fun ov iv wr => ∃ (k : Nat) (vo : Value), vo = ov ∧ k ≤ ss.length ∧ iv = .int .i64 (k : Int) ∧ Hid (OwnCross wr w.heap.size vo (frontL (ss.take k))) ∧ Hid (OwnI wr w.heap.size (.slice S ss.length cs) ss) ∧ Hid ((Value.slice S ss.length cs).ownBlock = none ∨ (Value.slice S ss.length cs).ownBlock ≠ vo.ownBlock) ∧ Hid (Below w.heap.size w wr)) (fun _ iv _ => ss.length - (intOf iv).toNat)
  case atStart => exact ⟨0, _, rfl, by omega, rfl, E3, S3, Q3, B3⟩
  case round =>
    clear E3 S3 Q3 B3
    obtain ⟨k, vo, rfl, hk, rfl, OO, OS, QQ, BW⟩ := hrel
    by_cases hlt : k < ss.length
    · have hk0 : (0 : Int) ≤ (k : Int) := by omega
      have hk1 : (k : Int) < (ss.length : Int) := by omega
      have hsz := BW.out.size
      have FM := Lib.hid (frontL_more hlt)
      have hfl : (frontL (ss.take k)).length ≤ 49 := by simp [frontL]; omega
      have HL := Lib.hid hfl
      have LT := Lib.hid (fun x hx => (OS.out.lt x hx).2)
      obtain ⟨g, _, f1, _, _, z0, _⟩ := OS.out.spot hlt
      simp only [Value.slice.injEq] at f1
      obtain ⟨rfl, em, rfl⟩ := f1
      generalize ss[k] = s at z0 FM
      have ONE := Lib.hid (oneCross wr w.heap.size ⟨s, true⟩ hsz)
      generalize frontL (ss.take k) = xs at OO FM HL
      clear em hfl
      go_wp2_with (at_builtin; refine wpList_rowsCross rfl (.tmp 25) (.tmp 31) rfl w.heap.size w.heap.size vo (.slice (some ⟨wr.heap.size, 0, none⟩) 1 1) xs [⟨s, true⟩] rfl rfl (OO.out.alloc _) ONE.out ?_ ?_ ?_; (have := HL.out; simp; omega); (simp; omega); intro v3 w3 o3 g3 hat3; have B3 := Lib.hid (mineCross (BW.out.alloc hsz _) (by simp; omega) (OO.out.alloc _) g3); have O3 := Lib.hid (FM.out ▸ o3); have S3 := Lib.hid ((OS.out.alloc _).kept g3 QQ.out); have Q3 := Lib.hid (show (Value.slice (some ⟨g, 0, none⟩) ss.length cs).ownBlock = none ∨ (Value.slice (some ⟨g, 0, none⟩) ss.length cs).ownBlock ≠ v3.ownBlock from by
          rcases hat3 with s_ | s_ <;> rw [s_]
          · exact QQ.out
          · exact sep_of fun x h1 h2 => by have := LT.out x h1; have := Option.some.inj h2; simp at this; omega); clear o3 g3 hat3)
      exact ⟨⟨k + 1, _, rfl, by omega, by go_num, O3, S3, Q3, B3⟩, by simp [intOf]; omega⟩
    · obtain rfl : k = ss.length := by omega
      have F := Lib.hid (show frontL ss = frontL (ss.take ss.length) by rw [List.take_length])
      go_wp2
      go_ret2
      exact ⟨_, by rw [R.out]; rfl, by rw [R.out, F.out]; exact OO.out, BW.out⟩
end Go.Proofs.Ythijfipjfdmoeaa
