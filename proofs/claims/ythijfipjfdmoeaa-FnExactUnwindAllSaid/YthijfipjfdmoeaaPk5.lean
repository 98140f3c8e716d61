/- Texts of this seat laid together, each with its own first sentence below: UnwS TwxM TwxN UnxM. -/
import Derived.Test.YthijfipjfdmoeaaPk3
import Derived.Test.YthijfipjfdmoeaaPk4
/- The contracts of spec.FullTurn, BringHome and JoinCrosses. Condition: the crossings lie in rows of their own. -/
namespace Go.Proofs.Ythijfipjfdmoeaa
set_option linter.unusedVariables false
set_option linter.unusedSimpArgs false
open Go.RowKit

theorem twoCross (w : World) (base : Nat) (l m : RCross) (hb : base ≤ w.heap.size) : OwnCross (w.alloc (.cells #[.int .i64 l.f0, .bool l.f1, .int .i64 m.f0, .bool m.f1] 56)) base (.slice (some ⟨w.heap.size, 0, none⟩) 2 2) [l, m] :=
  ⟨rfl, .inr ⟨w.heap.size, 2, #[.int .i64 l.f0, .bool l.f1, .int .i64 m.f0, .bool m.f1], rfl, hb, heap_alloc_new w _, Nat.le_refl _, by simp only [maxLen]; omega, rfl, rfl⟩⟩

set_option maxRecDepth 100000 in
set_option maxHeartbeats 1600000 in
theorem specFull (n i k : Int) (f : Bool) (w : World) :
    Calls Try.prog 21 #[.int .i64 n, .int .i64 i, .int .i64 k, .bool f] w (CrossB w (fullTurn n i k f)) := by
  have C0 := Lib.hid (fun v lo hi W => (l01In_any v lo hi W).mono fun e w' h => (show _ ∧ W = w' from ⟨h.1, h.2.symm⟩))
  have E0 := Lib.hid (emptyCross w w.heap.size w.heap.size #[] rfl (Nat.le_refl _) rfl)
  have B0 := Lib.hid ((Below.refl w.heap.size w).alloc (Nat.le_refl _) (.cells #[] 56))
  cases h1 : inB n 2 7 with
  | false =>
    have R := Lib.hid (turn_no (i := i) (k := k) (f := f) (.inl h1))
    go_enter Try.func21, Try.ntmps21
    go_wp2_with (go_at_call 48; refine (C0.out _ _ _ _).mono ?_; rintro e w' ⟨rfl, rfl⟩)
    go_ret2
    exact ⟨_, by rw [R.out]; rfl, by rw [R.out]; exact E0.out, B0.out⟩
  | true =>
  have hn : 2 ≤ n ∧ n ≤ 7 := by simpa [inB] using h1
  have e1 : IntKind.i64.wrap (n - 1) = n - 1 := IntWalk.i64_in _ (by omega)
  cases h2 : inB k 1 (n - 1) with
  | false =>
    have R := Lib.hid (turn_no (n := n) (i := i) (f := f) (.inr (.inl h2)))
    go_enter Try.func21, Try.ntmps21
    go_wp2_with (go_at_call 48; refine (C0.out _ _ _ _).mono ?_; rintro e w' ⟨rfl, rfl⟩)
    go_ret2
    exact ⟨_, by rw [R.out]; rfl, by rw [R.out]; exact E0.out, B0.out⟩
  | true =>
  have hk : 1 ≤ k ∧ k ≤ n - 1 := by simpa [inB] using h2
  have e2 : IntKind.i64.wrap (k - 1) = k - 1 := IntWalk.i64_in _ (by omega)
  cases h3 : inB i 0 (k - 1) with
  | false =>
    have R := Lib.hid (turn_no (n := n) (k := k) (f := f) (.inr (.inr h3)))
    go_enter Try.func21, Try.ntmps21
    go_wp2_with (go_at_call 48; refine (C0.out _ _ _ _).mono ?_; rintro e w' ⟨rfl, rfl⟩)
    go_ret2
    exact ⟨_, by rw [R.out]; rfl, by rw [R.out]; exact E0.out, B0.out⟩
  | true =>
  have hi : 0 ≤ i ∧ i ≤ k - 1 := by simpa [inB] using h3
  have R := Lib.hid (show fullTurn n i k f = (turnL i.toNat k.toNat f, true) by unfold fullTurn; rw [if_pos ⟨h1, h2, h3⟩])
  obtain ⟨I, rfl⟩ := Int.eq_ofNat_of_zero_le hi.1
  obtain ⟨K, rfl⟩ := Int.eq_ofNat_of_zero_le (show 0 ≤ k by omega)
  rw [Int.toNat_natCast, Int.toNat_natCast] at R
  obtain ⟨D, hD⟩ : ∃ D : Nat, K = I + 1 + D := ⟨K - I - 1, by omega⟩
  have RT := Lib.hid (show turnL I K f = downL K D ++ [⟨(I : Int), f⟩, ⟨(I : Int), f⟩] ++ upL I D by unfold turnL; rw [show K - 1 - I = D by omega])
  have HD := Lib.hid hD
  clear hi hD
  go_enter Try.func21, Try.ntmps21
  go_wp2_with (go_at_call 48; refine (C0.out _ _ _ _).mono ?_; rintro e w' ⟨rfl, rfl⟩)
  go_loopw [10, 11] (fun ov iv wr => ∃ (m : Nat) (vo : Value), vo = ov ∧ m ≤ D ∧ iv = .int .i64 ((K : Int) - 1 - (m : Int)) ∧ Hid (OwnCross wr w.heap.size vo (downL K m)) ∧ Hid (Below w.heap.size w wr)) (fun _ iv _ => (intOf iv).toNat)
  case atStart => exact ⟨0, _, rfl, by omega, by simp, E0, B0⟩
  case round =>
    clear E0 B0
    obtain ⟨m, vo, rfl, hm, rfl, OO, BW⟩ := hrel
    have hsz := BW.out.size
    by_cases hlt : m < D
    · have hd := HD.out
      have hm7 : m ≤ 7 := by omega
      have hp : (I : Int) < (K : Int) - 1 - (m : Int) := by omega
      have ew : IntKind.i64.wrap ((K : Int) - 1 - (m : Int) - 1) = (K : Int) - 1 - ((m + 1 : Nat) : Int) := by rw [IntWalk.i64_in _ (by omega)]; omega
      have hlen := downL_len K m
      have HL := Lib.hid hlen
      have DM := Lib.hid (show downL K (m + 1) = downL K m ++ [⟨(K : Int) - 1 - (m : Int), false⟩] from rfl)
      have MZ : ((K : Int) - 1 - ((m + 1 : Nat) : Int)).toNat < ((K : Int) - 1 - (m : Int)).toNat := by omega
      have ONE := Lib.hid (oneCross wr w.heap.size ⟨(K : Int) - 1 - (m : Int), false⟩ hsz)
      generalize (K : Int) - 1 - (m : Int) = p at hp ew DM MZ ONE ⊢
      generalize hq : (K : Int) - 1 - ((m + 1 : Nat) : Int) = q at ew MZ
      have HQ := Lib.hid hq
      clear hlen hq hd
      go_wp2_with (at_builtin; refine wpList_rowsCross rfl (.tmp 39) (.tmp 42) rfl w.heap.size w.heap.size vo (.slice (some ⟨wr.heap.size, 0, none⟩) 1 1) (downL K m) [⟨p, false⟩] rfl rfl (OO.out.alloc _) ONE.out ?_ ?_ ?_; (rw [HL.out]; simp; omega); (simp; omega); intro v3 w3 o3 g3 hat3; have B3 := Lib.hid (mineCross (BW.out.alloc hsz _) (by simp; omega) (OO.out.alloc _) g3); have O3 := Lib.hid (DM.out ▸ o3); clear o3 g3 hat3)
      exact ⟨⟨m + 1, _, rfl, by omega, by rw [HQ.out], O3, B3⟩, by simpa [intOf] using MZ⟩
    obtain rfl : m = D := by omega
    have hm7 : m ≤ 7 ∧ I ≤ 7 := by have := HD.out; omega
    clear hlt hm
    have hp : ¬ (I : Int) < (K : Int) - 1 - (m : Int) := by have := HD.out; omega
    have hlen := downL_len K m
    have HL := Lib.hid hlen
    have TWO := Lib.hid (twoCross wr w.heap.size ⟨(I : Int), f⟩ ⟨(I : Int), f⟩ hsz)
    have ei : IntKind.i64.wrap ((I : Int) + 1) = (I : Int) + 1 := IntWalk.i64_in _ (by omega)
    generalize (K : Int) - 1 - (m : Int) = p at hp ⊢
    clear hlen
    go_wp2_with (at_builtin; refine wpList_rowsCross rfl (.tmp 44) (.tmp 51) rfl w.heap.size w.heap.size vo (.slice (some ⟨wr.heap.size, 0, none⟩) 2 2) (downL K m) [⟨(I : Int), f⟩, ⟨(I : Int), f⟩] rfl rfl (OO.out.alloc _) TWO.out ?_ ?_ ?_; (rw [HL.out]; simp; omega); (simp; omega); intro v3 w3 o3 g3 hat3; have B3 := Lib.hid (mineCross (BW.out.alloc hsz _) (by simp; omega) (OO.out.alloc _) g3); have O3 := Lib.hid o3; clear o3 g3 hat3)
    clear OO BW hsz
    go_loopw [10, 12] (fun ov iv wr => ∃ (j : Nat) (vo : Value), vo = ov ∧ j ≤ m ∧ iv = .int .i64 ((I : Int) + 1 + (j : Int)) ∧ Hid (OwnCross wr w.heap.size vo (downL K m ++ [⟨(I : Int), f⟩, ⟨(I : Int), f⟩] ++ upL I j)) ∧ Hid (Below w.heap.size w wr)) (fun _ iv _ => K - (intOf iv).toNat)
    case atStart => exact ⟨0, _, rfl, by omega, by simp, Lib.hid (by rw [upL, List.append_nil]; exact O3.out), B3⟩
    case round =>
      clear O3 B3
      obtain ⟨j, vo, rfl, hj, rfl, OO, BW⟩ := hrel
      have hsz := BW.out.size
      by_cases hlt : j < m
      · have hd := HD.out
        have hp : (I : Int) + 1 + (j : Int) < (K : Int) := by omega
        have ew : IntKind.i64.wrap ((I : Int) + 1 + (j : Int) + 1) = (I : Int) + 1 + ((j + 1 : Nat) : Int) := by rw [IntWalk.i64_in _ (by omega)]; omega
        have hlen := downL_len K m
        have hlen2 := upL_len I j
        have HL := Lib.hid (show (downL K m ++ ([⟨(I : Int), f⟩, ⟨(I : Int), f⟩] : List RCross) ++ upL I j).length = m + 2 + j by rw [List.length_append, List.length_append, hlen, hlen2]; rfl)
        have DM := Lib.hid (show downL K m ++ [⟨(I : Int), f⟩, ⟨(I : Int), f⟩] ++ upL I (j + 1) = downL K m ++ [⟨(I : Int), f⟩, ⟨(I : Int), f⟩] ++ upL I j ++ [⟨(I : Int) + 1 + (j : Int), true⟩] by rw [upL, ← List.append_assoc])
        have MZ : K - ((I : Int) + 1 + ((j + 1 : Nat) : Int)).toNat < K - ((I : Int) + 1 + (j : Int)).toNat := by omega
        have ONE := Lib.hid (oneCross wr w.heap.size ⟨(I : Int) + 1 + (j : Int), true⟩ hsz)
        generalize downL K m ++ [⟨(I : Int), f⟩, ⟨(I : Int), f⟩] ++ upL I j = xs at OO HL DM
        generalize (I : Int) + 1 + (j : Int) = p at hp ew DM MZ ONE ⊢
        generalize hq : (I : Int) + 1 + ((j + 1 : Nat) : Int) = q at ew MZ
        have HQ := Lib.hid hq
        clear hlen hlen2 hq hd
        go_wp2_with (at_builtin; refine wpList_rowsCross rfl (.tmp 60) (.tmp 63) rfl w.heap.size w.heap.size vo (.slice (some ⟨wr.heap.size, 0, none⟩) 1 1) xs [⟨p, true⟩] rfl rfl (OO.out.alloc _) ONE.out ?_ ?_ ?_; (rw [HL.out]; simp; omega); (simp; omega); intro v3 w3 o3 g3 hat3; have B3 := Lib.hid (mineCross (BW.out.alloc hsz _) (by simp; omega) (OO.out.alloc _) g3); have O3 := Lib.hid (DM.out ▸ o3); clear o3 g3 hat3)
        exact ⟨⟨j + 1, _, rfl, by omega, by rw [HQ.out], O3, B3⟩, by simpa [intOf] using MZ⟩
      · obtain rfl : j = m := by omega
        have hp : ¬ (I : Int) + 1 + (j : Int) < (K : Int) := by have := HD.out; omega
        generalize (I : Int) + 1 + (j : Int) = p at hp ⊢
        go_wp2
        go_ret2
        exact ⟨_, by rw [R.out]; rfl, by rw [R.out, RT.out]; exact OO.out, BW.out⟩

set_option maxRecDepth 100000 in
set_option maxHeartbeats 1600000 in
theorem specJoin (v1 v2 : Value) (xs ys : List RCross) (b1 b2 : Nat) (w : World) (h1 : OwnCross w b1 v1 xs) (h2 : OwnCross w b2 v2 ys) (hx : xs.length ≤ 2000000) (hy : ys.length ≤ 2000000) :
    Calls Try.prog 29 #[v1, v2] w (CrossPost w (xs ++ ys)) := by
  obtain ⟨A, c, rfl⟩ := h1.slice
  obtain ⟨P, p, rfl⟩ := h2.slice
  have O1 := Lib.hid h1
  have O2 := Lib.hid h2
  clear h1 h2
  have E0 := Lib.hid (emptyCross w w.heap.size w.heap.size #[] rfl (Nat.le_refl _) rfl)
  go_enter Try.func29, Try.ntmps29
  go_wp2_with (first | (have q_ := A8; at_builtin; refine wpList_rowsCross rfl (.tmp 7) (.tmp 8) rfl w.heap.size b2 v8 (.slice P ys.length p) xs ys rfl rfl A8.out (O2.out.below B8.out) ?_ ?_ ?_; (omega); (exact B8.out.size); intro v9 w9 o9 g9 hat9; have B9 := Lib.hid (mineCross B8.out B8.out.size A8.out g9); have A9 := Lib.hid o9; clear o9 g9 hat9) | (at_builtin; refine wpList_rowsCross rfl (.tmp 5) (.tmp 6) rfl w.heap.size b1 (.slice (some ⟨w.heap.size, 0, none⟩) 0 0) (.slice A xs.length c) [] xs rfl rfl E0.out (O1.out.alloc _) ?_ ?_ ?_; (simp; omega); (simp); intro v8 w8 o8 g8 hat8; replace o8 : OwnCross w8 w.heap.size v8 xs := o8; have B8 := Lib.hid (mineCross ((Below.refl w.heap.size w).alloc (Nat.le_refl _) _) (by simp) E0.out g8); have A8 := Lib.hid o8; clear o8 g8 hat8))
  go_ret
  exact ⟨_, rfl, A9.out, B9.out⟩

set_option maxRecDepth 100000 in
set_option maxHeartbeats 1600000 in
theorem specHome (n : Int) (v : Value) (ls : List RCross) (b : Nat) (w : World) (h : OwnCross w b v ls) (hl : ls.length ≤ 2000000) :
    Calls Try.prog 28 #[.int .i64 n, v] w (CrossB w (bringHome n ls)) := by
  have CK := Lib.hid (fun W h => specCrOk n v ls b W h hl)
  have CA := Lib.hid (fun W h => specOrdA n v ls b W h hl)
  have CS := Lib.hid (fun v b W h => specSort v (ordAfter n ls) b W h (by have := ordAfter_len n ls; omega))
  obtain ⟨A, c, rfl⟩ := h.slice
  have O := Lib.hid h
  clear h
  have E0 := Lib.hid (emptyCross w w.heap.size w.heap.size #[] rfl (Nat.le_refl _) rfl)
  have B0 := Lib.hid ((Below.refl w.heap.size w).alloc (Nat.le_refl _) (.cells #[] 56))
  have OA := Lib.hid (O.out.alloc (.cells #[] 56))
  cases hc : crossOk n ls with
  | false =>
    have R := Lib.hid (show bringHome n ls = ([], false) by unfold bringHome; rw [hc]; rfl)
    rw [hc] at CK
    go_enter Try.func28, Try.ntmps28
    go_wp2_with (go_at_call 37; refine (CK.out _ OA.out).mono ?_; rintro e w1 ⟨rfl, b1⟩; have E1 := Lib.hid (E0.out.below b1); have B1 := Lib.hid (B0.out.trans (b1.mono B0.out.size)); clear b1)
    go_ret2
    exact ⟨_, by rw [R.out]; rfl, by rw [R.out]; exact E1.out, B1.out⟩
  | true =>
  rw [hc] at CK
  have sl := sortSwaps_len (ordAfter n ls)
  have R := Lib.hid (show bringHome n ls = (frontL (sortSwaps (ordAfter n ls)), true) by unfold bringHome; rw [if_pos hc])
  generalize sortSwaps (ordAfter n ls) = ss at CS sl R
  generalize ordAfter n ls = zs at CA CS
  clear hc
  go_enter Try.func28, Try.ntmps28
  go_wp2_with fail
  refine (CK.out _ OA.out).mono ?_
  rintro e w1 ⟨rfl, b1⟩
  have E1 := Lib.hid (E0.out.below b1)
  have B1 := Lib.hid (B0.out.trans (b1.mono B0.out.size))
  clear b1 CK E0 B0 OA
  go_wp2_with fail
  refine (CA.out _ (O.out.below B1.out)).mono ?_
  rintro e w2 ⟨v2, rfl, o2, b2⟩
  obtain ⟨Z, cz, rfl⟩ := o2.slice
  have O2 := Lib.hid o2
  have E2 := Lib.hid (E1.out.below b2)
  have B2 := Lib.hid (B1.out.trans (b2.mono B1.out.size))
  clear b2 o2 E1 B1 CA
  go_wp2_with fail
  refine (CS.out _ _ _ O2.out).mono ?_
  rintro e w3 ⟨v3, rfl, o3, b3⟩
  obtain ⟨S, cs, rfl⟩ := o3.slice
  have hs2 := B2.out.size
  have S3 := Lib.hid (o3.mono hs2)
  have E3 := Lib.hid (E2.out.below b3)
  have B3 := Lib.hid (B2.out.trans (b3.mono B2.out.size))
  have Q3 := Lib.hid (show (Value.slice S ss.length cs).ownBlock = none ∨ (Value.slice S ss.length cs).ownBlock ≠ (Value.slice (some ⟨w.heap.size, 0, none⟩) 0 0).ownBlock from sep_of fun x h1 h2 => by
    have := (o3.lt x h1).1
    have := (E2.out.lt x h2).2
    omega)
  clear b3 o3 E2 B2 O2 CS hs2
  go_wp2_with fail
  go_loopw [6, 8] (fun ov iv wr => ∃ (k : Nat) (vo : Value), vo = ov ∧ k ≤ ss.length ∧ iv = .int .i64 (k : Int) ∧ Hid (OwnCross wr w.heap.size vo (frontL (ss.take k))) ∧ Hid (OwnI wr w.heap.size (.slice S ss.length cs) ss) ∧ Hid ((Value.slice S ss.length cs).ownBlock = none ∨ (Value.slice S ss.length cs).ownBlock ≠ vo.ownBlock) ∧ Hid (Below w.heap.size w wr)) (fun _ iv _ => ss.length - (intOf iv).toNat)
  case atStart => exact ⟨0, _, rfl, by omega, rfl, E3, S3, Q3, B3⟩
  case round =>
    clear E3 S3 Q3 B3
    obtain ⟨k, vo, rfl, hk, rfl, OO, OS, QQ, BW⟩ := hrel
    by_cases hlt : k < ss.length
    · have hk0 : (0 : Int) ≤ (k : Int) := by omega
      have hk1 : (k : Int) < (ss.length : Int) := by omega
      have hsz := BW.out.size
      have FM := Lib.hid (frontL_more hlt)
      have hfl : (frontL (ss.take k)).length ≤ 49 := by simp [frontL]; omega
      have HL := Lib.hid hfl
      have LT := Lib.hid (fun x hx => (OS.out.lt x hx).2)
      obtain ⟨g, _, f1, _, _, z0, _⟩ := OS.out.spot hlt
      simp only [Value.slice.injEq] at f1
      obtain ⟨rfl, em, rfl⟩ := f1
      generalize ss[k] = s at z0 FM
      have ONE := Lib.hid (oneCross wr w.heap.size ⟨s, true⟩ hsz)
      generalize frontL (ss.take k) = xs at OO FM HL
      clear em hfl
      go_wp2_with (at_builtin; refine wpList_rowsCross rfl (.tmp 25) (.tmp 31) rfl w.heap.size w.heap.size vo (.slice (some ⟨wr.heap.size, 0, none⟩) 1 1) xs [⟨s, true⟩] rfl rfl (OO.out.alloc _) ONE.out ?_ ?_ ?_; (have := HL.out; simp; omega); (simp; omega); intro v3 w3 o3 g3 hat3; have B3 := Lib.hid (mineCross (BW.out.alloc hsz _) (by simp; omega) (OO.out.alloc _) g3); have O3 := Lib.hid (FM.out ▸ o3); have S3 := Lib.hid ((OS.out.alloc _).kept g3 QQ.out); have Q3 := Lib.hid (show (Value.slice (some ⟨g, 0, none⟩) ss.length cs).ownBlock = none ∨ (Value.slice (some ⟨g, 0, none⟩) ss.length cs).ownBlock ≠ v3.ownBlock from by
          rcases hat3 with s_ | s_ <;> rw [s_]
          · exact QQ.out
          · exact sep_of fun x h1 h2 => by have := LT.out x h1; have := Option.some.inj h2; simp at this; omega); clear o3 g3 hat3)
      exact ⟨⟨k + 1, _, rfl, by omega, by go_num, O3, S3, Q3, B3⟩, by simp [intOf]; omega⟩
    · obtain rfl : k = ss.length := by omega
      have F := Lib.hid (show frontL ss = frontL (ss.take ss.length) by rw [List.take_length])
      go_wp2
      go_ret2
      exact ⟨_, by rw [R.out]; rfl, by rw [R.out, F.out]; exact OO.out, BW.out⟩
end Go.Proofs.Ythijfipjfdmoeaa

/- Twists: they add up, they are even just if the order of the pair is as before, they vanish by undoing, they are as many as the wound pairs: plain mathematics. -/
namespace Go.Proofs.Ythijfipjfdmoeaa
set_option linter.unusedVariables false
set_option linter.unusedSimpArgs false

/-- What one crossing adds to the twist of i and k. -/
def hit (zs : List Int) (l : RCross) (i k : Nat) : Int :=
  if ((i : Int) = atI zs l.f0.toNat ∧ (k : Int) = atI zs (l.f0.toNat + 1)) ∨ ((i : Int) = atI zs (l.f0.toNat + 1) ∧ (k : Int) = atI zs l.f0.toNat) then sgn l else 0
/-- The twist of i and k over crossings that begin at an order. -/
def tw : List Int → List RCross → Nat → Nat → Int
  | _, [], _, _ => 0
  | zs, l :: ls, i, k => hit zs l i k + tw (stepA zs l) ls i k
theorem tw_append (xs ys : List RCross) (i k : Nat) : ∀ zs, tw zs (xs ++ ys) i k = tw zs xs i k + tw (xs.foldl stepA zs) ys i k := by
  induction xs with
  | nil => intro zs; simp [tw]
  | cons l xs ih => intro zs; rw [List.cons_append, tw, tw, ih, List.foldl_cons, Int.add_assoc]
theorem hit_sym (zs : List Int) (l : RCross) (i k : Nat) : hit zs l i k = hit zs l k i := by
  unfold hit
  by_cases c : ((i : Int) = atI zs l.f0.toNat ∧ (k : Int) = atI zs (l.f0.toNat + 1)) ∨ ((i : Int) = atI zs (l.f0.toNat + 1) ∧ (k : Int) = atI zs l.f0.toNat)
  · rw [if_pos c, if_pos (by omega)]
  · rw [if_neg c, if_neg (by omega)]
theorem tw_sym (ls : List RCross) (i k : Nat) : ∀ zs, tw zs ls i k = tw zs ls k i := by
  induction ls with
  | nil => exact fun _ => rfl
  | cons l ls ih => intro zs; rw [tw, tw, hit_sym, ih]
section
variable {n : Nat} {zs : List Int} {l x : RCross} {ls : List RCross} {i k : Nat}
theorem fits_nat (h : Fits n l) : ∃ q : Nat, l.f0 = (q : Int) ∧ l.f0.toNat = q ∧ q + 1 < n := by
  obtain ⟨q, hq⟩ := Int.eq_ofNat_of_zero_le h.1
  have := h.2
  exact ⟨q, hq, by omega, by omega⟩
theorem hit_diag (ho : IsOrd zs) (hn : zs.length = n) (h : Fits n l) (i : Nat) : hit zs l i i = 0 := by
  obtain ⟨q, _, e, hq⟩ := fits_nat h
  have := (ord_at ho).2 q (q + 1) (by omega) (by omega) (by omega)
  unfold hit
  rw [e, if_neg (by omega)]
theorem tw_diag (hf : ∀ l ∈ ls, Fits n l) (i : Nat) : ∀ {zs : List Int}, IsOrd zs → zs.length = n → tw zs ls i i = 0 := by
  induction ls with
  | nil => exact fun _ _ => rfl
  | cons l ls ih =>
    intro zs ho hn
    have h1 := hf l List.mem_cons_self
    rw [tw, hit_diag ho hn h1, ih (fun x hx => hf x (List.mem_cons_of_mem _ hx)) (stepA_ord ho hn h1) (by rw [stepA_len]; exact hn)]
    rfl
/-- Two crossings of which one undoes the other add nothing. -/
theorem hit_undo (ho : IsOrd zs) (hn : zs.length = n) (h : Fits n x) (hu : undoes x l = true) : hit zs x i k + hit (stepA zs x) l i k = 0 := by
  obtain ⟨q, _, e, hq⟩ := fits_nat h
  obtain ⟨e1, e2⟩ := undoes_at hu
  have es : sgn x = -sgn l := by
    rw [← e2]
    unfold sgn turned
    cases l.f1 <;> rfl
  unfold hit
  rw [stepA_swap ho hn h, ← e1, e, swap_at (by omega), swap_at (by omega), swF_at, swF_next]
  by_cases c : ((i : Int) = atI zs q ∧ (k : Int) = atI zs (q + 1)) ∨ ((i : Int) = atI zs (q + 1) ∧ (k : Int) = atI zs q)
  · rw [if_pos c, if_pos (by omega)]
    omega
  · rw [if_neg c, if_neg (by omega)]
    rfl
theorem tw_push (out : List RCross) (hf : ∀ y ∈ out, Fits n y) (ho : IsOrd zs) (hn : zs.length = n) : tw zs (push out l) i k = tw zs (out ++ [l]) i k := by
  rcases push_cases out l with ⟨pre, x, rfl, hu, e⟩ | ⟨e, _⟩
  · have hp : ∀ y ∈ pre, Fits n y := fun y hy => hf y (List.mem_append_left _ hy)
    have := hit_undo (i := i) (k := k) (run_ord hp ho hn) (by rw [foldA_len]; exact hn) (hf x (by simp)) hu
    rw [e, List.append_assoc, tw_append]
    simp only [List.singleton_append, tw]
    omega
  · rw [e]
theorem tw_red (hf : ∀ l ∈ ls, Fits n l) (ho : IsOrd zs) (hn : zs.length = n) : ∀ (out : List RCross), (∀ y ∈ out, Fits n y) → tw zs (ls.foldl push out) i k = tw zs (out ++ ls) i k := by
  induction ls with
  | nil => intro out _; rw [List.append_nil]; rfl
  | cons l ls ih =>
    intro out h
    have h1 := hf l List.mem_cons_self
    rw [List.foldl_cons, ih (fun x hx => hf x (List.mem_cons_of_mem _ hx)) (push out l) (push_fits out h h1), tw_append, tw_push out h ho hn, push_run out h h1 ho hn,
      show out ++ l :: ls = (out ++ [l]) ++ ls by simp, tw_append (out ++ [l]), List.foldl_append]
    rfl
end

/-- The place of a puppet. -/
def pos (zs : List Int) (x : Nat) : Int := placeTo (atI zs) (x : Int) zs.length
theorem pos_at {zs : List Int} (h : IsOrd zs) {p x : Nat} (hp : p < zs.length) (hx : atI zs p = (x : Int)) : pos zs x = (p : Int) := by
  obtain ⟨p', h1, h2, h3⟩ := place_found (f := atI zs) (x := (x : Int)) (n := zs.length) ⟨p, hp, hx⟩
  unfold pos
  rw [h3]
  by_cases e : p' = p
  · rw [e]
  · exact absurd (h2.trans hx.symm) ((ord_at h).2 p' p h1 hp e)
theorem pos_of {zs : List Int} (h : IsOrd zs) {x : Nat} (hx : x < zs.length) : ∃ p : Nat, p < zs.length ∧ atI zs p = (x : Int) ∧ pos zs x = (p : Int) := by
  obtain ⟨p, h1, h2⟩ := ord_has h hx
  exact ⟨p, h1, h2, pos_at h h1 h2⟩
theorem pos_swap {zs : List Int} (h : IsOrd zs) {q x : Nat} (hq : q + 1 < zs.length) (hx : x < zs.length) :
    pos (swapL zs q) x = (if pos zs x = (q : Int) then (q : Int) + 1 else if pos zs x = (q : Int) + 1 then (q : Int) else pos zs x) := by
  obtain ⟨p, h1, h2, h3⟩ := pos_of h hx
  have ho := swap_ord h hq
  have hl := swap_len zs q
  rw [h3]
  by_cases e : p = q
  · subst e
    rw [if_pos rfl, pos_at ho (p := p + 1) (by omega) (by rw [swap_at hq, swF_next]; exact h2)]
    omega
  · rw [if_neg (by omega)]
    by_cases f : p = q + 1
    · subst f
      rw [if_pos (by omega), pos_at ho (p := q) (by omega) (by rw [swap_at hq, swF_at]; exact h2)]
    · rw [if_neg (by omega), pos_at ho (p := p) (by omega) (by rw [swap_at hq]; unfold swF; rw [if_neg e, if_neg f]; exact h2)]
/-- A crossing turns the order of its pair and of no other one. -/
theorem hit_turn {n : Nat} {zs : List Int} {l : RCross} {i k : Nat} (ho : IsOrd zs) (hn : zs.length = n) (h : Fits n l) (hi : i < n) (hk : k < n) (hik : i ≠ k) :
    (hit zs l i k % 2 = 0 ↔ (pos zs k < pos zs i ↔ pos (stepA zs l) k < pos (stepA zs l) i)) := by
  obtain ⟨q, _, e, hq⟩ := fits_nat h
  obtain ⟨p1, a1, a2, a3⟩ := pos_of ho (x := i) (by omega)
  obtain ⟨p2, b1, b2, b3⟩ := pos_of ho (x := k) (by omega)
  have ne : p1 ≠ p2 := fun x => hik (by rw [x, b2] at a2; omega)
  have at1 : ((i : Int) = atI zs q) ↔ p1 = q := ⟨fun x => by
    by_cases c : p1 = q
    · exact c
    · exact absurd (a2.trans x) ((ord_at ho).2 p1 q a1 (by omega) c), fun x => by rw [← x, a2]⟩
  have at2 : ((i : Int) = atI zs (q + 1)) ↔ p1 = q + 1 := ⟨fun x => by
    by_cases c : p1 = q + 1
    · exact c
    · exact absurd (a2.trans x) ((ord_at ho).2 p1 (q + 1) a1 (by omega) c), fun x => by rw [← x, a2]⟩
  have at3 : ((k : Int) = atI zs q) ↔ p2 = q := ⟨fun x => by
    by_cases c : p2 = q
    · exact c
    · exact absurd (b2.trans x) ((ord_at ho).2 p2 q b1 (by omega) c), fun x => by rw [← x, b2]⟩
  have at4 : ((k : Int) = atI zs (q + 1)) ↔ p2 = q + 1 := ⟨fun x => by
    by_cases c : p2 = q + 1
    · exact c
    · exact absurd (b2.trans x) ((ord_at ho).2 p2 (q + 1) b1 (by omega) c), fun x => by rw [← x, b2]⟩
  rw [stepA_swap ho hn h, e, pos_swap ho (by omega) (by omega), pos_swap ho (by omega) (by omega), a3, b3]
  have he : hit zs l i k = if (p1 = q ∧ p2 = q + 1) ∨ (p1 = q + 1 ∧ p2 = q) then sgn l else 0 := by
    unfold hit
    rw [e]
    simp only [at1, at2, at3, at4]
  rw [he]
  have hs : sgn l = 1 ∨ sgn l = -1 := by unfold sgn; split <;> simp
  by_cases c : (p1 = q ∧ p2 = q + 1) ∨ (p1 = q + 1 ∧ p2 = q)
  · rw [if_pos c]
    rcases c with ⟨c1, c2⟩ | ⟨c1, c2⟩
    · subst c1 c2
      rw [if_neg (by omega), if_pos (by omega), if_pos rfl]
      rcases hs with s | s <;> rw [s] <;> constructor <;> intro <;> omega
    · subst c1 c2
      rw [if_pos rfl, if_neg (by omega), if_pos (by omega)]
      rcases hs with s | s <;> rw [s] <;> constructor <;> intro <;> omega
  · rw [if_neg c]
    refine ⟨fun _ => ?_, fun _ => rfl⟩
    split <;> split <;> (try split) <;> (try split) <;> omega
theorem tw_turn {n : Nat} {ls : List RCross} {i k : Nat} (hf : ∀ l ∈ ls, Fits n l) (hi : i < n) (hk : k < n) (hik : i ≠ k) : ∀ {zs : List Int}, IsOrd zs → zs.length = n →
    (tw zs ls i k % 2 = 0 ↔ (pos zs k < pos zs i ↔ pos (ls.foldl stepA zs) k < pos (ls.foldl stepA zs) i)) := by
  induction ls with
  | nil => intro zs _ _; simp [tw]
  | cons l ls ih =>
    intro zs ho hn
    have h1 := hf l List.mem_cons_self
    have a := hit_turn ho hn h1 hi hk hik
    have b := ih (fun x hx => hf x (List.mem_cons_of_mem _ hx)) (stepA_ord ho hn h1) (by rw [stepA_len]; exact hn)
    rw [tw, List.foldl_cons]
    generalize hit zs l i k = u at a
    generalize tw (stepA zs l) ls i k = v at b
    have e : (u + v) % 2 = 0 ↔ (u % 2 = 0 ↔ v % 2 = 0) := by omega
    rw [e, a, b]
    by_cases c1 : pos zs k < pos zs i <;> by_cases c2 : pos (stepA zs l) k < pos (stepA zs l) i <;> by_cases c3 : pos (List.foldl stepA (stepA zs l) ls) k < pos (List.foldl stepA (stepA zs l) ls) i <;> simp [c1, c2, c3]
end Go.Proofs.Ythijfipjfdmoeaa

/- Twists: sums over pairs, the table's entries, the wound pairs, the least undoing: all that FnTwists asks. No condition. -/
namespace Go.Proofs.Ythijfipjfdmoeaa
set_option linter.unusedVariables false
set_option linter.unusedSimpArgs false

def rsum (f : Nat → Nat → Int) (i : Nat) : Nat → Int
  | 0 => 0
  | k + 1 => rsum f i k + f i k
/-- The sum over all pairs k < i < n. -/
def dsum (f : Nat → Nat → Int) : Nat → Int
  | 0 => 0
  | i + 1 => dsum f i + rsum f i i
section
variable {f g : Nat → Nat → Int} {n i : Nat}
theorem rsum_congr (m : Nat) (h : ∀ k, k < m → f i k = g i k) : rsum f i m = rsum g i m := by
  induction m with
  | zero => rfl
  | succ m ih => rw [rsum, rsum, ih (fun k hk => h k (by omega)), h m (by omega)]
theorem dsum_congr (h : ∀ i k, i < n → k < i → f i k = g i k) : dsum f n = dsum g n := by
  induction n with
  | zero => rfl
  | succ n ih => rw [dsum, dsum, ih (fun i k hi hk => h i k (by omega) hk), rsum_congr n (fun k hk => h n k (by omega) hk)]
theorem rsum_le (m : Nat) (h : ∀ k, k < m → f i k ≤ g i k) : rsum f i m ≤ rsum g i m := by
  induction m with
  | zero => exact Int.le_refl _
  | succ m ih =>
    have h1 := ih (fun k hk => h k (by omega))
    have h2 := h m (by omega)
    rw [rsum, rsum]
    omega
theorem dsum_le (h : ∀ i k, i < n → k < i → f i k ≤ g i k) : dsum f n ≤ dsum g n := by
  induction n with
  | zero => exact Int.le_refl _
  | succ n ih =>
    have h1 := ih (fun i k hi hk => h i k (by omega) hk)
    have h2 := rsum_le (f := f) (g := g) (i := n) n (fun k hk => h n k (by omega) hk)
    rw [dsum, dsum]
    omega
theorem rsum_one (u v m : Nat) (s : Int) : rsum (fun i k => f i k + if i = u ∧ k = v then s else 0) i m = rsum f i m + if i = u ∧ v < m then s else 0 := by
  induction m with
  | zero => rw [rsum, rsum, if_neg (by omega)]; rfl
  | succ m ih =>
    rw [rsum, rsum, ih]
    by_cases a : i = u
    · by_cases b : m = v
      · rw [if_neg (by omega), if_pos ⟨a, b⟩, if_pos ⟨a, by omega⟩]; omega
      · by_cases c : v < m
        · rw [if_pos ⟨a, c⟩, if_neg (by omega), if_pos ⟨a, by omega⟩]; omega
        · rw [if_neg (by omega), if_neg (by omega), if_neg (by omega)]; omega
    · rw [if_neg (by omega), if_neg (by omega), if_neg (by omega)]; omega
theorem dsum_one {u v : Nat} (h : v < u) (s : Int) : dsum (fun i k => f i k + if i = u ∧ k = v then s else 0) n = dsum f n + if u < n then s else 0 := by
  induction n with
  | zero => rw [dsum, dsum, if_neg (by omega)]; rfl
  | succ n ih =>
    rw [dsum, dsum, ih, rsum_one]
    by_cases a : n = u
    · rw [if_neg (by omega), if_pos (by omega), if_pos (by omega)]; omega
    · by_cases b : u < n
      · rw [if_pos b, if_neg (by omega), if_pos (by omega)]; omega
      · rw [if_neg b, if_neg (by omega), if_neg (by omega)]; omega
theorem rsum_zero (m : Nat) : rsum (fun _ _ => 0) i m = 0 := by
  induction m with
  | zero => rfl
  | succ m ih => rw [rsum, ih]; rfl
theorem dsum_zero (n : Nat) : dsum (fun _ _ => 0) n = 0 := by
  induction n with
  | zero => rfl
  | succ n ih => rw [dsum, ih, rsum_zero]; rfl
end
section
variable {n : Nat} {zs : List Int} {l : RCross} {ls : List RCross}
/-- The pair of a crossing, the greater one first. -/
theorem hit_pair (ho : IsOrd zs) (hn : zs.length = n) (h : Fits n l) : ∃ u v, v < u ∧ u < n ∧ ∀ i k, k < i → hit zs l i k = if i = u ∧ k = v then sgn l else 0 := by
  obtain ⟨q, _, e, hq⟩ := fits_nat h
  obtain ⟨r, o⟩ := ord_at ho
  have h1 := r q (by omega)
  have h2 := r (q + 1) (by omega)
  have h3 := o q (q + 1) (by omega) (by omega) (by omega)
  obtain ⟨a, ha⟩ := Int.eq_ofNat_of_zero_le h1.1
  obtain ⟨d, hd⟩ := Int.eq_ofNat_of_zero_le h2.1
  rcases Nat.lt_or_ge a d with c | c
  · refine ⟨d, a, c, by omega, fun i k hik => ?_⟩
    unfold hit
    rw [e, ha, hd]
    by_cases x : i = d ∧ k = a
    · rw [if_pos x, if_pos (by omega)]
    · rw [if_neg x, if_neg (by omega)]
  · refine ⟨a, d, by omega, by omega, fun i k hik => ?_⟩
    unfold hit
    rw [e, ha, hd]
    by_cases x : i = a ∧ k = d
    · rw [if_pos x, if_pos (by omega)]
    · rw [if_neg x, if_neg (by omega)]
def tot : List RCross → Int
  | [] => 0
  | l :: ls => sgn l + tot ls
theorem tot_append (xs ys : List RCross) : tot (xs ++ ys) = tot xs + tot ys := by
  induction xs with
  | nil => simp [tot]
  | cons l xs ih => rw [List.cons_append, tot, tot, ih, Int.add_assoc]
theorem totTo_tot (ls : List RCross) : ∀ k, k ≤ ls.length → totTo ls k = tot (ls.take k) := by
  intro k
  induction k with
  | zero => intro _; rfl
  | succ k ih =>
    intro hk
    rw [totTo, ih (by omega), List.take_succ_eq_append_getElem (by omega), tot_append, List.getD_eq_getElem?_getD, List.getElem?_eq_getElem (by omega)]
    simp [tot]
theorem tot_push (out : List RCross) (l : RCross) : tot (push out l) = tot out + sgn l := by
  rcases push_cases out l with ⟨pre, x, rfl, hu, e⟩ | ⟨e, _⟩
  · have es : sgn x = -sgn l := by
      rw [← (undoes_at hu).2]
      unfold sgn turned
      cases l.f1 <;> rfl
    rw [e, tot_append]
    simp only [tot]
    omega
  · rw [e, tot_append]
    simp [tot]
theorem tot_red (ls : List RCross) : ∀ out, tot (ls.foldl push out) = tot out + tot ls := by
  induction ls with
  | nil => intro out; simp [tot]
  | cons l ls ih => intro out; rw [List.foldl_cons, ih, tot_push, tot]; omega
/-- The twists of all pairs add up. -/
theorem tw_sum (hf : ∀ l ∈ ls, Fits n l) : ∀ {zs : List Int}, IsOrd zs → zs.length = n → dsum (tw zs ls) n = tot ls := by
  induction ls with
  | nil => intro zs _ _; exact dsum_zero n
  | cons l ls ih =>
    intro zs ho hn
    have h1 := hf l List.mem_cons_self
    obtain ⟨u, v, huv, hu, hh⟩ := hit_pair ho hn h1
    have := ih (fun x hx => hf x (List.mem_cons_of_mem _ hx)) (stepA_ord ho hn h1) (by rw [stepA_len]; exact hn)
    rw [dsum_congr (g := fun i k => tw (stepA zs l) ls i k + if i = u ∧ k = v then sgn l else 0) (fun i k _ hk => by rw [tw, hh i k hk]; omega), dsum_one huv, if_pos hu, this, tot]
    omega
theorem tw_abs (hf : ∀ l ∈ ls, Fits n l) : ∀ {zs : List Int}, IsOrd zs → zs.length = n → dsum (fun i k => absI (tw zs ls i k)) n ≤ ls.length := by
  induction ls with
  | nil =>
    intro zs _ _
    have e := dsum_congr (n := n) (f := fun i k => absI (tw zs [] i k)) (g := fun _ _ => 0) (fun i k _ _ => rfl)
    rw [e, dsum_zero]
    simp
  | cons l ls ih =>
    intro zs ho hn
    have h1 := hf l List.mem_cons_self
    obtain ⟨u, v, huv, hu, hh⟩ := hit_pair ho hn h1
    have h2 := ih (fun x hx => hf x (List.mem_cons_of_mem _ hx)) (stepA_ord ho hn h1) (by rw [stepA_len]; exact hn)
    have h3 := dsum_le (n := n) (f := fun i k => absI (tw zs (l :: ls) i k)) (g := fun i k => absI (tw (stepA zs l) ls i k) + if i = u ∧ k = v then 1 else 0) (fun i k _ hk => by
      have hs := sgn_small l
      simp only [tw, hh i k hk]
      unfold absI
      split <;> split <;> split <;> omega)
    rw [dsum_one huv, if_pos hu] at h3
    rw [List.length_cons]
    omega
end
theorem ent_tw {n : Int} {ls : List RCross} (h : crossOk n ls = true) {i k : Nat} (hi : i < n.toNat) (hk : k < n.toNat) : ∀ j, j ≤ ls.length → ent (tabTo n ls j) i k = tw (startL n.toNat) (ls.take j) i k := by
  obtain ⟨h1, h2, h3, h4⟩ := ok_fits h
  intro j
  induction j with
  | zero => intro _; rw [tabTo, ent_zero hi hk]; rfl
  | succ j ih =>
    intro hj
    have hjl : j < ls.length := by omega
    obtain ⟨a, d, e, had, ha, hd⟩ := duo_at h (k := j) (by omega)
    have hp : j < (pairsOf n ls).length := by rw [(crossFacts h).pairLen]; exact hjl
    have ee : (pairsOf n ls).getD j [] = pairC (nowAt n ls j) ls[j] := by
      rw [getD_row hp]
      have e3 : pairsOf n ls = pairsTo n ls ls.length := by unfold pairsOf; rw [if_pos h]
      simp [e3, pairsTo, List.getD_eq_getElem?_getD, List.getElem?_eq_getElem hjl]
    rw [tabTo, e, ent_step (tab_square h j (by omega)) had ha hd hi hk, ih (by omega), List.take_succ_eq_append_getElem hjl, tw_append]
    simp only [tw, Int.add_zero]
    rw [List.getD_eq_getElem?_getD, List.getElem?_eq_getElem hjl]
    have hn : (ls.take j).foldl stepA (startL n.toNat) = nowAt n ls j := rfl
    rw [hn]
    congr 1
    rw [ee] at e
    have hc : (((i : Int) = atI (nowAt n ls j) ls[j].f0.toNat ∧ (k : Int) = atI (nowAt n ls j) (ls[j].f0.toNat + 1)) ∨ ((i : Int) = atI (nowAt n ls j) (ls[j].f0.toNat + 1) ∧ (k : Int) = atI (nowAt n ls j) ls[j].f0.toNat)) ↔ ((i = a ∧ k = d) ∨ (i = d ∧ k = a)) := by
      unfold pairC at e
      split at e
      · have x1 := (List.cons.inj e).1
        have x2 := (List.cons.inj (List.cons.inj e).2).1
        rw [x1, x2]
        omega
      · have x1 := (List.cons.inj e).1
        have x2 := (List.cons.inj (List.cons.inj e).2).1
        rw [x1, x2]
        omega
    unfold hit
    by_cases c : (i = a ∧ k = d) ∨ (i = d ∧ k = a)
    · rw [if_pos c, if_pos (hc.2 c)]
      rfl
    · rw [if_neg c, if_neg (fun x => c (hc.1 x))]
theorem leastK_sum (t : List (List Int)) (i : Nat) : ∀ k, leastK t i k = rsum (fun i k => absI (ent t i k)) i k := by
  intro k
  induction k with
  | zero => rfl
  | succ k ih => rw [leastK, rsum, ih]
theorem leastI_sum (t : List (List Int)) : ∀ n, leastI t n = dsum (fun i k => absI (ent t i k)) n := by
  intro n
  induction n with
  | zero => rfl
  | succ n ih => rw [leastI, dsum, ih, leastK_sum]
/-- How many pairs are wound. -/
def wnd (t : List (List Int)) (i k : Nat) : Int := if ent t i k = 0 then 0 else 1
theorem woundK_count (t : List (List Int)) (i : Nat) : ∀ k, ((woundK t i k).length : Int) = rsum (fun i k => if i < k then wnd t i k else 0) i k := by
  intro k
  induction k with
  | zero => rfl
  | succ k ih =>
    rw [woundK, List.length_append, rsum, ← ih]
    unfold wnd
    by_cases a : i < k
    · by_cases b : ent t i k = 0
      · simp [a, b]
      · simp [a, b]
    · simp [a]
def usum (f : Nat → Nat → Int) (n : Nat) : Nat → Int
  | 0 => 0
  | i + 1 => usum f n i + rsum f i n
theorem usum_more (f : Nat → Nat → Int) (n : Nat) : ∀ m, usum (fun i k => if i < k then f i k else 0) (n + 1) m = usum (fun i k => if i < k then f i k else 0) n m + rsum (fun n i => if i < n then f i n else 0) n m := by
  intro m
  induction m with
  | zero => rfl
  | succ m ih => rw [usum, usum, ih, rsum, rsum]; omega
theorem usum_dsum (f : Nat → Nat → Int) : ∀ n, usum (fun i k => if i < k then f i k else 0) n n = dsum (fun i k => f k i) n := by
  intro n
  induction n with
  | zero => rfl
  | succ n ih =>
    have e1 : rsum (fun i k => if i < k then f i k else 0) n (n + 1) = 0 := by
      rw [rsum_congr (g := fun _ _ => 0) (n + 1) (fun k hk => by rw [if_neg (by omega)]), rsum_zero]
    have e2 : rsum (fun n i => if i < n then f i n else 0) n n = rsum (fun i k => f k i) n n := rsum_congr n (fun k hk => by rw [if_pos hk])
    rw [usum, usum_more, e1, e2, ih, dsum]
    omega
theorem woundI_count {n : Nat} {t : List (List Int)} (hs : Square n t) : ∀ m, ((woundI t m).length : Int) = usum (fun i k => if i < k then wnd t i k else 0) n m := by
  intro m
  induction m with
  | zero => rfl
  | succ m ih => rw [woundI, List.length_append, usum, ← ih, hs.len, ← woundK_count]; omega

theorem rsum_small {f : Nat → Nat → Int} {i : Nat} : ∀ m, (∀ k, k < m → -40 ≤ f i k ∧ f i k ≤ 40) → -(40 * (m : Int)) ≤ rsum f i m ∧ rsum f i m ≤ 40 * (m : Int) := by
  intro m
  induction m with
  | zero => intro _; rw [rsum]; omega
  | succ m ih =>
    intro h
    have h1 := ih (fun k hk => h k (by omega))
    have h2 := h m (by omega)
    rw [rsum]
    omega
theorem dsum_small {f : Nat → Nat → Int} {n : Nat} (hn : n ≤ 7) (h : ∀ i k, i < n → k < i → -40 ≤ f i k ∧ f i k ≤ 40) : ∀ i, i ≤ n → -(280 * (i : Int)) ≤ dsum f i ∧ dsum f i ≤ 280 * (i : Int) := by
  intro i
  induction i with
  | zero => intro _; rw [dsum]; omega
  | succ i ih =>
    intro hi
    have h1 := ih (by omega)
    have h2 := rsum_small (f := f) (i := i) i (fun k hk => h i k (by omega) hk)
    rw [dsum]
    omega
theorem abs_small {x : Int} (h : -40 ≤ x ∧ x ≤ 40) : -40 ≤ absI x ∧ absI x ≤ 40 := by unfold absI; split <;> omega
theorem wnd_small (t : List (List Int)) (i k : Nat) : -40 ≤ wnd t i k ∧ wnd t i k ≤ 40 := by unfold wnd; split <;> omega

/-- All that FnTwists asks of valid crossings. -/
structure TwistFacts (n : Nat) (ls : List RCross) (t : List (List Int)) : Prop where
  len : t.length = n
  sq : Square n t
  diag : ∀ i, i < n → ent t i i = 0
  sym : ∀ i k, i < n → k < n → ent t i k = ent t k i
  even : ∀ i k, i < n → k < i → (ent t i k % 2 = 0 ↔ placeOf (ordAfter n ls) (k : Int) < placeOf (ordAfter n ls) (i : Int))
  sum : dsum (ent t) n = totalTw n ls
  least : leastUn n ls = dsum (fun i k => absI (ent t i k)) n
  few : leastUn n ls ≤ (reduced n ls).length
  wound : ((woundPs n ls).length : Int) = dsum (wnd t) n
  undone : ls.length ≤ 20 → untw n (ls ++ undo ls) = true
  totRed : totalTw n (reduced n ls) = totalTw n ls
  small : ∀ i k, i < n → k < n → -40 ≤ ent t i k ∧ ent t i k ≤ 40
theorem woundI_nil {n : Nat} {t : List (List Int)} (hs : Square n t) (h : ∀ i k, i < n → k < n → ent t i k = 0) : ∀ m, m ≤ n → woundI t m = [] := by
  intro m
  induction m with
  | zero => intro _; rfl
  | succ m ih =>
    intro hm
    have e : ∀ k, k ≤ n → woundK t m k = [] := by
      intro k
      induction k with
      | zero => intro _; rfl
      | succ k ihk => intro hk; rw [woundK, ihk (by omega), if_neg (fun x => x.2 (h m k (by omega) (by omega)))]; rfl
    rw [woundI, ih (by omega), hs.len, e n (Nat.le_refl _)]
    rfl
theorem twistFacts {n : Nat} {ls : List RCross} (h : crossOk (n : Int) ls = true) : TwistFacts n ls (twistTab (n : Int) ls) := by
  obtain ⟨h1, h2, h3, h4⟩ := ok_fits h
  rw [Int.toNat_natCast] at h1 h4
  have F := crossFacts h
  have so := start_ord h1
  have sl := startL_len n
  have tt : ∀ ls : List RCross, crossOk (n : Int) ls = true → ∀ i k, i < n → k < n → ent (twistTab (n : Int) ls) i k = tw (startL n) ls i k := by
    intro ls h i k hi hk
    have := ent_tw h (i := i) (k := k) (by rw [Int.toNat_natCast]; exact hi) (by rw [Int.toNat_natCast]; exact hk) ls.length (Nat.le_refl _)
    rw [List.take_length, Int.toNat_natCast] at this
    unfold twistTab
    rw [if_pos h]
    exact this
  have sqx : ∀ ls : List RCross, crossOk (n : Int) ls = true → Square n (twistTab (n : Int) ls) := by
    intro ls h
    have := tab_square h ls.length (Nat.le_refl _)
    rw [Int.toNat_natCast] at this
    unfold twistTab
    rw [if_pos h]
    exact this
  have ent0 := tt ls h
  have sq := sqx ls h
  have e1 : ordAfter (n : Int) ls = ls.foldl stepA (startL n) := by unfold ordAfter nowAt; rw [if_pos h, List.take_length, Int.toNat_natCast]
  have e2 : reduced (n : Int) ls = ls.foldl push [] := by unfold reduced redTo; rw [if_pos h, List.take_length]
  have rf : ∀ l ∈ reduced (n : Int) ls, Fits n l := by rw [e2]; exact (red_run h4 so sl [] (by simp)).2
  have rl := F.redLen
  have hr : crossOk (n : Int) (reduced (n : Int) ls) = true := ok_of h1 (by omega) rf
  have oo : IsOrd (ordAfter (n : Int) ls) := by rw [e1]; exact run_ord h4 so sl
  have ol : (ordAfter (n : Int) ls).length = n := by rw [e1, foldA_len]; exact sl
  have lst : leastUn (n : Int) ls = dsum (fun i k => absI (tw (startL n) ls i k)) n := by
    unfold leastUn
    rw [if_pos h, Int.toNat_natCast, leastI_sum]
    exact dsum_congr fun i k hi hk => by rw [ent0 i k hi (by omega)]
  refine ⟨sq.len, sq, fun i hi => ?_, fun i k hi hk => ?_, fun i k hi hk => ?_, ?_, ?_, ?_, ?_, fun hl => ?_, ?_, fun i k hi hk => ?_⟩
  · rw [ent0 i i hi hi, tw_diag h4 i so sl]
  · rw [ent0 i k hi hk, ent0 k i hk hi, tw_sym]
  · have a := tw_turn (i := i) (k := k) h4 hi (by omega) (by omega) so sl
    have p1 : ∀ x, x < n → pos (startL n) x = (x : Int) := fun x hx => pos_at so (by rw [sl]; exact hx) (start_at hx)
    have p2 : ∀ x : Nat, placeOf (ordAfter (n : Int) ls) (x : Int) = pos (ordAfter (n : Int) ls) x := fun x => by unfold placeOf pos; rw [if_pos (order_iff.2 oo)]
    rw [ent0 i k hi (by omega), a, p1 i hi, p1 k (by omega), p2, p2, e1]
    constructor
    · exact fun x => x.1 (by omega)
    · exact fun x => ⟨fun _ => x, fun _ => by omega⟩
  · rw [dsum_congr (g := tw (startL n) ls) (fun i k hi hk => ent0 i k hi (by omega)), tw_sum h4 so sl]
    unfold totalTw
    rw [if_pos h, totTo_tot ls ls.length (Nat.le_refl _), List.take_length]
  · rw [lst]
    exact dsum_congr fun i k hi hk => by rw [ent0 i k hi (by omega)]
  · rw [lst]
    have := tw_abs (n := n) rf so sl
    rw [dsum_congr (g := fun i k => absI (tw (startL n) (reduced (n : Int) ls) i k)) (fun i k hi hk => by
      have := tw_red (i := i) (k := k) h4 so sl [] (by simp)
      rw [List.nil_append] at this
      rw [e2, this])]
    exact this
  · unfold woundPs
    rw [sq.len, woundI_count sq, usum_dsum]
    exact dsum_congr fun i k hi hk => by unfold wnd; rw [ent0 k i (by omega) hi, tw_sym, ← ent0 i k hi (by omega)]
  · have hb : crossOk (n : Int) (ls ++ undo ls) = true := by
      refine ok_of h1 (by rw [List.length_append, undo_len]; omega) fun l hx => ?_
      rcases List.mem_append.1 hx with c | c
      · exact h4 l c
      · unfold undo at c
        rw [List.mem_reverse, List.mem_map] at c
        obtain ⟨y, hy, rfl⟩ := c
        exact fits_turned (h4 y hy)
    have hbf : ∀ l ∈ ls ++ undo ls, Fits n l := by have := (ok_fits hb).2.2.2; rwa [Int.toNat_natCast] at this
    have ob : ordAfter (n : Int) (ls ++ undo ls) = startL n := by
      rw [F.bothOrd hl]
      unfold ordAfter nowAt
      rw [if_pos (ok_of h1 (by simp) (by simp)), Int.toNat_natCast]
      rfl
    have iz : invs (startL n) = 0 := inv_none fun i hi => by
      rw [sl] at hi
      rw [start_at (by omega), start_at hi]
      omega
    have wz : woundPs (n : Int) (ls ++ undo ls) = [] := by
      have sb := sqx _ hb
      unfold woundPs
      rw [sb.len]
      refine woundI_nil sb (fun i k hi hk => ?_) n (Nat.le_refl _)
      have a := tw_red (i := i) (k := k) hbf so sl [] (by simp)
      rw [List.nil_append, List.foldl_append, red_undo ls [] (fun k hk => by simp at hk)] at a
      rw [tt _ hb i k hi hk, ← a]
      rfl
    unfold untw
    rw [hb, ob, wz, if_pos (order_iff.2 so), iz]
    rfl
  · unfold totalTw
    rw [if_pos hr, if_pos h, totTo_tot _ _ (Nat.le_refl _), totTo_tot _ _ (Nat.le_refl _), List.take_length, List.take_length, e2, tot_red]
    simp [tot]
  · have := (tab_len (n : Int) ls).2.2 i k (by rw [sq.len]; exact hi) (by rw [sq.len]; exact hk)
    exact this
end Go.Proofs.Ythijfipjfdmoeaa

/- Full turns and the way home: a full turn winds one pair twice and leads back, sorting swaps lead home: plain mathematics. -/
namespace Go.Proofs.Ythijfipjfdmoeaa
set_option linter.unusedVariables false
set_option linter.unusedSimpArgs false

section
variable {n i k : Nat}
theorem down_fits (hk : k < n) : ∀ m, m + 1 + i ≤ k → ∀ l ∈ downL k m, Fits n l := by
  intro m
  induction m with
  | zero => exact fun _ l hl => by cases hl
  | succ m ih =>
    intro hm l hl
    rw [downL] at hl
    rcases List.mem_append.1 hl with c | c
    · exact ih (by omega) l c
    · rw [List.mem_singleton.1 c]
      exact ⟨by show (0 : Int) ≤ (k : Int) - 1 - (m : Int); omega, by show (k : Int) - 1 - (m : Int) + 2 ≤ (n : Int); omega⟩
/-- Puppet k has come m places to the left; all on its left stand as before. -/
theorem down_run (hn : 1 ≤ n ∧ n ≤ 7) (hk : k < n) : ∀ m, m + 1 ≤ k → atI ((downL k m).foldl stepA (startL n)) (k - m) = (k : Int) ∧ ∀ j, j < k - m → atI ((downL k m).foldl stepA (startL n)) j = (j : Int) := by
  intro m
  induction m with
  | zero => exact fun _ => ⟨start_at hk, fun j hj => start_at (by simp only [Nat.sub_zero] at hj; omega)⟩
  | succ m ih =>
    intro hm
    obtain ⟨h1, h2⟩ := ih (by omega)
    have ho : IsOrd ((downL k m).foldl stepA (startL n)) := run_ord (n := n) (down_fits (i := 0) hk m (by omega)) (start_ord hn) (startL_len n)
    have hl : ((downL k m).foldl stepA (startL n)).length = n := by rw [foldA_len, startL_len]
    rw [downL, List.foldl_append]
    show atI (stepA ((downL k m).foldl stepA (startL n)) ⟨(k : Int) - 1 - (m : Int), false⟩) (k - (m + 1)) = (k : Int) ∧ ∀ j, j < k - (m + 1) → atI (stepA ((downL k m).foldl stepA (startL n)) ⟨(k : Int) - 1 - (m : Int), false⟩) j = (j : Int)
    generalize (downL k m).foldl stepA (startL n) = z at h1 h2 ho hl
    have hf : Fits n ⟨(k : Int) - 1 - (m : Int), false⟩ := ⟨by show (0 : Int) ≤ (k : Int) - 1 - (m : Int); omega, by show (k : Int) - 1 - (m : Int) + 2 ≤ (n : Int); omega⟩
    rw [stepA_swap ho hl hf]
    have e : (⟨(k : Int) - 1 - (m : Int), false⟩ : RCross).f0.toNat = k - (m + 1) := by show ((k : Int) - 1 - (m : Int)).toNat = k - (m + 1); omega
    rw [e]
    refine ⟨?_, fun j hj => ?_⟩
    · rw [swap_at (by omega), swF_at, show k - (m + 1) + 1 = k - m by omega]
      exact h1
    · rw [swap_at (by omega), swF_low hj]
      exact h2 j (by omega)
theorem undo_down (hik : i + 1 ≤ k) : ∀ m, m + 1 + i ≤ k → undo (downL k m) = upL (k - 1 - m) m := by
  intro m
  induction m with
  | zero => exact fun _ => rfl
  | succ m ih =>
    intro hm
    have e1 : undo (downL k (m + 1)) = ⟨(k : Int) - 1 - (m : Int), true⟩ :: undo (downL k m) := by
      rw [downL]
      unfold undo
      rw [List.map_append, List.reverse_append]
      rfl
    rw [e1, ih (by omega)]
    have up : ∀ (p q m : Nat), p = q + 1 → (⟨(p : Int), true⟩ : RCross) :: upL p m = upL q (m + 1) := by
      intro p q m hpq
      subst hpq
      induction m with
      | zero => simp [upL]
      | succ m ihm =>
        rw [upL, ← List.cons_append, ihm, upL, upL, upL]
        simp only [List.append_assoc]
        congr 3
        simp
        omega
    have := up (k - 1 - m) (k - 1 - (m + 1)) m (by omega)
    rw [← this]
    congr 2
    omega
end
/-- A full turn: it leads back, and winds its pair twice. -/
structure TurnFacts (n i k : Nat) (f : Bool) (ls : List RCross) : Prop where
  ok : ∀ l ∈ ls, Fits n l
  len : ls.length = 2 * (k - i)
  home : ls.foldl stepA (startL n) = startL n
  twist : ∀ a b, b < a → tw (startL n) ls a b = if a = k ∧ b = i then (if f = true then 2 else -2) else 0
theorem turnFacts {n i k : Nat} (hn : 1 ≤ n ∧ n ≤ 7) (hik : i < k) (hk : k < n) (f : Bool) : TurnFacts n i k f (turnL i k f) := by
  have so := start_ord hn
  have sl := startL_len n
  have df := down_fits (i := i) hk (k - 1 - i) (by omega)
  obtain ⟨d1, d2⟩ := down_run hn hk (k - 1 - i) (by omega)
  have ud := undo_down (i := i) (k := k) (by omega) (k - 1 - i) (by omega)
  rw [show k - 1 - (k - 1 - i) = i by omega] at ud
  rw [show k - (k - 1 - i) = i + 1 by omega] at d1 d2
  have e : turnL i k f = downL k (k - 1 - i) ++ ([⟨(i : Int), f⟩, ⟨(i : Int), f⟩] ++ undo (downL k (k - 1 - i))) := by
    unfold turnL
    rw [ud, List.append_assoc]
  have hc : Fits n ⟨(i : Int), f⟩ := ⟨by show (0 : Int) ≤ (i : Int); omega, by show (i : Int) + 2 ≤ (n : Int); omega⟩
  have zo : IsOrd ((downL k (k - 1 - i)).foldl stepA (startL n)) := run_ord df so sl
  have zl : ((downL k (k - 1 - i)).foldl stepA (startL n)).length = n := by rw [foldA_len, sl]
  have back := run_undo df so sl
  have uf : ∀ l ∈ undo (downL k (k - 1 - i)), Fits n l := fun l hl => by
    unfold undo at hl
    rw [List.mem_reverse, List.mem_map] at hl
    obtain ⟨y, hy, rfl⟩ := hl
    exact fits_turned (df y hy)
  have none : ∀ a b, tw (startL n) (downL k (k - 1 - i)) a b + tw ((downL k (k - 1 - i)).foldl stepA (startL n)) (undo (downL k (k - 1 - i))) a b = 0 := by
    intro a b
    have h := tw_red (n := n) (i := a) (k := b) (ls := downL k (k - 1 - i) ++ undo (downL k (k - 1 - i))) (fun l hl => by
      rcases List.mem_append.1 hl with c | c
      · exact df l c
      · exact uf l c) so sl [] (by simp)
    rw [List.nil_append, List.foldl_append, red_undo _ [] (fun k hk => by simp at hk), tw_append] at h
    rw [← h]
    rfl
  have tl := (show (turnL i k f).length = 2 * (k - i) by
    simp only [turnL, List.length_append, downL_len, upL_len, List.length_cons, List.length_nil]
    omega)
  generalize downL k (k - 1 - i) = D at *
  generalize hz : D.foldl stepA (startL n) = z at *
  have twice : stepA (stepA z ⟨(i : Int), f⟩) ⟨(i : Int), f⟩ = z := stepA_twice zo zl hc rfl
  refine ⟨fun l hl => ?_, tl, ?_, fun a b hab => ?_⟩
  · rw [e] at hl
    rcases List.mem_append.1 hl with c | c
    · exact df l c
    · rcases List.mem_append.1 c with c | c
      · rcases List.mem_cons.1 c with c | c
        · rw [c]; exact hc
        · rw [List.mem_singleton.1 c]; exact hc
      · exact uf l c
  · rw [e, List.foldl_append, List.foldl_append, hz]
    show (undo D).foldl stepA (stepA (stepA z ⟨(i : Int), f⟩) ⟨(i : Int), f⟩) = startL n
    rw [twice]
    exact back
  · rw [e, tw_append, tw_append, hz]
    show tw (startL n) D a b + (tw z [⟨(i : Int), f⟩, ⟨(i : Int), f⟩] a b + tw (stepA (stepA z ⟨(i : Int), f⟩) ⟨(i : Int), f⟩) (undo D) a b) = _
    rw [twice]
    have hn0 := none a b
    have hi : atI z i = (i : Int) := d2 i (by omega)
    have h1 : hit z ⟨(i : Int), f⟩ a b = if a = k ∧ b = i then (if f = true then 1 else -1) else 0 := by
      unfold hit
      show (if ((a : Int) = atI z (i : Int).toNat ∧ (b : Int) = atI z ((i : Int).toNat + 1)) ∨ ((a : Int) = atI z ((i : Int).toNat + 1) ∧ (b : Int) = atI z (i : Int).toNat) then sgn ⟨(i : Int), f⟩ else 0) = _
      rw [Int.toNat_natCast, hi, d1]
      by_cases c : a = k ∧ b = i
      · rw [if_pos c, if_pos (by omega)]
        rfl
      · rw [if_neg c, if_neg (by omega)]
    have h2 : hit (stepA z ⟨(i : Int), f⟩) ⟨(i : Int), f⟩ a b = hit z ⟨(i : Int), f⟩ a b := by
      rw [stepA_swap zo zl hc]
      unfold hit
      show (if ((a : Int) = atI (swapL z (i : Int).toNat) (i : Int).toNat ∧ (b : Int) = atI (swapL z (i : Int).toNat) ((i : Int).toNat + 1)) ∨ ((a : Int) = atI (swapL z (i : Int).toNat) ((i : Int).toNat + 1) ∧ (b : Int) = atI (swapL z (i : Int).toNat) (i : Int).toNat) then sgn ⟨(i : Int), f⟩ else 0) = (if ((a : Int) = atI z (i : Int).toNat ∧ (b : Int) = atI z ((i : Int).toNat + 1)) ∨ ((a : Int) = atI z ((i : Int).toNat + 1) ∧ (b : Int) = atI z (i : Int).toNat) then sgn ⟨(i : Int), f⟩ else 0)
      rw [Int.toNat_natCast, swap_at (by omega), swap_at (by omega), swF_at, swF_next, hi, d1]
      by_cases c : ((a : Int) = (i : Int) ∧ (b : Int) = (k : Int)) ∨ ((a : Int) = (k : Int) ∧ (b : Int) = (i : Int))
      · rw [if_pos (by omega), if_pos c]
      · rw [if_neg (by omega), if_neg c]
    simp only [tw, h2, h1]
    split <;> (try split) <;> omega
end Go.Proofs.Ythijfipjfdmoeaa
