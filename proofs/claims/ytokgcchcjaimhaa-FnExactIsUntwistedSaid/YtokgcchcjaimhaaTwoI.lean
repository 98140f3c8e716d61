/- The contract of impl.TwistOf. Condition: the crossings lie in a row of their own. -/
import Derived.Test.YtokgcchcjaimhaaTwbA
import Derived.Test.YtokgcchcjaimhaaTwdM
namespace Go.Proofs.Ytokgcchcjaimhaa
set_option linter.unusedVariables false
set_option linter.unusedSimpArgs false
open Go.RowKit

theorem info_seven : (Try.prog.info? 51).map (fun i => (i.zero.isSome, i.size)) = some (true, 7) := by kernel_rfl
theorem index_table (w : World) (zs : List Int) (hz : zs.length = 49) (p : Nat) (hp : p < 7) :
    (Instr.index 53 (.agg (zs.map intV).toArray) (.int .i64 (p : Int))).run Try.prog w = .ok (.agg (((zs.drop (p * 7)).take 7).map intV).toArray) w := by
  have hs : (Try.prog.info? 51).map (fun i => (i.zero.isSome, i.size)) = some (true, 7) := info_seven
  cases hq : Try.prog.info? 51 with
  | none => rw [hq] at hs; cases hs
  | some i =>
    rw [hq] at hs
    have h7 : i.size = 7 := by simpa using (congrArg (fun o => o.map (·.2)) hs)
    have h0 : (0 : Int) ≤ (p : Int) := by omega
    have h1 : (p : Int) < 7 := by omega
    have e : ((zs.map intV).toArray.extract (p * 7) (p * 7 + 7)) = (((zs.drop (p * 7)).take 7).map intV).toArray := by
      apply Array.ext'
      simp [List.map_take, List.map_drop]
    simp [Instr.index, run_underlying Try.underlying53, run_underlying Try.underlying51, asIntOf, part, isAgg, sizeOf, typeInfo, hq, h7, h0, h1, Sem.run_bind, Result.andThen, e]
    exact fun hh => absurd hh (by omega)
theorem index_row (w : World) (zs : List Int) (hz : zs.length = 7) (p : Nat) (hp : p < 7) :
    (Instr.index 51 (.agg (zs.map intV).toArray) (.int .i64 (p : Int))).run Try.prog w = .ok (.int .i64 (atI zs p)) w := by
  obtain ⟨i, hi, hz0, hs, hb⟩ := info_parts info_int
  have h0 : (0 : Int) ≤ (p : Int) := by omega
  have h1 : (p : Int) < 7 := by omega
  have e : zs[p]? = some (atI zs p) := by rw [atI_of (by omega : p < zs.length), List.getElem?_eq_getElem (by omega : p < zs.length)]
  simp [Instr.index, run_underlying Try.underlying51, run_underlying Try.underlying3, asIntOf, part, isAgg, sizeOf, typeInfo, hi, hs, h0, h1, Sem.run_bind, Result.andThen, e, hp, intV]

set_option maxRecDepth 100000 in
set_option maxHeartbeats 1600000 in
theorem implTwO (n : Int) (v : Value) (ls : List RCross) (b : Nat) (w : World) (h : OwnCross w b v ls) (hl : ls.length ≤ 2000000) (i k : Int) :
    Calls Try.prog 14 #[.int .i64 n, v, .int .i64 i, .int .i64 k] w fun e w' => e = .returned (.int .i64 (twistOf n ls i k)) ∧ Below w.heap.size w w' := by
  have CK := Lib.hid (implCrOk n v ls b w h hl)
  have CA := Lib.hid (fun W h => implAft n v ls b W h hl)
  have C0 := Lib.hid (fun v lo hi W => (inRange_any v lo hi W).mono fun e w' h => (show _ ∧ W = w' from ⟨h.1, h.2.symm⟩))
  obtain ⟨A, c, rfl⟩ := h.slice
  have O := Lib.hid h
  clear h
  have R := Lib.hid (show twistOf n ls i k = if inB i 0 (((twistTab n ls).length : Int) - 1) = true ∧ inB k 0 (((twistTab n ls).length : Int) - 1) = true then ent (twistTab n ls) i.toNat k.toNat else 0 from rfl)
  cases hc : crossOk n ls with
  | false =>
    have R2 := Lib.hid (show twistOf n ls i k = 0 by
      have e : twistTab n ls = [] := by unfold twistTab; rw [hc]; rfl
      rw [R.out, e, if_neg]
      intro q
      have := of_decide_eq_true (show decide (0 ≤ i ∧ i ≤ ((([] : List (List Int)).length : Nat) : Int) - 1) = true from q.1)
      simp at this
      omega)
    rw [hc] at CK
    go_enter Try.func14, Try.ntmps14
    go_wp2_with (go_at_call 39; refine CK.out.mono ?_; rintro e w1 ⟨rfl, b1⟩; have B1 := Lib.hid b1; clear b1)
    go_ret
    exact ⟨by rw [R2.out]; rfl, B1.out⟩
  | true =>
  obtain ⟨hn7, hnn, h40, -⟩ := ok_fits hc
  obtain ⟨N, hN⟩ : ∃ N : Nat, n = (N : Int) := ⟨n.toNat, hnn.symm⟩
  subst hN
  rw [Int.toNat_natCast] at hn7
  have CA := Lib.hid (fun W h => CA.out W h hc)
  have tl : (twistTab (N : Int) ls).length = N := by
    have := (tab_square hc ls.length (Nat.le_refl _)).len
    unfold twistTab
    rw [if_pos hc, this, Int.toNat_natCast]
  rw [tl] at R
  have te : twistTab (N : Int) ls = tabTo (N : Int) ls ls.length := by unfold twistTab; rw [if_pos hc]
  have EN := Lib.hid (show ∀ p q, p < N → q < N → atI (aftTo (N : Int) ls ls.length) (p * 7 + q) = ent (twistTab (N : Int) ls) p q from fun p q hp hq => by rw [te]; exact aft_ent hc (by rw [Int.toNat_natCast]; exact hp) (by rw [Int.toNat_natCast]; exact hq) ls.length (Nat.le_refl _))
  have al := aft_len (N : Int) ls ls.length
  rw [hc] at CK
  generalize twistTab (N : Int) ls = t at R EN
  generalize aftTo (N : Int) ls ls.length = T at CA EN al
  have e1 : IntKind.i64.wrap ((N : Int) - 1) = (N : Int) - 1 := IntWalk.i64_in _ (by omega)
  clear hc hnn tl te
  cases hi : inB i 0 ((N : Int) - 1) with
  | false =>
    have R2 := Lib.hid (show twistOf (N : Int) ls i k = 0 by rw [R.out, if_neg (by rw [hi]; simp)])
    go_enter Try.func14, Try.ntmps14
    go_wp2_with (first
      | (go_at_call 39; refine CK.out.mono ?_; rintro e w1 ⟨rfl, b1⟩; have B1 := Lib.hid b1; clear b1)
      | (go_at_call 45; refine (C0.out _ _ _ _).mono ?_; rintro e w' ⟨rfl, rfl⟩))
    go_ret
    exact ⟨by rw [R2.out]; rfl, B1.out⟩
  | true =>
  cases hk : inB k 0 ((N : Int) - 1) with
  | false =>
    have R2 := Lib.hid (show twistOf (N : Int) ls i k = 0 by rw [R.out, if_neg (by rw [hk]; simp)])
    go_enter Try.func14, Try.ntmps14
    go_wp2_with (first
      | (go_at_call 39; refine CK.out.mono ?_; rintro e w1 ⟨rfl, b1⟩; have B1 := Lib.hid b1; clear b1)
      | (go_at_call 45; refine (C0.out _ _ _ _).mono ?_; rintro e w' ⟨rfl, rfl⟩))
    go_ret
    exact ⟨by rw [R2.out]; rfl, B1.out⟩
  | true =>
  have R2 := Lib.hid (show twistOf (N : Int) ls i k = ent t i.toNat k.toNat by rw [R.out, if_pos ⟨hi, hk⟩])
  have hir : 0 ≤ i ∧ i ≤ (N : Int) - 1 := by simpa [inB] using hi
  have hkr : 0 ≤ k ∧ k ≤ (N : Int) - 1 := by simpa [inB] using hk
  obtain ⟨p, rfl⟩ := Int.eq_ofNat_of_zero_le hir.1
  obtain ⟨q, rfl⟩ := Int.eq_ofNat_of_zero_le hkr.1
  have hp : p < N := by omega
  have hq : q < N := by omega
  rw [Int.toNat_natCast, Int.toNat_natCast, ← EN.out p q hp hq] at R2
  have l7 : ((T.drop (p * 7)).take 7).length = 7 := by rw [List.length_take, List.length_drop, al]; omega
  have r1 := fun W => index_table W T al p (by omega)
  have r2 := fun W => index_row W ((T.drop (p * 7)).take 7) l7 q (by omega)
  have ev : atI ((T.drop (p * 7)).take 7) q = atI T (p * 7 + q) := by
    rw [atI_of (by omega), atI_of (by omega)]
    rw [List.getElem_take, List.getElem_drop]
  rw [ev] at r2
  generalize ((T.drop (p * 7)).take 7).map intV = row at r1 r2
  have AL := Lib.hid al
  clear EN R al l7 ev hir hkr
  go_enter Try.func14, Try.ntmps14
  go_wp2_with (first
    | (go_at_call 39; refine CK.out.mono ?_; rintro e w1 ⟨rfl, b1⟩; have B1 := Lib.hid b1; clear b1)
    | (go_at_call 45; refine (C0.out _ _ _ _).mono ?_; rintro e w' ⟨rfl, rfl⟩)
    | (go_at_call 40; refine (CA.out _ (O.out.below B1.out)).mono ?_; rintro e w2 ⟨rfl, b2⟩; have B2 := Lib.hid (B1.out.trans (b2.mono B1.out.size)); clear b2))
  go_ret
  exact ⟨by rw [R2.out]; rfl, B2.out⟩
end Go.Proofs.Ytokgcchcjaimhaa
