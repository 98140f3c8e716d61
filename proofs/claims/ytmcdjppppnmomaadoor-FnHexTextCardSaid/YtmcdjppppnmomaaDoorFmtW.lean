/- The contract of the model's FormatInt: it returns the decimal numeral. Condition: the number is an int of 64 bits. -/
import Derived.Test.YtmcdjppppnmomaaDoorDig
namespace Go.Proofs.YtmcdjppppnmomaaDoor
open Go.RowKit

theorem fmtFigure (x : Int) (w : World) (h0 : 0 ≤ x) (h1 : x < 10) :
    Calls Tryd.prog 32 #[.int .i64 x] w fun e w' => e = .returned (.int .u8 (48 + x)) ∧ w = w' := by
  go_enter Tryd.func32, Tryd.ntmps32
  go_wp2
  go_ret
  exact ⟨ret_int (by simp; try omega), rfl⟩

set_option maxHeartbeats 400000 in
theorem specFormat_pos (u : Nat) (w : World) (h0 : 0 < u) (h1 : u ≤ 9223372036854775807) :
    Calls Tryd.prog 19 #[.int .i64 (u : Int)] w fun e w' => e = .returned (.string ⟨(Lib.decDigits u).toArray⟩) ∧ Below w.heap.size w w' := by
  have hne : ((u : Int) == 0) = false := by simp; omega
  have hsg : decide ((u : Int) < 0) = false := by simp
  go_enter Tryd.func19, Tryd.ntmps19
  go_wp2
  clear hne
  go_loopw [0, 4] (fun nv sv wr => ∃ (m : Nat) (l : List UInt8), m ≤ u ∧ nv = .int .i64 m ∧ sv = .string ⟨l.toArray⟩ ∧ Hid (preD m ++ l = Lib.decDigits u) ∧ Below w.heap.size w wr) (fun nv _ _ => (intOf nv).toNat)
  case atStart => exact ⟨u, [], by omega, rfl, rfl, (by show preD u ++ [] = _; unfold preD; rw [if_neg (by omega), List.append_nil]), Below.refl _ _⟩
  case round =>
    obtain ⟨m, l, hm, rfl, rfl, hl, hb⟩ := hrel
    have hll := pre_len hl.out (by omega)
    by_cases hm0 : 0 < m
    · have hne : ((m : Int) != 0) = true := by rw [bne_iff_ne]; omega
      have hd : decide ((m : Int) % 10 < 0) = false := by simp; omega
      have hcat := str_cons
      obtain ⟨c, hcE, hc⟩ := conv_digit wr m
      have hsz := hb.size
      go_wp2_with (go_at_call 32; refine (fmtFigure _ _ (by omega) (by omega)).mono ?_; rintro e w' ⟨rfl, rfl⟩)
      exact ⟨⟨m / 10, c :: l, by omega, by go_num, str_cons c l ▸ rfl, pre_step hm0 hcE.out hl.out, hb.alloc hsz _⟩, by simp [intOf]; omega⟩
    · have hme : m = 0 := by omega
      subst hme
      go_wp2
      go_ret
      have he := hl.out
      simp [preD] at he
      subst he
      exact ⟨rfl, hb⟩

set_option maxHeartbeats 400000 in
theorem specFormat_neg (u : Nat) (w : World) (h0 : 0 < u) (h1 : u ≤ 9223372036854775808) :
    Calls Tryd.prog 19 #[.int .i64 (-(u : Int))] w fun e w' => e = .returned (.string ⟨(45 :: Lib.decDigits u).toArray⟩) ∧ Below w.heap.size w w' := by
  have hne : ((-(u : Int)) == 0) = false := by simp; omega
  have hsg : decide (-(u : Int) < 0) = true := by simp; omega
  go_enter Tryd.func19, Tryd.ntmps19
  go_wp2
  clear hne hsg
  go_loopw [0, 4] (fun nv sv wr => ∃ (m : Nat) (l : List UInt8), m ≤ u ∧ nv = .int .i64 (-(m : Int)) ∧ sv = .string ⟨l.toArray⟩ ∧ Hid (preD m ++ l = Lib.decDigits u) ∧ Below w.heap.size w wr) (fun nv _ _ => (-(intOf nv)).toNat)
  case atStart => exact ⟨u, [], by omega, rfl, rfl, (by show preD u ++ [] = _; unfold preD; rw [if_neg (by omega), List.append_nil]), Below.refl _ _⟩
  case round =>
    obtain ⟨m, l, hm, rfl, rfl, hl, hb⟩ := hrel
    have hll := pre_len hl.out (by omega)
    by_cases hm0 : 0 < m
    · have hne : (-(m : Int) != 0) = true := by rw [bne_iff_ne]; omega
      have hcat := str_cons
      obtain ⟨c, hcE, hc⟩ := conv_digit wr m
      have hsz := hb.size
      have e2 : (-(m : Int)).tdiv 10 = -((m : Int) / 10) := by rw [Int.neg_tdiv, Int.tdiv_eq_ediv_of_nonneg (by omega)]
      by_cases hd0 : (m : Int) % 10 ≤ 0
      · have e1 : (-(m : Int)).tmod 10 = 0 := by rw [Int.neg_tmod, Int.tmod_eq_emod_of_nonneg (by omega)]; omega
        rw [show 48 + (m : Int) % 10 = 48 from by omega] at hc
        go_wp2_with (go_at_call 32; refine (fmtFigure _ _ (by omega) (by omega)).mono ?_; rintro e w' ⟨rfl, rfl⟩)
        exact ⟨⟨m / 10, c :: l, by omega, by go_num, str_cons c l ▸ rfl, pre_step hm0 hcE.out hl.out, hb.alloc hsz _⟩, by simp [intOf]; omega⟩
      · have e1 : (-(m : Int)).tmod 10 = -((m : Int) % 10) := by rw [Int.neg_tmod, Int.tmod_eq_emod_of_nonneg (by omega)]
        have hd : decide (-((m : Int) % 10) < 0) = true := by simp; omega
        go_wp2_with (go_at_call 32; refine (fmtFigure _ _ (by omega) (by omega)).mono ?_; rintro e w' ⟨rfl, rfl⟩)
        exact ⟨⟨m / 10, c :: l, by omega, by go_num, str_cons c l ▸ rfl, pre_step hm0 hcE.out hl.out, hb.alloc hsz _⟩, by simp [intOf]; omega⟩
    · have hme : m = 0 := by omega
      subst hme
      have hcat := str_cons
      have he := hl.out
      simp [preD] at he
      subst he
      go_wp2
      go_ret
      exact ⟨rfl, hb⟩

theorem specFormat_zero (w : World) : Calls Tryd.prog 19 #[.int .i64 0] w fun e w' => e = .returned (.string ⟨#[48]⟩) ∧ Below w.heap.size w w' := by
  go_enter Tryd.func19, Tryd.ntmps19
  go_wp2
  go_ret
  exact ⟨rfl, Below.refl _ _⟩

theorem specFormat (n : Int) (w : World) (h0 : -9223372036854775808 ≤ n) (h1 : n ≤ 9223372036854775807) :
    Calls Tryd.prog 19 #[.int .i64 n] w fun e w' => e = .returned (.string ⟨(Lib.itoa n).toArray⟩) ∧ Below w.heap.size w w' := by
  by_cases hn : n < 0
  · obtain ⟨u, rfl⟩ : ∃ u : Nat, n = -(u : Int) := ⟨n.natAbs, by omega⟩
    have e : Lib.itoa (-(u : Int)) = 45 :: Lib.decDigits u := by unfold Lib.itoa; rw [if_pos hn]; simp
    rw [e]
    exact specFormat_neg u w (by omega) (by omega)
  · obtain ⟨u, rfl⟩ := Int.eq_ofNat_of_zero_le (show 0 ≤ n by omega)
    have e : Lib.itoa (u : Int) = Lib.decDigits u := by unfold Lib.itoa; rw [if_neg hn]; simp
    rw [e]
    by_cases hu : u = 0
    · subst hu
      rw [show Lib.decDigits 0 = [48] from by rw [Lib.decDigits, dif_pos (by omega)]; rfl]
      exact specFormat_zero w
    · exact specFormat_pos u w (by omega) (by omega)
end Go.Proofs.YtmcdjppppnmomaaDoor
