/- The contracts of impl.SpanOf and impl.CenterOf: they answer as the model does. Condition: the limbs lie in a row of their own. -/
import Derived.Test.YtnoocpokicccpaaFarI
namespace Go.Proofs.Ytnoocpokicccpaa
open Go.RowKit

set_option maxRecDepth 100000 in
set_option maxHeartbeats 800000 in
theorem implSpan (J : Int) (v : Value) (ls : List Lb) (base : Nat) (w : World) (hown : OwnL w base v ls) (hl : ls.length ≤ 2000000) :
    Calls Try.prog 16 #[bodyV J v] w fun e w' => e = .returned (.int .i64 (spanOf J ls)) ∧ Below w.heap.size w w' := by
  have CS := Lib.hid (fun W h => implOk J v ls base W h hl)
  have CF := Lib.hid (fun m W hW h => fars_any m v ls base W hW h)
  obtain ⟨A, c, e⟩ := hown.slice
  subst e
  have OWN := Lib.hid hown
  have BX := Lib.hid (box_facts (J := J) hown)
  clear hown
  unfold bodyV at CS CF ⊢
  unfold spanOf
  cases hok : bodyOk J ls with
  | false =>
    rw [hok] at CS
    rw [if_neg (by simp)]
    clear hok CF
    go_enter Try.func16, Try.ntmps16
    go_wp2_with fail
    refine (CS.out _ (OWN.out.alloc _)).mono ?_
    rintro e w1 ⟨rfl, b1⟩
    simp only [World.size_alloc] at b1
    obtain ⟨-, -, -, bw⟩ := BX.out w1 b1
    clear b1
    go_wp2
    go_ret
    exact ⟨rfl, bw⟩
  | true =>
    rw [hok] at CS
    rw [if_pos rfl]
    obtain ⟨hll, _, hJ1, hJ2⟩ := ok_len hok
    obtain ⟨m, rfl⟩ := Int.eq_ofNat_of_zero_le (show 0 ≤ J by omega)
    obtain ⟨hf, _, hm, _⟩ := ok_parts' hok
    rw [Int.toNat_natCast]
    have TF := Lib.hid (show topTo (farsR m ls m) ((farsR m ls m).length - 1) = spanTo m ls m by rw [farsR_len, top_fars hf (by omega)]; congr 1; omega)
    have CFm := Lib.hid (fun W hW => CF.out m W hW hok)
    clear hok hf CF
    go_enter Try.func16, Try.ntmps16
    go_wp2_with fail
    refine (CS.out _ (OWN.out.alloc _)).mono ?_
    rintro e w1 ⟨rfl, b1⟩
    simp only [World.size_alloc] at b1
    obtain ⟨x0, x1, ol, bw⟩ := BX.out w1 b1
    clear b1
    go_wp2_with fail
    refine (CFm.out _ ol).mono ?_
    rintro e w2 ⟨v2, rfl, o2, b2⟩
    have B2 := Lib.hid (bw.trans (b2.mono bw.size))
    have HM := Lib.hid (max_any v2 _ _ w2 o2 (by rw [farsR_len]; omega) (by rw [farsR_len]; omega))
    clear b2 o2 x0 x1 ol bw
    go_wp2_with fail
    refine HM.out.mono ?_
    rintro e w3 ⟨rfl, rfl⟩
    rw [TF.out]
    go_wp2
    go_ret
    exact ⟨rfl, B2.out⟩

set_option maxRecDepth 100000 in
set_option maxHeartbeats 800000 in
theorem implCenter (J : Int) (v : Value) (ls : List Lb) (base : Nat) (w : World) (hown : OwnL w base v ls) (hl : ls.length ≤ 2000000) :
    Calls Try.prog 17 #[bodyV J v] w fun e w' => e = .returned (.int .i64 (centerOf J ls)) ∧ Below w.heap.size w w' := by
  have CS := Lib.hid (fun W h => implOk J v ls base W h hl)
  have CF := Lib.hid (fun m W hW h => fars_any m v ls base W hW h)
  obtain ⟨A, c, e⟩ := hown.slice
  subst e
  have OWN := Lib.hid hown
  have BX := Lib.hid (box_facts (J := J) hown)
  clear hown
  unfold bodyV at CS CF ⊢
  unfold centerOf
  cases hok : bodyOk J ls with
  | false =>
    rw [hok] at CS
    rw [if_neg (by simp)]
    clear hok CF
    go_enter Try.func17, Try.ntmps17
    go_wp2_with fail
    refine (CS.out _ (OWN.out.alloc _)).mono ?_
    rintro e w1 ⟨rfl, b1⟩
    simp only [World.size_alloc] at b1
    obtain ⟨-, -, -, bw⟩ := BX.out w1 b1
    clear b1
    go_wp2
    go_ret
    exact ⟨rfl, bw⟩
  | true =>
    rw [hok] at CS
    rw [if_pos rfl]
    obtain ⟨hll, _, hJ1, hJ2⟩ := ok_len hok
    obtain ⟨m, rfl⟩ := Int.eq_ofNat_of_zero_le (show 0 ≤ J by omega)
    rw [Int.toNat_natCast]
    have hm : 0 < m := by omega
    obtain ⟨k, hk, h1, h2, h3, -⟩ := low_fars (m := m) (ls := ls) (k := m - 1) (by omega)
    rw [show m - 1 + 1 = m by omega] at h1
    have CE := Lib.hid (show (centerTo m ls m).1 = (k : Int) by rw [h1])
    have LF := Lib.hid (show lowTo (farsR m ls m) ((farsR m ls m).length - 1) = far m ls k by rw [farsR_len]; exact h2)
    have FK := Lib.hid (show k < (farsR m ls m).length by rw [farsR_len]; omega)
    have FA := Lib.hid (show (farsR m ls m)[k]'FK.out = far m ls k by rw [farsR_at, if_pos (by omega)])
    have FN := Lib.hid (show ∀ j (hj : j < (farsR m ls m).length), j < k → (farsR m ls m)[j] ≠ far m ls k from fun j hj hjk => by rw [farsR_at, if_pos (by rw [farsR_len] at hj; omega)]; exact h3 j hjk)
    have CFm := Lib.hid (fun W hW => CF.out m W hW hok)
    clear hok CF h1 h2 h3
    go_enter Try.func17, Try.ntmps17
    go_wp2_with fail
    refine (CS.out _ (OWN.out.alloc _)).mono ?_
    rintro e w1 ⟨rfl, b1⟩
    simp only [World.size_alloc] at b1
    obtain ⟨x0, x1, ol, bw⟩ := BX.out w1 b1
    clear b1
    go_wp2_with fail
    refine (CFm.out _ ol).mono ?_
    rintro e w2 ⟨v2, rfl, o2, b2⟩
    have B2 := Lib.hid (bw.trans (b2.mono bw.size))
    have HM := Lib.hid (min_any v2 _ _ w2 o2 (by rw [farsR_len]; omega) (by rw [farsR_len]; omega))
    have HI := Lib.hid (index_is v2 _ _ w2 o2 (by rw [farsR_len]; omega) k (far m ls k) FK.out FA.out FN.out)
    clear b2 o2 x0 x1 ol bw
    go_wp2_with fail
    refine HM.out.mono ?_
    rintro e w3 ⟨rfl, rfl⟩
    rw [LF.out]
    go_wp2_with fail
    refine HI.out.mono ?_
    rintro e w4 ⟨rfl, rfl⟩
    go_wp2
    go_ret
    exact ⟨by rw [CE.out]; rfl, B2.out⟩
end Go.Proofs.Ytnoocpokicccpaa
