/- The contract of impl.DistanceOf: it answers as the model does. Condition: the limbs lie in a row of their own. -/
import Derived.Test.YtnoocpokicccpaaDistsI
import Derived.Test.YtnoocpokicccpaaDistF
namespace Go.Proofs.Ytnoocpokicccpaa
open Go.RowKit

set_option maxRecDepth 100000 in
set_option maxHeartbeats 1600000 in
theorem implDist_no (J i j : Int) (v : Value) (ls : List Lb) (base : Nat) (w : World) (hown : OwnL w base v ls) (hl : ls.length ≤ 2000000) (h : ¬ (bodyOk J ls = true ∧ (0 ≤ i ∧ i < J) ∧ (0 ≤ j ∧ j < J))) :
    Calls Try.prog 13 #[bodyV J v, .int .i64 i, .int .i64 j] w fun e w' => e = .returned (.int .i64 (-1)) ∧ Below w.heap.size w w' := by
  have CS := Lib.hid (fun W h => implOk J v ls base W h hl)
  obtain ⟨A, c, e⟩ := hown.slice
  subst e
  have C2 := Lib.hid (fun j W => hasJoint_any J j A ls.length c W)
  have OWN := Lib.hid hown
  have BX := Lib.hid (box_facts (J := J) hown)
  clear hown
  unfold bodyV at CS ⊢
  cases hok : bodyOk J ls with
  | false =>
    rw [hok] at CS
    clear h hok
    go_enter Try.func13, Try.ntmps13
    go_wp2_with fail
    refine (CS.out _ (OWN.out.alloc _)).mono ?_
    rintro e w1 ⟨rfl, b1⟩
    simp only [World.size_alloc] at b1
    obtain ⟨x0, x1, -, bw⟩ := BX.out w1 b1
    clear b1
    go_wp2
    go_ret
    exact ⟨rfl, bw⟩
  | true =>
    rw [hok] at CS
    by_cases hi : 0 ≤ i ∧ i < J
    · have hj : ¬ (0 ≤ j ∧ j < J) := fun x => h ⟨hok, hi, x⟩
      have hin := hasB_yes hi
      have hin2 := hasB_no hj
      clear h hok hj hi
      go_enter Try.func13, Try.ntmps13
      go_wp2_with fail
      refine (CS.out _ (OWN.out.alloc _)).mono ?_
      rintro e w1 ⟨rfl, b1⟩
      simp only [World.size_alloc] at b1
      obtain ⟨x0, x1, -, bw⟩ := BX.out w1 b1
      have y0 := (elder x0).1
      have y1 := (elder x1).1
      clear b1
      go_wp2_with (go_at_call 35; refine (C2.out _ _).mono ?_; rintro e w' ⟨rfl, rfl⟩)
      go_ret
      exact ⟨rfl, (bw.alloc bw.size _).alloc (by have := bw.size; simp only [World.size_alloc]; omega) _⟩
    · have hin := hasB_no hi
      clear h hok hi
      go_enter Try.func13, Try.ntmps13
      go_wp2_with fail
      refine (CS.out _ (OWN.out.alloc _)).mono ?_
      rintro e w1 ⟨rfl, b1⟩
      simp only [World.size_alloc] at b1
      obtain ⟨x0, x1, -, bw⟩ := BX.out w1 b1
      clear b1
      go_wp2_with (go_at_call 35; refine (C2.out _ _).mono ?_; rintro e w' ⟨rfl, rfl⟩)
      go_ret
      exact ⟨rfl, bw.alloc bw.size _⟩

set_option maxRecDepth 100000 in
set_option maxHeartbeats 800000 in
theorem implDist_yes (m i j : Nat) (v : Value) (ls : List Lb) (base : Nat) (w : World) (hown : OwnL w base v ls) (hok : bodyOk m ls = true) (hi : i < m) (hj : j < m) :
    Calls Try.prog 13 #[bodyV (m : Int) v, .int .i64 (i : Int), .int .i64 (j : Int)] w fun e w' => e = .returned (.int .i64 (dist m ls i j)) ∧ Below w.heap.size w w' := by
  obtain ⟨hf, hll, hm, hr⟩ := ok_parts' hok
  have CS := Lib.hid (fun W h => hok ▸ implOk m v ls base W h (by omega))
  have CD := Lib.hid (fun W h => implDists_yes m i v ls base W h hok hi)
  obtain ⟨A, c, e⟩ := hown.slice
  subst e
  have C2 := Lib.hid (fun j W => hasJoint_any m j A ls.length c W)
  have OWN := Lib.hid hown
  have BX := Lib.hid (box_facts (J := (m : Int)) hown)
  unfold bodyV at CS CD ⊢
  have hin := hasB_yes (J := (m : Int)) (j := (i : Int)) ⟨by omega, by omega⟩
  have hin2 := hasB_yes (J := (m : Int)) (j := (j : Int)) ⟨by omega, by omega⟩
  have hj0 : (0 : Int) ≤ (j : Int) := by omega
  have hj1 : (j : Int) < (m : Int) := by omega
  clear hok hown hf hr
  go_enter Try.func13, Try.ntmps13
  go_wp2_with fail
  refine (CS.out _ (OWN.out.alloc _)).mono ?_
  rintro e w1 ⟨rfl, b1⟩
  simp only [World.size_alloc] at b1
  have X1 := Lib.hid (BX.out w1 b1)
  obtain ⟨x0, x1, -, -⟩ := X1.out
  obtain ⟨y0, z0, -⟩ := elder x0
  obtain ⟨y1, z1, -⟩ := elder x1
  have hb1 := b1.size
  simp only [World.size_alloc] at hb1
  clear b1
  go_wp2_with (go_at_call 35; refine (C2.out _ _).mono ?_; rintro e w' ⟨rfl, rfl⟩)
  refine (CD.out _ ((X1.out.2.2.1.alloc _).alloc _)).mono ?_
  rintro e w2 ⟨v2, rfl, o2, b2⟩
  obtain ⟨g, c2, rfl, _, _, r2, _⟩ := o2.spot (k := j) (by rw [distsTo_len]; exact hj)
  rw [distsTo_at] at r2
  rw [distsTo_len]
  have B2 := Lib.hid (((X1.out.2.2.2.alloc X1.out.2.2.2.size (.cells #[.int .i64 (m : Int), .slice A ls.length c] 26)).alloc (by simp only [World.size_alloc]; omega) (.cells #[.int .i64 (m : Int), .slice A ls.length c] 26)).trans (b2.mono (by simp only [World.size_alloc]; omega)))
  clear x0 x1 y0 y1 z0 z1 o2 b2
  go_wp2
  go_ret
  exact ⟨rfl, B2.out⟩

theorem implDist (J i j : Int) (v : Value) (ls : List Lb) (base : Nat) (w : World) (hown : OwnL w base v ls) (hl : ls.length ≤ 2000000) :
    Calls Try.prog 13 #[bodyV J v, .int .i64 i, .int .i64 j] w fun e w' => e = .returned (.int .i64 (distOf J i j ls)) ∧ Below w.heap.size w w' := by
  cases h : joints J i j ls with
  | false =>
    unfold distOf
    rw [h]
    exact implDist_no J i j v ls base w hown hl (joints_not h)
  | true =>
    obtain ⟨hok, m, p, q, rfl, rfl, rfl, hp, hq⟩ := joints_of h
    rw [distOf_yes hok hp hq]
    exact implDist_yes m p q v ls base w hown hok hp hq
end Go.Proofs.Ytnoocpokicccpaa
