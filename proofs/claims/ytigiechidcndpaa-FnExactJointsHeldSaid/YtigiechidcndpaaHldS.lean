/- The contracts of spec.JointsHeld and impl.JointsHeld. Condition: the arms and the cords lie in rows of their own. -/
import Derived.Test.YtigiechidcndpaaCtlA
import Derived.Test.YtigiechidcndpaaRowI
namespace Go.Proofs.Ytigiechidcndpaa
set_option linter.unusedVariables false
open Go.RowKit

theorem held_more {cs : List Lb} {j : Nat} (h : heldB cs j = true) : heldTo cs (j + 1) = heldTo cs j ++ [(j : Int)] := by
  rw [heldTo, if_pos h]
theorem held_less {cs : List Lb} {j : Nat} (h : heldB cs j = false) : heldTo cs (j + 1) = heldTo cs j := by
  rw [heldTo, if_neg (by simp [h]), List.append_nil]
theorem held_same (cs : List Lb) (j : Nat) : holdB (cs.take cs.length) (j : Int) = heldB cs j := by
  rw [List.take_length]
  rfl

set_option maxRecDepth 100000 in
set_option maxHeartbeats 1600000 in
theorem implHeld (H : Int) (va vc : Value) (zs : List Int) (cs : List Lb) (b : Nat) (w : World) (hown : OwnK w b va vc zs cs) (hc : cs.length ≤ 2000000) :
    Calls Try.prog 14 #[ctlV H va vc] w (IntsPost w (jointsHeld cs)) := by
  obtain ⟨A, a, C, c, rfl, rfl⟩ := hown.slice
  have CHo := Lib.hid (fun j W h => holds_any C cs.length c j cs cs.length c b W h (Nat.le_refl _) hc C (.inr rfl))
  have BX := Lib.hid (ctl_facts (H := H) hown)
  obtain ⟨i0, hi0, hz0, hz1, hz2⟩ := info_parts info_int
  have hpos : 0 < 1 := by omega
  clear hown
  unfold ctlV
  go_enter Try.func14, Try.ntmps14
  go_wp2_with fail
  go_loopw [3, 5] (fun ov iv wr => ∃ (j : Nat) (vo : Value), vo = ov ∧ j ≤ 12 ∧ iv = .int .i64 (j : Int) ∧ OwnI wr (w.heap.size + 1) vo (heldTo cs j) ∧ Below (w.heap.size + 1) (w.alloc (.cells #[.int .i64 H, .slice A zs.length a, .slice C cs.length c] 27)) wr) (fun _ iv _ => 12 - (intOf iv).toNat)
  case atStart => exact ⟨0, _, rfl, by omega, rfl, ⟨rfl, .inl ⟨rfl, rfl⟩⟩, Below.refl _ _⟩
  case round =>
    obtain ⟨j, vo, rfl, hj, rfl, ho, hb⟩ := hrel
    obtain ⟨x0, x1, x2, ok, bw⟩ := BX.out wr hb
    have OK := Lib.hid ok
    have HO := Lib.hid ho
    have HB := Lib.hid hb
    have hsz := hb.size
    simp only [World.size_alloc] at hsz
    clear ok bw hb ho
    by_cases hlt : j < 12
    · have hj0 : (j : Int) < 12 := by omega
      have CJ := Lib.hid (fun W h => held_same cs j ▸ CHo.out (j : Int) W h)
      cases g1 : heldB cs j with
      | false =>
        have DS := Lib.hid (held_less g1)
        rw [g1] at CJ
        go_wp2_with fail
        refine (CJ.out _ OK.out.2.1).mono ?_
        rintro e w3 ⟨rfl, b3⟩
        have O3 := Lib.hid (OwnI.below HO.out b3)
        have B3 := Lib.hid (HB.out.trans (b3.mono hsz))
        clear b3
        go_wp2_with fail
        exact ⟨⟨j + 1, _, rfl, by omega, by go_num, by rw [DS.out]; exact O3.out, B3.out⟩, by simp [intOf]; omega⟩
      | true =>
        have DS := Lib.hid (held_more g1)
        rw [g1] at CJ
        go_wp2_with fail
        refine (CJ.out _ OK.out.2.1).mono ?_
        rintro e w3 ⟨rfl, b3⟩
        have O3 := Lib.hid (OwnI.below HO.out b3)
        have B3 := Lib.hid (HB.out.trans (b3.mono hsz))
        have z3 := b3.size
        have hmax : (heldTo cs j).length + 1 ≤ maxLen := by have := heldTo_len cs j; simp only [maxLen]; omega
        have hbd : ((heldTo cs j).length + 1) * 8 ≤ 140737488355328 := by have := heldTo_len cs j; omega
        generalize heldTo cs j = ts at O3 hmax hbd DS
        clear b3 HO
        go_wp2_with (at_builtin; refine wpList_append_lies _ rfl (.tmp 12) (.tmp 14) 24 rfl (w.heap.size + 1) 3 i0 (.int .i64 0) 1 8 Try.underlying24 hi0 hz0 hz1 hz2 rfl hpos vo _ _ rfl (OwnI.alloc O3.out _) ⟨w3.heap.size, 0, none⟩ 1 1 [.int .i64 (j : Int)] rfl rfl (cell_one_new _ _ _) ?_ hpos hmax hbd ?_ (w3.heap.size + 1) ?_ ?_; (simp [Value.oneCell']); (simp; omega); (simp); intro gg cap w4 hown1 hgrow hat hlt')
        exact ⟨⟨j + 1, _, rfl, by omega, by go_num, (by rw [DS.out]; exact ownI_snoc hown1), ints_snoc_below B3.out (by omega) O3.out hgrow⟩, by simp [intOf]; omega⟩
    · obtain rfl : j = 12 := by omega
      have F := Lib.hid (BX.out _ HB.out).2.2.2.2
      go_wp2
      go_ret
      exact ⟨_, rfl, HO.out.mono (by omega), F.out⟩

set_option maxRecDepth 100000 in
set_option maxHeartbeats 1600000 in
theorem specHeld (H : Int) (va vc : Value) (zs : List Int) (cs : List Lb) (b : Nat) (w : World) (hown : OwnK w b va vc zs cs) (hc : cs.length ≤ 2000000) :
    Calls Try.prog 31 #[ctlV H va vc] w (IntsPost w (jointsHeld cs)) := by
  obtain ⟨A, a, C, c, rfl, rfl⟩ := hown.slice
  have BX := Lib.hid (ctl_facts (H := H) hown)
  have O0 := Lib.hid (ownI_empty (w.alloc (.cells #[.int .i64 H, .slice A zs.length a, .slice C cs.length c] 27)) (w.heap.size + 1) (w.heap.size + 1) #[] (by simp) (by omega) rfl)
  obtain ⟨i0, hi0, hz0, hz1, hz2⟩ := info_parts info_int
  have hpos : 0 < 1 := by omega
  clear hown
  unfold ctlV
  go_enter Try.func31, Try.ntmps31
  go_wp2_with fail
  go_loopw [3, 4] (fun ov iv wr => ∃ (j : Nat) (vo : Value), vo = ov ∧ j ≤ 12 ∧ iv = .int .i64 (j : Int) ∧ OwnI wr (w.heap.size + 1) vo (heldTo cs j) ∧ Below (w.heap.size + 1) (w.alloc (.cells #[.int .i64 H, .slice A zs.length a, .slice C cs.length c] 27)) wr) (fun _ iv _ => 12 - (intOf iv).toNat)
  case atStart => exact ⟨0, _, rfl, by omega, rfl, O0.out, (Below.refl _ _).alloc (by simp) _⟩
  case round =>
    obtain ⟨j, vo, rfl, hj, rfl, ho, hb⟩ := hrel
    have HO := Lib.hid ho
    have HB := Lib.hid hb
    have hsz := hb.size
    simp only [World.size_alloc] at hsz
    clear hb ho
    by_cases hlt : j < 12
    · have hj0 : (j : Int) < 12 := by omega
      go_wp2_with fail
      go_loopw [5, 6] (fun fv iv wi => wr = wi ∧ ∃ k : Nat, k ≤ cs.length ∧ iv = .int .i64 (k : Int) ∧ fv = .bool ((cs.take k).any fun c => decide (c.b = (j : Int)))) (fun _ iv _ => cs.length - (intOf iv).toNat)
      case atStart => exact ⟨rfl, 0, by omega, rfl, rfl⟩
      case round =>
        obtain ⟨rfl, k, hk, rfl, rfl⟩ := hrel
        obtain ⟨x0, x1, x2, ok, -⟩ := BX.out wr HB.out
        have OK := Lib.hid ok
        clear ok
        by_cases hlt' : k < cs.length
        · obtain ⟨g, _, f1, _, lg, rg, _⟩ := OK.out.2.1.spot hlt'
          simp only [Value.slice.injEq] at f1
          obtain ⟨rfl, em, rfl⟩ := f1
          clear em
          have r1 : wr.cell? ⟨g, k * 3 + 1, none⟩ = some (.int .i64 cs[k].b) := rg 1 _ rfl
          have hk0 : (0 : Int) ≤ (k : Int) := by omega
          have hk1 : (k : Int) < (cs.length : Int) := by omega
          have AM := Lib.hid (any_upto (p := fun c : Lb => decide (c.b = (j : Int))) hlt')
          clear rg
          generalize cs[k] = q at r1 AM
          cases gf : (cs.take k).any (fun c => decide (c.b = (j : Int))) with
          | true =>
            have A2 := Lib.hid (show (cs.take (k + 1)).any (fun c => decide (c.b = (j : Int))) = true by rw [AM.out, gf]; rfl)
            go_wp2
            exact ⟨⟨by trivial, k + 1, by omega, by go_num, by rw [A2.out]⟩, by simp [intOf]; omega⟩
          | false =>
            have A2 := Lib.hid (show (cs.take (k + 1)).any (fun c => decide (c.b = (j : Int))) = (q.b == (j : Int)) by rw [AM.out, gf]; rfl)
            go_wp2
            exact ⟨⟨by trivial, k + 1, by omega, by go_num, by rw [A2.out]⟩, by simp [intOf]; omega⟩
        · obtain rfl : k = cs.length := by omega
          rw [List.take_length]
          cases g1 : cs.any (fun c => decide (c.b = (j : Int))) with
          | false =>
            have DS := Lib.hid (held_less (cs := cs) (j := j) g1)
            go_wp2_with fail
            exact ⟨⟨j + 1, _, rfl, by omega, by go_num, by rw [DS.out]; exact HO.out, HB.out⟩, by simp [intOf]; omega⟩
          | true =>
            have DS := Lib.hid (held_more (cs := cs) (j := j) g1)
            have hmax : (heldTo cs j).length + 1 ≤ maxLen := by have := heldTo_len cs j; simp only [maxLen]; omega
            have hbd : ((heldTo cs j).length + 1) * 8 ≤ 140737488355328 := by have := heldTo_len cs j; omega
            generalize heldTo cs j = ts at HO hmax hbd DS
            go_wp2_with (at_builtin; refine wpList_append_lies _ rfl (.tmp 31) (.tmp 33) 24 rfl (w.heap.size + 1) 3 i0 (.int .i64 0) 1 8 Try.underlying24 hi0 hz0 hz1 hz2 rfl hpos vo _ _ rfl (OwnI.alloc HO.out _) ⟨wr.heap.size, 0, none⟩ 1 1 [.int .i64 (j : Int)] rfl rfl (cell_one_new _ _ _) ?_ hpos hmax hbd ?_ (wr.heap.size + 1) ?_ ?_; (simp [Value.oneCell']); (simp; omega); (simp); intro gg cap w4 hown1 hgrow hat hlt')
            exact ⟨⟨j + 1, _, rfl, by omega, by go_num, (by rw [DS.out]; exact ownI_snoc hown1), ints_snoc_below HB.out (by omega) HO.out hgrow⟩, by simp [intOf]; omega⟩
    · obtain rfl : j = 12 := by omega
      have F := Lib.hid (BX.out _ HB.out).2.2.2.2
      go_wp2
      go_ret
      exact ⟨_, rfl, HO.out.mono (by omega), F.out⟩
end Go.Proofs.Ytigiechidcndpaa
