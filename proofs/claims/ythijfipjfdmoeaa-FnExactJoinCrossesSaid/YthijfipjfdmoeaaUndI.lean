/- The contracts of the program's undoing and UndoCrosses. Condition: the crossings lie in a row of their own. -/
import Derived.Test.YthijfipjfdmoeaaCrsM
import Derived.Test.YthijfipjfdmoeaaCrossA
import Derived.BigQuiet
namespace Go.Proofs.Ythijfipjfdmoeaa
set_option linter.unusedVariables false
set_option linter.unusedSimpArgs false
open Go.RowKit

theorem undoM (x : Int) (y : Bool) (w : World) :
    Calls Try.prog 61 #[.agg #[.int .i64 x, .bool y]] w fun e w' => e = .returned (.agg #[.int .i64 x, .bool (!y)]) ∧ Below w.heap.size w w' := by
  go_enter Try.func61, Try.ntmps61
  go_wp2
  go_returns
  exact ⟨rfl, (((Below.refl w.heap.size w).alloc (Nat.le_refl _) _).alloc (by simp) _)⟩

theorem set_back {α : Type} (d : α) (m : Nat) (L : List α) (x : α) : (List.replicate (m + 1) d ++ L).set m x = List.replicate m d ++ x :: L := by
  rw [List.replicate_succ', List.append_assoc, List.set_append_right _ _ (by simp), List.length_replicate, Nat.sub_self]
  rfl
theorem undo_take {ls : List RCross} {k : Nat} (h : k < ls.length) : undo (ls.take (k + 1)) = turned ls[k] :: undo (ls.take k) := by
  unfold undo
  rw [List.take_add_one, List.getElem?_eq_getElem h, Option.toList_some, List.map_append, List.map_singleton, List.reverse_append]
  rfl

set_option maxRecDepth 100000 in
set_option maxHeartbeats 1600000 in
theorem implUndo (v : Value) (ls : List RCross) (b : Nat) (w : World) (h : OwnCross w b v ls) (hl : ls.length ≤ 2000000) :
    Calls Try.prog 41 #[v] w (CrossPost w (undo ls)) := by
  obtain ⟨i, hi, hz, hs, hb⟩ := info_parts infoCross
  obtain ⟨A, c, rfl⟩ := h.slice
  have O := Lib.hid h
  clear h
  have e1 : IntKind.i64.wrap ((ls.length : Int) - 1) = (ls.length : Int) - 1 := IntWalk.i64_in _ (by omega)
  go_enter Try.func41, Try.ntmps41
  go_wp2_with (refine wpList_make_full _ rfl _ _ 24 rfl w.heap.size 56 i RCross.zero.val 2 Try.underlying24 hi hz hs .i64 .i64 _ _ ls.length rfl rfl rfl rfl (by rw [hb]; omega) (by simp only [maxLen]; omega) (by simp) ?_; intro w1 own1 grown1)
  have O1 : Hid (OwnCross w1 w.heap.size (.slice (some ⟨w.heap.size, 0, none⟩) ls.length ls.length) (List.replicate (ls.length - 0) RCross.zero ++ undo (ls.take 0))) := Lib.hid (by
    unfold OwnCross
    simpa [madeCross, undo] using own1)
  have B1 := Lib.hid (below_of_grown grown1)
  clear own1 grown1
  go_loopw [11] (fun iv wr => ∃ k : Nat, k ≤ ls.length ∧ iv = .int .i64 (k : Int) ∧ Hid (OwnCross wr w.heap.size (.slice (some ⟨w.heap.size, 0, none⟩) ls.length ls.length) (List.replicate (ls.length - k) RCross.zero ++ undo (ls.take k))) ∧ Hid (Below w.heap.size w wr)) (fun iv _ => ls.length - (intOf iv).toNat)
  case atStart => exact ⟨0, by omega, rfl, O1, B1⟩
  case round =>
    clear O1 B1
    obtain ⟨k, hk, rfl, OO, BW⟩ := hrel
    by_cases hlt : k < ls.length
    rotate_left
    · obtain rfl : k = ls.length := by omega
      have F := Lib.hid (show OwnCross wr w.heap.size (.slice (some ⟨w.heap.size, 0, none⟩) ls.length ls.length) (undo ls) by simpa using OO.out)
      go_wp2
      go_ret
      exact ⟨_, rfl, F.out, BW.out⟩
    have hk0 : (0 : Int) ≤ (k : Int) := by omega
    have hk1 : (k : Int) < (ls.length : Int) := by omega
    obtain ⟨g, _, f1, _, _, z0, _⟩ := (O.out.below BW.out).spot hlt
    simp only [Value.slice.injEq] at f1
    obtain ⟨rfl, -, rfl⟩ := f1
    have r0 : wr.cell? ⟨g, k * 2, none⟩ = some (.int .i64 ls[k].f0) := z0 0 _ rfl
    have r1 : wr.cell? ⟨g, k * 2 + 1, none⟩ = some (.bool ls[k].f1) := z0 1 _ rfl
    have UT := Lib.hid (show undo (ls.take (k + 1)) = ⟨ls[k].f0, !ls[k].f1⟩ :: undo (ls.take k) from undo_take hlt)
    generalize ls[k].f0 = x at r0 UT
    generalize ls[k].f1 = y at r1 UT
    obtain ⟨m, hm⟩ : ∃ m, ls.length = m + 1 + k := ⟨ls.length - 1 - k, by omega⟩
    have e2 : IntKind.i64.wrap ((ls.length : Int) - 1 - (k : Int)) = (m : Int) := by rw [IntWalk.i64_in _ (by omega)]; omega
    have hm0 : (0 : Int) ≤ (m : Int) := by omega
    have hm1 : (m : Int) < (ls.length : Int) := by omega
    have ek : ls.length - k = m + 1 := by omega
    have ek2 : ls.length - (k + 1) = m := by omega
    have hlen : (List.replicate (m + 1) RCross.zero ++ undo (ls.take k)).length = ls.length := by rw [List.length_append, undo_len, List.length_replicate, List.length_take]; omega
    rw [ek] at OO
    have hbs := BW.out.size
    have OA := Lib.hid (fun o => OO.out.alloc o)
    have BA := Lib.hid (fun o => BW.out.alloc hbs o)
    clear z0 hm ek
    go_wp2_with fail
    refine (undoM x y _).mono ?_
    rintro e w2 ⟨rfl, b2⟩
    have own2 := (OO.out.alloc _).below b2
    have B2 := Lib.hid ((BW.out.alloc hbs _).trans (b2.mono (by simp; omega)))
    obtain ⟨⟨y0, t0⟩, ⟨y1, t1⟩, f0, f1⟩ := thereCross (own2.there (k := m) (by rw [hlen]; omega))
    have st := own2.set hlen.symm m ⟨x, !y⟩
    rw [set_back, ← UT.out] at st
    have ST := Lib.hid st
    clear own2 st hlen b2
    go_wp2
    exact ⟨⟨k + 1, by omega, by go_num, Lib.hid (by rw [ek2]; exact ST.out.1), Lib.hid (B2.out.grown ST.out.2 B2.out.size (fun q hq => by have := Option.some.inj hq; omega))⟩, by simp [intOf]; omega⟩
end Go.Proofs.Ythijfipjfdmoeaa
