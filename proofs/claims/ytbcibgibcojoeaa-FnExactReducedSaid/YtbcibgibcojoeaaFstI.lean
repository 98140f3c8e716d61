/- The contract of the program's firstUndone. Condition: the crossings lie in a row of their own. -/
import Derived.Test.YtbcibgibcojoeaaUndI
import Derived.Test.YtbcibgibcojoeaaCrxM
import Derived.Laws.StructEq
import Derived.Deep.RegionHeld3
namespace Go.Proofs.Ytbcibgibcojoeaa
set_option linter.unusedVariables false
set_option linter.unusedSimpArgs false
open Go.RowKit

theorem eqlCross (a c : Int) (b d : Bool) (w : World) : (binOp .eql 36 (.agg #[.int .i64 a, .bool b]) (.agg #[.int .i64 c, .bool d])).run Try.prog w = .ok (.bool ((a == c) && (b == d))) w := by
  rw [run_eql_struct, run_equalIn_struct _ 9999 _ _ _ (by kernel_rfl) (by kernel_rfl)]
  have h1 := fun x y => run_equalIn_int (P := Try.prog) w 9998 3 .i64 .i64 x y Try.underlying3
  have h2 := fun x y => run_equalIn_bool (P := Try.prog) w 9998 4 x y Try.underlying4
  simp [Program.fieldsOf, Try.underlying36, Op.eqFields, go_sem, h1, h2]
  by_cases h : a = c <;> cases b <;> cases d <;> simp [h, go_sem, h2]

/-- Place k is the first that the next one undoes; -1: there is none. -/
def FirstU (ls : List RCross) (r : Int) : Prop := (r = -1 ∧ NoPair ls) ∨ ∃ k : Nat, r = (k : Int) ∧ k + 1 < ls.length ∧ (∀ h : k + 1 < ls.length, undoes ls[k] ls[k + 1] = true) ∧ ∀ i, i < k → ∀ h : i + 1 < ls.length, undoes ls[i] ls[i + 1] = false

set_option maxRecDepth 100000 in
set_option maxHeartbeats 1600000 in
theorem firstM (v : Value) (ls : List RCross) (b : Nat) (w : World) (h : OwnCross w b v ls) (hl : ls.length ≤ 2000000) :
    Calls Try.prog 44 #[v] w fun e w' => ∃ r, e = .returned (.int .i64 r) ∧ FirstU ls r ∧ Below w.heap.size w w' := by
  obtain ⟨A, c, rfl⟩ := h.slice
  have O := Lib.hid h
  have rm := h
  clear h rm
  have e1 : IntKind.i64.wrap ((ls.length : Int) - 1) = (ls.length : Int) - 1 := IntWalk.i64_in _ (by omega)
  have KE := eqlCross
  go_enter Try.func44, Try.ntmps44
  go_wp2_with fail
  go_loopw [7] (fun iv wr => ∃ k : Nat, k ≤ ls.length ∧ iv = .int .i64 (k : Int) ∧ Hid (∀ i, i < k → ∀ h : i + 1 < ls.length, undoes ls[i] ls[i + 1] = false) ∧ Hid (Below w.heap.size w wr)) (fun iv _ => ls.length - (intOf iv).toNat)
  case atStart => exact ⟨0, by omega, rfl, Lib.hid (fun i hi => absurd hi (by omega)), Lib.hid (Below.refl _ _)⟩
  case round =>
    obtain ⟨k, hk, rfl, HN, BW⟩ := hrel
    by_cases hlt : k + 1 < ls.length
    rotate_left
    · have hk2 : ¬ (k : Int) < (ls.length : Int) - 1 := by omega
      have R := Lib.hid (show FirstU ls (-1) from .inl ⟨rfl, fun i hi => HN.out i (by omega) hi⟩)
      go_wp2
      go_ret
      exact ⟨_, rfl, R.out, BW.out⟩
    have h1 : k < ls.length := by omega
    have hk0 : (0 : Int) ≤ (k : Int) := by omega
    have hk1 : (k : Int) < (ls.length : Int) := by omega
    have hk2 : (k : Int) < (ls.length : Int) - 1 := by omega
    have hk3 : (0 : Int) ≤ (k : Int) + 1 := by omega
    have hk4 : (k : Int) + 1 < (ls.length : Int) := by omega
    have e2 : IntKind.i64.wrap ((k : Int) + 1) = (k : Int) + 1 := IntWalk.i64_in _ (by omega)
    obtain ⟨g, _, f1, _, gl, z0, _⟩ := (O.out.below BW.out).spot h1
    simp only [Value.slice.injEq] at f1
    obtain ⟨rfl, -, rfl⟩ := f1
    obtain ⟨_, _, f1, _, _, z1, _⟩ := (O.out.below BW.out).spot hlt
    simp only [Value.slice.injEq, Option.some.injEq, Addr.mk.injEq] at f1
    obtain ⟨⟨rfl, _⟩, _⟩ := f1
    have r0 : wr.cell? ⟨g, k * 2, none⟩ = some (.int .i64 ls[k].f0) := z0 0 _ rfl
    have r1 : wr.cell? ⟨g, k * 2 + 1, none⟩ = some (.bool ls[k].f1) := z0 1 _ rfl
    have r2 : wr.cell? ⟨g, (k + 1) * 2, none⟩ = some (.int .i64 ls[k + 1].f0) := z1 0 _ rfl
    have r3 : wr.cell? ⟨g, (k + 1) * 2 + 1, none⟩ = some (.bool ls[k + 1].f1) := z1 1 _ rfl
    have YES := Lib.hid (fun (hu : (decide (ls[k].f0 = ls[k + 1].f0) && (ls[k].f1 != ls[k + 1].f1)) = true) => (show FirstU ls (k : Int) from .inr ⟨k, rfl, hlt, fun _ => hu, HN.out⟩))
    have NO := Lib.hid (fun (hu : (decide (ls[k].f0 = ls[k + 1].f0) && (ls[k].f1 != ls[k + 1].f1)) = false) => (show ∀ i, i < k + 1 → ∀ h : i + 1 < ls.length, undoes ls[i] ls[i + 1] = false from fun i hi h => by
      rcases (by omega : i < k ∨ i = k) with q | rfl
      · exact HN.out i q h
      · exact hu))
    generalize ls[k].f0 = x0 at r0 YES NO
    generalize ls[k].f1 = y0 at r1 YES NO
    generalize ls[k + 1].f0 = x1 at r2 YES NO
    generalize ls[k + 1].f1 = y1 at r3 YES NO
    have hbs := BW.out.size
    have X0 := Lib.hid (And.intro r0 (And.intro r1 (And.intro r2 r3)))
    clear z0 z1
    go_wp2_with fail
    go_region_held3 (fun W => W.cell? ⟨g, k * 2, none⟩ = some (.int .i64 x0) ∧ W.cell? ⟨g, k * 2 + 1, none⟩ = some (.bool y0) ∧ W.cell? ⟨g, (k + 1) * 2, none⟩ = some (.int .i64 x1) ∧ W.cell? ⟨g, (k + 1) * 2 + 1, none⟩ = some (.bool y1))
      (first | exact X0.out | exact X2.out)
      (first | (go_at_call 41; refine (undoM _ _ _).mono ?_; rintro e w2 ⟨rfl, b2⟩; have X2 := Lib.hid (And.intro (cell_below (by exact X0.out.1) b2) (And.intro (cell_below (by exact X0.out.2.1) b2) (And.intro (cell_below (by exact X0.out.2.2.1) b2) (cell_below (by exact X0.out.2.2.2) b2))))))
    have EQ : ((x1 == x0) && (y1 == !y0)) = (decide (x0 = x1) && (y0 != y1)) := by
      by_cases h : x0 = x1
      · subst h
        cases y0 <;> cases y1 <;> simp
      · have h' : ¬ x1 = x0 := fun e => h e.symm
        simp [h, h']
    have B2 := Lib.hid (BW.out.trans ((undrew b2).mono hbs))
    clear X0 X2 b2 r0 r1 r2 r3 KE
    rename_i hh_
    clear hh_
    rw [← EQ] at YES NO
    clear EQ
    generalize ((x1 == x0) && (y1 == !y0)) = t at YES NO ⊢
    cases t with
    | true =>
      have R := Lib.hid (YES.out rfl)
      go_wp2
      go_ret
      exact ⟨_, rfl, R.out, B2.out⟩
    | false =>
      have N2 := Lib.hid (NO.out rfl)
      go_wp2
      exact ⟨⟨_, _, _, ⟨k + 1, by omega, by go_num, N2⟩, rfl, rfl, rfl⟩, by simp [intOf]; omega⟩
end Go.Proofs.Ytbcibgibcojoeaa
