/- The contracts of the functions of the exact laws that compare limbs and bodies, mark them and look at the marks. Condition: the rows are the call's own. -/
import Derived.Test.YtblbmppbbhibeaaBody
namespace Go.Proofs.Ytblbmppbbhibeaa
set_option linter.unusedVariables false
set_option linter.unusedSimpArgs false
open Go.RowKit

theorem eqLimb_same (a b n : Int) (w : World) :
    Calls Try.prog 59 #[.agg #[.int .i64 a, .int .i64 b, .int .i64 n], .agg #[.int .i64 a, .int .i64 b, .int .i64 n]] w fun e w' => e = .returned (.bool true) ∧ Below w.heap.size w w' := by
  go_enter Try.func59, Try.ntmps59
  go_wp2
  go_ret
  exact ⟨rfl, ((Below.refl w.heap.size w).alloc (Nat.le_refl _) _).alloc (by simp) _⟩

set_option maxHeartbeats 400000 in
theorem eqLimbS_same (v1 v2 : Value) (ls : List Lb) (b1 b2 : Nat) (w : World) (h1 : OwnL w b1 v1 ls) (h2 : OwnL w b2 v2 ls) (hl : ls.length ≤ 2000000) :
    Calls Try.prog 45 #[v1, v2] w fun e w' => e = .returned (.bool true) ∧ Below w.heap.size w w' := by
  obtain ⟨A1, c1, e1⟩ := h1.slice
  obtain ⟨A2, c2, e2⟩ := h2.slice
  subst e1 e2
  have H1 := Lib.hid h1
  have H2 := Lib.hid h2
  clear h1 h2
  go_enter Try.func45, Try.ntmps45
  go_wp2
  go_loopw [5] (fun i wr => ∃ (k : Nat), k ≤ ls.length ∧ i = .int .i64 k ∧ Below w.heap.size w wr) (fun i _ => ls.length - (intOf i).toNat)
  case atStart => exact ⟨0, by omega, rfl, Below.refl _ _⟩
  case round =>
    obtain ⟨k, hk, rfl, hb⟩ := hrel
    by_cases hlt : k < ls.length
    · obtain ⟨g1, d1, e1, _, l1, r1, _⟩ := H1.out.spot hlt
      obtain ⟨g2, d2, e2, _, l2, r2, _⟩ := H2.out.spot hlt
      simp only [Value.slice.injEq] at e1 e2
      obtain ⟨rfl, _, rfl⟩ := e1
      obtain ⟨rfl, _, rfl⟩ := e2
      have hk0 : (0 : Int) ≤ (k : Int) := by omega
      have hk1 : (k : Int) < (ls.length : Int) := by omega
      have r1 := r1.below hb l1
      have r2 := r2.below hb l2
      have C := Lib.hid (fun W => eqLimb_same ls[k].a ls[k].b ls[k].n W)
      have lw := hb.size
      go_wp2_with fail
      have six := six_cells r1 r2
      go_region_held3 (fun w' => w'.cell? ⟨g1, k * 3, none⟩ = some (.int .i64 ls[k].a) ∧ w'.cell? ⟨g1, k * 3 + 1, none⟩ = some (.int .i64 ls[k].b) ∧ w'.cell? ⟨g1, k * 3 + 2, none⟩ = some (.int .i64 ls[k].n) ∧ w'.cell? ⟨g2, k * 3, none⟩ = some (.int .i64 ls[k].a) ∧ w'.cell? ⟨g2, k * 3 + 1, none⟩ = some (.int .i64 ls[k].b) ∧ w'.cell? ⟨g2, k * 3 + 2, none⟩ = some (.int .i64 ls[k].n)) (first | exact six | assumption | exact six_below (by assumption) hbq) (first | (go_at_call 59; refine (C.out _).mono ?_; rintro e w' ⟨rfl, hbq⟩))
      go_wp2
      exact ⟨⟨k + 1, by omega, by go_num, hb.drew.trans (hbq.mono hb.size)⟩, by simp [intOf]; omega⟩
    · go_wp2
      go_ret
      exact ⟨rfl, hb⟩

theorem eqBody_same (J : Int) (v1 v2 : Value) (ls : List Lb) (b1 b2 : Nat) (w : World) (h1 : OwnL w b1 v1 ls) (h2 : OwnL w b2 v2 ls) (hl : ls.length ≤ 2000000) :
    Calls Try.prog 23 #[bodyV J v1, bodyV J v2] w fun e w' => e = .returned (.bool true) ∧ Below w.heap.size w w' := by
  obtain ⟨A1, c1, e1⟩ := h1.slice
  obtain ⟨A2, c2, e2⟩ := h2.slice
  subst e1 e2
  have H1 := Lib.hid h1
  have H2 := Lib.hid h2
  clear h1 h2
  unfold bodyV
  go_enter Try.func23, Try.ntmps23
  go_wp2_with fail
  refine (eqLimbS_same _ _ ls b1 b2 _ ((H1.out.alloc _).alloc _) ((H2.out.alloc _).alloc _) hl).mono ?_
  rintro e w3 ⟨rfl, b3⟩
  go_wp2
  go_ret
  exact ⟨rfl, (((Below.refl w.heap.size w).alloc (Nat.le_refl _) _).alloc (by simp) _).trans (b3.mono (by simp <;> omega))⟩

set_option maxHeartbeats 400000 in
theorem markLimbS_any (v : Value) (ls : List Lb) (base : Nat) (w : World) (hown : OwnL w base v ls) (hl : ls.length ≤ 2000000) (u : Nat) (h1 : u ≤ 10000000) :
    Calls Try.prog 47 #[v, .int .i64 (u : Int)] w fun e w' => e = .returned (.int .i64 ((u + 3 * ls.length : Nat) : Int)) ∧ OwnL w' base v (marksL u ls.length) ∧ w.grownBy w' v.ownBlock := by
  obtain ⟨A, c, e⟩ := hown.slice
  subst e
  have H := Lib.hid hown
  clear hown
  go_enter Try.func47, Try.ntmps47
  go_wp2
  go_loopw [1, 5] (fun kv i wr => ∃ k : Nat, k ≤ ls.length ∧ i = .int .i64 k ∧ kv = .int .i64 ((u + 3 * k : Nat) : Int) ∧ OwnL wr base (.slice A ls.length c) (marksL u k ++ ls.drop k) ∧ w.grownBy wr (Value.slice A ls.length c).ownBlock) (fun _ i _ => ls.length - (intOf i).toNat)
  case atStart => exact ⟨0, by omega, rfl, rfl, (by simpa [marksL] using H.out), World.grownBy.refl w _⟩
  case round =>
    obtain ⟨k, hk, rfl, rfl, hown, hg⟩ := hrel
    have hlen : (marksL u k ++ ls.drop k).length = ls.length := by simp [marksL_len]; omega
    by_cases hlt : k < ls.length
    · obtain ⟨g, c', e1, _, _, rg, th⟩ := hown.spot (k := k) (by rw [hlen]; exact hlt)
      simp only [Value.slice.injEq] at e1
      obtain ⟨rfl, hloop, rfl⟩ := e1
      clear hloop
      obtain ⟨⟨x0, t0⟩, ⟨x1, t1⟩, ⟨x2, t2⟩, f0, f1, f2⟩ := th.three
      have st := hown.set hlen.symm k ⟨((u + 3 * k : Nat) : Int), ((u + 3 * k + 1 : Nat) : Int), ((u + 3 * k + 2 : Nat) : Int)⟩
      rw [marksL_set u ls k hlt] at st
      have ST := Lib.hid st
      have hk0 : (0 : Int) ≤ (k : Int) := by omega
      have hk1 : (k : Int) < (ls.length : Int) := by omega
      clear rg st hown hlen th
      go_wp2
      exact ⟨⟨k + 1, by omega, by go_num, by go_num, ST.out.1, grown_then hg ST.out.2⟩, by simp [intOf]; omega⟩
    · have hke : k = ls.length := by omega
      subst hke
      have hfin : OwnL wr base (.slice A ls.length c) (marksL u ls.length) := by simpa using hown
      go_wp2
      go_ret
      exact ⟨rfl, hfin, hg⟩

end Go.Proofs.Ytblbmppbbhibeaa
