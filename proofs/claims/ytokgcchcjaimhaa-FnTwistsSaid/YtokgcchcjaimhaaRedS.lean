/- The contract of spec.Reduced. Condition: the crossings lie in a row of their own. -/
import Derived.Test.YtokgcchcjaimhaaCrsS
namespace Go.Proofs.Ytokgcchcjaimhaa
set_option linter.unusedVariables false
set_option linter.unusedSimpArgs false
open Go.RowKit

theorem push_nil (l : RCross) : push [] l = [l] := rfl
theorem push_snoc (pre : List RCross) (x l : RCross) : push (pre ++ [x]) l = if undoes x l = true then pre else pre ++ [x] ++ [l] := by
  unfold push
  simp

theorem last_cells {w : World} {base g n c : Nat} {pre : List RCross} {p : RCross} (h : OwnCross w base (.slice (some ⟨g, 0, none⟩) n c) (pre ++ [p])) :
    w.cell? ⟨g, pre.length * 2, none⟩ = some (.int .i64 p.f0) ∧ w.cell? ⟨g, pre.length * 2 + 1, none⟩ = some (.bool p.f1) := by
  obtain ⟨g', c', e, hb, _, z, _⟩ := h.spot (k := pre.length) (by simp)
  simp only [Value.slice.injEq, Option.some.injEq, Addr.mk.injEq, and_true, true_and] at e
  obtain ⟨rfl, -, -⟩ := e
  have hx : (pre ++ [p])[pre.length]'(by simp) = p := by simp
  rw [hx] at z
  exact ⟨z 0 _ rfl, z 1 _ rfl⟩

set_option maxRecDepth 100000 in
set_option maxHeartbeats 1600000 in
theorem specRed (n : Int) (v : Value) (ls : List RCross) (b : Nat) (w : World) (h : OwnCross w b v ls) (hl : ls.length ≤ 2000000) :
    Calls Try.prog 18 #[.int .i64 n, v] w (CrossPost w (reduced n ls)) := by
  have CK := Lib.hid (fun W h => specCrOk n v ls b W h hl)
  obtain ⟨A, c, rfl⟩ := h.slice
  have O := Lib.hid h
  clear h
  have E0 := Lib.hid (emptyCross w w.heap.size w.heap.size #[] rfl (Nat.le_refl _) rfl)
  have B0 := Lib.hid ((Below.refl w.heap.size w).alloc (Nat.le_refl _) (.cells #[] 60))
  cases hc : crossOk n ls with
  | false =>
    have R := Lib.hid (show reduced n ls = [] by unfold reduced; rw [hc]; rfl)
    rw [hc] at CK
    go_enter Try.func18, Try.ntmps18
    go_wp2_with fail
    go_loopw [5, 6] (fun ov iv wr => ov = .slice (some ⟨w.heap.size, 0, none⟩) 0 0 ∧ iv = .int .i64 0 ∧ Hid (OwnCross wr w.heap.size (.slice (some ⟨w.heap.size, 0, none⟩) 0 0) []) ∧ Hid (Below w.heap.size w wr)) (fun _ _ _ => 0)
    case atStart => exact ⟨rfl, rfl, E0, B0⟩
    case round =>
      clear E0 B0
      obtain ⟨rfl, rfl, OO, BW⟩ := hrel
      by_cases hlt : 0 < ls.length
      · have hk1 : (0 : Int) < (ls.length : Int) := by omega
        go_wp2_with (go_at_call 42; refine (CK.out _ (O.out.below BW.out)).mono ?_; rintro e w' ⟨rfl, b2⟩; have B2 := Lib.hid (BW.out.trans (b2.mono BW.out.size)); have O2 := Lib.hid (OO.out.below b2); clear b2)
        go_ret
        exact ⟨_, rfl, by rw [R.out]; exact O2.out, B2.out⟩
      · have hk1 : ¬ (0 : Int) < (ls.length : Int) := by omega
        go_wp2
        go_ret
        exact ⟨_, rfl, by rw [R.out]; exact OO.out, BW.out⟩
  | true =>
    have h40 := (crossOk_has hc).2.1
    have R := Lib.hid (show reduced n ls = redTo ls ls.length by unfold reduced; rw [if_pos hc])
    rw [hc] at CK
    have RM := Lib.hid (fun k (hk : k < ls.length) => redTo_more hk)
    have RL := Lib.hid (fun k => redTo_len ls k)
    go_enter Try.func18, Try.ntmps18
    go_wp2_with fail
    go_loopw [5, 6] (fun ov iv wr => ∃ (k g c : Nat) (os : List RCross), ov = .slice (some ⟨g, 0, none⟩) os.length c ∧ k ≤ ls.length ∧ iv = .int .i64 (k : Int) ∧ Hid (os = redTo ls k) ∧ Hid (OwnCross wr w.heap.size (.slice (some ⟨g, 0, none⟩) os.length c) os) ∧ Hid (Below w.heap.size w wr)) (fun _ iv _ => ls.length - (intOf iv).toNat)
    case atStart => exact ⟨0, w.heap.size, 0, [], rfl, by omega, rfl, Lib.hid rfl, E0, B0⟩
    case round =>
      clear E0 B0
      obtain ⟨k, g, c2, os, rfl, hk, rfl, HO, OO, BW⟩ := hrel
      by_cases hlt : k < ls.length
      rotate_left
      · obtain rfl : k = ls.length := by omega
        have F := Lib.hid (R.out ▸ HO.out ▸ OO.out)
        go_wp2
        go_ret
        exact ⟨_, rfl, by rw [R.out, ← HO.out]; exact OO.out, BW.out⟩
      have hk0 : (0 : Int) ≤ (k : Int) := by omega
      have hk1 : (k : Int) < (ls.length : Int) := by omega
      have hos : os.length ≤ 40 := by have := RL.out k; rw [HO.out]; omega
      have PM := Lib.hid (show redTo ls (k + 1) = push os ls[k] by rw [HO.out]; exact RM.out k hlt)
      obtain ⟨gl, _, f1, _, lt1, z0, _⟩ := O.out.spot hlt
      simp only [Value.slice.injEq] at f1
      obtain ⟨rfl, -, rfl⟩ := f1
      have LC := Lib.hid (fun W (hb : Below w.heap.size w W) => (show W.cell? ⟨gl, k * 2, none⟩ = some (.int .i64 ls[k].f0) ∧ W.cell? ⟨gl, k * 2 + 1, none⟩ = some (.bool ls[k].f1) from ⟨(z0.below hb lt1) 0 _ rfl, (z0.below hb lt1) 1 _ rfl⟩))
      have PX : Hid (redTo ls (k + 1) = push os ⟨ls[k].f0, ls[k].f1⟩) := PM
      clear PM HO z0
      generalize ls[k].f0 = x at LC PX
      generalize ls[k].f1 = y at LC PX
      rcases List.eq_nil_or_concat os with rfl | ⟨pre, p, hpp⟩
      · have PM := Lib.hid (push_nil ⟨x, y⟩ ▸ PX.out)
        clear PX
        go_wp2_with fail
        refine (CK.out _ (O.out.below BW.out)).mono ?_
        rintro e w1 ⟨rfl, b1⟩
        have hbs := b1.size
        have B1 := Lib.hid (BW.out.trans (b1.mono BW.out.size))
        have O1 := Lib.hid (OO.out.below b1)
        clear b1 OO BW CK
        obtain ⟨r0, r1⟩ := LC.out _ B1.out
        have hsz := B1.out.size
        have OD := Lib.hid (fun q => O1.out.below (below_drewN (Below.refl _ _) q))
        go_wp2
        go_quiet (fail)
        have F_ := Lib.hid (show (w1.drewN nq).cell? ⟨gl, k * 2, none⟩ = some (.int .i64 x) ∧ (w1.drewN nq).cell? ⟨gl, k * 2 + 1, none⟩ = some (.bool y) ∧ OwnCross (w1.drewN nq) w.heap.size _ _ ∧ Below w.heap.size w (w1.drewN nq) from ⟨r0, r1, OD.out nq, below_drewN B1.out nq⟩)
        clear r0 r1 OD O1 B1 hsz hbs
        generalize w1.drewN nq = w2 at F_ ⊢
        obtain ⟨q0, q1, o_, b_⟩ := F_.out
        have OO := Lib.hid o_
        have BW := Lib.hid b_
        have hsz := b_.size
        clear o_ b_ F_
        go_wp2_with (at_builtin; refine wpList_rowsCross rfl (.tmp 56) (.tmp 61) rfl w.heap.size w2.heap.size (.slice (some ⟨g, 0, none⟩) 0 c2) _ ([]) [⟨x, y⟩] rfl rfl (OO.out.alloc _) (oneCross _ _ _ (Nat.le_refl _)) ?_ ?_ ?_; (simp at hos ⊢ <;> omega); (simp <;> omega); intro v3 w3 o3 g3 hat3)
        have B3 := Lib.hid (mineCross (BW.out.alloc hsz _) (by simp; omega) (OO.out.alloc _) g3)
        obtain ⟨gg, cc, rfl, -, -, -, -⟩ := o3.spot (k := 0) (by simp)
        have O3 := Lib.hid o3
        clear o3 g3 hat3 OO BW
        exact ⟨⟨k + 1, gg, cc, _, rfl, by omega, by go_num, Lib.hid PM.out.symm, O3, B3⟩, by simp [intOf]; omega⟩
      · obtain rfl : os = pre ++ [p] := by simpa using hpp
        clear hpp
        have PM := Lib.hid (PX.out.trans (push_snoc pre p ⟨x, y⟩))
        clear PX
        have hN : (pre ++ [p]).length = pre.length + 1 := by simp
        have HL := Lib.hid hN
        have hcap := capCross OO.out
        generalize (pre ++ [p]).length = N at OO hN hos hcap ⊢
        have e1 : IntKind.i64.wrap ((N : Int) - 1) = (pre.length : Int) := by rw [IntWalk.i64_in _ (by omega)]; omega
        have hm0 : decide (0 < N) = true := decide_eq_true (by omega)
        have hm1 : (pre.length : Int) < (N : Int) := by omega
        have hm2 : (pre.length : Int) ≤ (c2 : Int) := by omega
        have hm3 : (0 : Int) ≤ (pre.length : Int) := by omega
        have HN := Lib.hid hN
        have HC := Lib.hid hcap
        clear hN hcap
        obtain ⟨a, d⟩ := p
        go_wp2_with fail
        refine (CK.out _ (O.out.below BW.out)).mono ?_
        rintro e w1 ⟨rfl, b1⟩
        have hbs := b1.size
        have B1 := Lib.hid (BW.out.trans (b1.mono BW.out.size))
        have O1 := Lib.hid (OO.out.below b1)
        clear b1 OO BW CK
        obtain ⟨r0, r1⟩ := LC.out _ B1.out
        have hsz := B1.out.size
        have OD := Lib.hid (fun q => O1.out.below (below_drewN (Below.refl _ _) q))
        obtain ⟨p0, p1⟩ := last_cells O1.out
        dsimp only at p0 p1
        by_cases hax : a = x
        rotate_left
        · have PM := Lib.hid (show redTo ls (k + 1) = pre ++ [⟨a, d⟩] ++ [⟨x, y⟩] by rw [PM.out, if_neg (by simp [undoes, hax])])
          have hbe : (a == x) = false := by simpa using hax
          clear hax
          go_wp2
          go_quiet (fail)
          have F_ := Lib.hid (show (w1.drewN nq).cell? ⟨gl, k * 2, none⟩ = some (.int .i64 x) ∧ (w1.drewN nq).cell? ⟨gl, k * 2 + 1, none⟩ = some (.bool y) ∧ OwnCross (w1.drewN nq) w.heap.size _ _ ∧ Below w.heap.size w (w1.drewN nq) from ⟨r0, r1, OD.out nq, below_drewN B1.out nq⟩)
          clear r0 r1 OD O1 B1 hsz hbs
          generalize w1.drewN nq = w2 at F_ ⊢
          obtain ⟨q0, q1, o_, b_⟩ := F_.out
          have OO := Lib.hid o_
          have BW := Lib.hid b_
          have hsz := b_.size
          clear o_ b_ F_
          go_wp2_with (at_builtin; refine wpList_rowsCross rfl (.tmp 56) (.tmp 61) rfl w.heap.size w2.heap.size (.slice (some ⟨g, 0, none⟩) N c2) _ (pre ++ [⟨a, d⟩]) [⟨x, y⟩] rfl rfl (OO.out.alloc _) (oneCross _ _ _ (Nat.le_refl _)) ?_ ?_ ?_; (simp at hos ⊢ <;> omega); (simp <;> omega); intro v3 w3 o3 g3 hat3)
          have B3 := Lib.hid (mineCross (BW.out.alloc hsz _) (by simp; omega) (OO.out.alloc _) g3)
          obtain ⟨gg, cc, rfl, -, -, -, -⟩ := o3.spot (k := 0) (by simp)
          have O3 := Lib.hid o3
          clear o3 g3 hat3 OO BW
          exact ⟨⟨k + 1, gg, cc, _, rfl, by omega, by go_num, Lib.hid PM.out.symm, O3, B3⟩, by simp [intOf]; omega⟩
        subst hax
        by_cases hdy : d = y
        · subst hdy
          have PM := Lib.hid (show redTo ls (k + 1) = pre ++ [⟨a, d⟩] ++ [⟨a, d⟩] by rw [PM.out, if_neg (by simp [undoes])])
          go_wp2
          go_quiet (fail)
          have F_ := Lib.hid (show (w1.drewN nq).cell? ⟨gl, k * 2, none⟩ = some (.int .i64 a) ∧ (w1.drewN nq).cell? ⟨gl, k * 2 + 1, none⟩ = some (.bool d) ∧ OwnCross (w1.drewN nq) w.heap.size _ _ ∧ Below w.heap.size w (w1.drewN nq) from ⟨r0, r1, OD.out nq, below_drewN B1.out nq⟩)
          clear r0 r1 OD O1 B1 hsz hbs
          generalize w1.drewN nq = w2 at F_ ⊢
          obtain ⟨q0, q1, o_, b_⟩ := F_.out
          have OO := Lib.hid o_
          have BW := Lib.hid b_
          have hsz := b_.size
          clear o_ b_ F_
          go_wp2_with (at_builtin; refine wpList_rowsCross rfl (.tmp 56) (.tmp 61) rfl w.heap.size w2.heap.size (.slice (some ⟨g, 0, none⟩) N c2) _ (pre ++ [⟨a, d⟩]) [⟨a, d⟩] rfl rfl (OO.out.alloc _) (oneCross _ _ _ (Nat.le_refl _)) ?_ ?_ ?_; (simp at hos ⊢ <;> omega); (simp <;> omega); intro v3 w3 o3 g3 hat3)
          have B3 := Lib.hid (mineCross (BW.out.alloc hsz _) (by simp; omega) (OO.out.alloc _) g3)
          obtain ⟨gg, cc, rfl, -, -, -, -⟩ := o3.spot (k := 0) (by simp)
          have O3 := Lib.hid o3
          clear o3 g3 hat3 OO BW
          exact ⟨⟨k + 1, gg, cc, _, rfl, by omega, by go_num, Lib.hid PM.out.symm, O3, B3⟩, by simp [intOf]; omega⟩
        · have PM := Lib.hid (show redTo ls (k + 1) = pre by rw [PM.out, if_pos (by simp [undoes, hdy])])
          have hbe : (d == y) = false := by simpa using hdy
          clear hdy
          go_wp2
          go_quiet (fail)
          have F_ := Lib.hid (show (w1.drewN nq).cell? ⟨gl, k * 2, none⟩ = some (.int .i64 a) ∧ (w1.drewN nq).cell? ⟨gl, k * 2 + 1, none⟩ = some (.bool y) ∧ OwnCross (w1.drewN nq) w.heap.size _ _ ∧ Below w.heap.size w (w1.drewN nq) from ⟨r0, r1, OD.out nq, below_drewN B1.out nq⟩)
          clear r0 r1 OD O1 B1 hsz hbs
          generalize w1.drewN nq = w2 at F_ ⊢
          obtain ⟨q0, q1, o_, b_⟩ := F_.out
          have OO := Lib.hid o_
          have BW := Lib.hid b_
          have hsz := b_.size
          clear o_ b_ F_
          have O3 := Lib.hid (show OwnCross w2 w.heap.size (.slice (some ⟨g, 0, none⟩) pre.length c2) pre by have := lowCross (k := pre.length) OO.out (by simp); simpa using this)
          clear OO
          go_wp2
          exact ⟨⟨k + 1, g, c2, pre, rfl, by omega, by go_num, Lib.hid PM.out.symm, O3, BW⟩, by simp [intOf]; omega⟩
end Go.Proofs.Ytokgcchcjaimhaa
