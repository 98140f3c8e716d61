/- The contracts of spec.CircleIn, CuesOk, WaitsFor and FreeCues. Condition: the cues lie in a row of their own. -/
import Derived.Test.YtbgogcobkiaejacPk3
import Derived.Test.YtbgogcobkiaejacPk8
import Derived.Test.YtbgogcobkiaejacRisS
import Derived.Test.YtbgogcobkiaejacPk5
import Derived.BigQuiet
namespace Go.Proofs.Ytbgogcobkiaejac
set_option linter.unusedVariables false
set_option linter.unusedSimpArgs false
open Go.RowKit

set_option maxRecDepth 100000 in
set_option maxHeartbeats 1600000 in
theorem specCirc (v : Value) (ls : List RCue) (b : Nat) (w : World) (h : OwnCue w b v ls) (hl : bulkCue ls ≤ 1048576) :
    Calls Try.prog 70 #[v] w (IntsPost w (circleIn ls)) := by
  obtain ⟨A, c, rfl⟩ := h.slice
  have O := Lib.hid h
  clear h
  have E0 := Lib.hid (ownI_empty w w.heap.size w.heap.size #[] rfl (Nat.le_refl _) rfl)
  have B0 := Lib.hid ((Below.refl w.heap.size w).alloc (Nat.le_refl _) (.cells #[] 3))
  have hbl := bulkCue_len ls
  by_cases hn : ls.length ≤ 12
  rotate_left
  · have R := Lib.hid (show circleIn ls = [] by unfold circleIn; rw [if_neg hn])
    have h12 : (12 : Int) < (ls.length : Int) := by omega
    go_enter Try.func70, Try.ntmps70
    go_wp2
    go_ret
    exact ⟨_, rfl, by rw [R.out]; exact E0.out, B0.out⟩
  have h12 : ¬ (12 : Int) < (ls.length : Int) := by omega
  have R := Lib.hid (show circleIn ls = circTo ls ls.length by unfold circleIn; rw [if_pos hn])
  have WS := Lib.hid (specWaits _ ls b _ (O.out.alloc (.cells #[] 3)) hn hl)
  have WL := Lib.hid (show (natI (waitSet ls)).length = ls.length by rw [natI_len, waitSet_len])
  have PS := Lib.hid (fun k (hk : k < ls.length) => (show (waitSet ls).getD k 0 < 4096 by have := close_lt ls (m := ls.length) (Nat.le_refl _) hk; have := pow_small hn; unfold waitSet; omega))
  have CM := Lib.hid (fun k => (show circTo ls (k + 1) = if ((waitSet ls).getD k 0).testBit k = true then circTo ls k ++ [(k : Int)] else circTo ls k from rfl))
  go_enter Try.func70, Try.ntmps70
  go_wp2_with fail
  refine WS.out.mono ?_
  rintro e w1 ⟨vw, rfl, o1, b1⟩
  obtain ⟨W, cw, ew⟩ := o1.slice
  rw [WL.out] at ew
  subst ew
  have W1 := Lib.hid o1
  have E1 := Lib.hid (E0.out.below b1)
  have B1 := Lib.hid (B0.out.trans (b1.mono (by simp)))
  have SEP := Lib.hid (fun q hq => (o1.lt q hq).1)
  simp only [World.size_alloc] at SEP
  clear o1 b1 WS E0 B0
  go_wp2_with fail
  go_loopw [3, 5] (fun ov iv wr => ∃ (k : Nat) (vo : Value), vo = ov ∧ k ≤ ls.length ∧ iv = .int .i64 (k : Int) ∧ Hid (OwnI wr w.heap.size vo (circTo ls k)) ∧ Hid (OwnI wr (w.heap.size + 1) (.slice W ls.length cw) (natI (waitSet ls))) ∧ Hid (vo.ownBlock = none ∨ vo.ownBlock ≠ (Value.slice W ls.length cw).ownBlock) ∧ Hid (Below w.heap.size w wr)) (fun _ iv _ => ls.length - (intOf iv).toNat)
  case atStart => exact ⟨0, _, rfl, by omega, rfl, E1, Lib.hid (by simpa using W1.out), Lib.hid (sep_of fun q e1 e2 => by have := SEP.out q e2; have e : w.heap.size = q := Option.some.inj e1; omega), B1⟩
  case round =>
    clear E1 W1 B1
    obtain ⟨k, vo, rfl, hk, rfl, OO, OW, SE, BW⟩ := hrel
    by_cases hlt : k < ls.length
    rotate_left
    · obtain rfl : k = ls.length := by omega
      have F := Lib.hid (R.out ▸ OO.out)
      go_wp2
      go_ret
      exact ⟨_, rfl, F.out, BW.out⟩
    have hk0 : (0 : Int) ≤ (k : Int) := by omega
    have hk1 : (k : Int) < (ls.length : Int) := by omega
    obtain ⟨gw, _, f1, -, -, z0, -⟩ := OW.out.spot (k := k) (by rw [WL.out]; exact hlt)
    simp only [Value.slice.injEq] at f1
    obtain ⟨rfl, -, -⟩ := f1
    rw [natI_at _ (by rw [waitSet_len]; exact hlt)] at z0
    have hs := PS.out k hlt
    have NX := Lib.hid (CM.out k)
    have ebit := bit_nat2 ((waitSet ls).getD k 0) k (by omega) (by omega)
    have hcl := circTo_len ls k
    have hbs := BW.out.size
    generalize (waitSet ls).getD k 0 = s at z0 ebit NX hs
    by_cases cb : s.testBit k = true
    · rw [if_pos cb] at ebit
      have N2 := Lib.hid (show circTo ls (k + 1) = circTo ls k ++ [(k : Int)] by rw [NX.out, if_pos cb])
      have ON := Lib.hid (oneI wr wr.heap.size (k : Int) (Nat.le_refl _))
      clear NX cb
      go_wp2_with (at_builtin; refine wpList_rowsI rfl (.tmp 27) (.tmp 29) rfl w.heap.size wr.heap.size _ _ (circTo ls k) [(k : Int)] rfl rfl (OO.out.alloc _) ON.out ?_ ?_ ?_; (simp <;> omega); (simp <;> omega); intro v2 w2 o2 g2 hat2)
      have B2 := Lib.hid (madeR (BW.out.alloc hbs _) (by simp; omega) (OO.out.alloc _) g2)
      have O2 : Hid (OwnI w2 w.heap.size v2 (circTo ls (k + 1))) := Lib.hid (N2.out ▸ o2)
      have W2 := Lib.hid ((OW.out.alloc _).kept g2 (sep_flip SE.out))
      have S2 := Lib.hid (show v2.ownBlock = none ∨ v2.ownBlock ≠ (Value.slice (some ⟨gw, 0, none⟩) ls.length cw).ownBlock from by
        rcases hat2 with q | q
        · rw [q]; exact SE.out
        · rw [q]; exact sep_of fun x e1 e2 => by have := (OW.out.lt x e2).2; have := Option.some.inj e1; simp at this; omega)
      exact ⟨⟨k + 1, v2, rfl, by omega, by go_num, O2, W2, S2, B2⟩, by simp [intOf] <;> omega⟩
    · rw [if_neg cb] at ebit
      have N2 := Lib.hid (show circTo ls (k + 1) = circTo ls k by rw [NX.out, if_neg cb])
      clear NX cb
      go_wp2
      exact ⟨⟨k + 1, vo, rfl, by omega, by go_num, Lib.hid (by rw [N2.out]; exact OO.out), OW, SE, BW⟩, by simp [intOf] <;> omega⟩
end Go.Proofs.Ytbgogcobkiaejac
