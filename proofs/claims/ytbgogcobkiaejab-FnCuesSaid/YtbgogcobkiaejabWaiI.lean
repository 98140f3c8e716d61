/- The contracts of the program's hasCue, addWaited and waitedFor. Condition: the cues lie in a row of their own, twelve at most. -/
import Derived.Test.YtbgogcobkiaejabMapI
import Derived.Test.YtbgogcobkiaejabCueL
import Derived.Test.YtbgogcobkiaejabInR
import Derived.OwnWalk
namespace Go.Proofs.Ytbgogcobkiaejab
set_option linter.unusedVariables false
set_option linter.unusedSimpArgs false
open Go.RowKit Go.Maps

theorem hasCue_any (A : Option Addr) (n c : Nat) (i : Int) (w : World) (hn : n ≤ 2000000) :
    Calls Try.prog 40 #[.slice A n c, .int .i64 i] w fun e w' => e = .returned (.bool (inB i 0 ((n : Int) - 1))) ∧ w = w' := by
  have C1 := Lib.hid (fun W => (inRange_any i 0 ((n : Int) - 1) W).mono fun e w' h => (show _ ∧ W = w' from ⟨h.1, h.2.symm⟩))
  have en : IntKind.i64.wrap ((n : Int) - 1) = (n : Int) - 1 := IntWalk.i64_in _ (by omega)
  go_enter Try.func40, Try.ntmps40
  go_wp2_with (go_at_call 37; refine (C1.out _).mono ?_; rintro e w' ⟨rfl, rfl⟩)
  go_ret
  exact ⟨rfl, rfl⟩

/-- What addWaited leaves. -/
def WentPost (w w0 : World) (mb : Nat) (ls : List RCue) (i : Nat) (S : Nat → Bool) (e : Ending) (w' : World) : Prop :=
  e = .returned (.tuple #[]) ∧ ∃ T, SetM w' mb (cntP T ls.length) T ∧ Went ls i S T ∧ Below w0.heap.size w0 w'

set_option maxRecDepth 100000 in
set_option maxHeartbeats 3200000 in
theorem implAdd (w0 : World) (v : Value) (ls : List RCue) (b : Nat) (hO : OwnCue w0 b v ls) (hn : ls.length ≤ 12) (hl : bulkCue ls ≤ 1048576) (mb : Nat) (hm : w0.heap.size ≤ mb) :
    ∀ (f : Nat) (S : Nat → Bool) (i : Nat) (w : World), ls.length - cntP S ls.length = f → i < ls.length → SetM w mb (cntP S ls.length) S → (∀ k, S k = true → k < ls.length) → Below w0.heap.size w0 w →
      Calls Try.prog 53 #[.map (some mb), v, .int .i64 (i : Int)] w (WentPost w w0 mb ls i S) := by
  obtain ⟨A, cv, rfl⟩ := hO.slice
  have HO := Lib.hid hO
  have HM := Lib.hid hm
  have HC := Lib.hid (fun (x : Int) W => hasCue_any A ls.length cv x W (by omega))
  have RW := Lib.hid (fun k (h : k < ls.length) => (show ls[k].f1.length ≤ 2000000 by have := bulkCue_row ls k h; omega))
  clear hO hm hl
  intro f
  induction f using Nat.strongRecOn with
  | _ f ih =>
    intro S i w hf hi hS hlow hb
    have IH := Lib.hid ih
    have HS := Lib.hid hS
    have HB := Lib.hid hb
    have HF := Lib.hid hf
    have W0 := Lib.hid (went_start ls i hlow)
    clear ih hS hlow hf
    obtain ⟨g, cg, A1, c1, A2, c2, f1, -, ⟨-, x1, -⟩, ⟨o1, -⟩, -, -, -, -⟩ := HO.out.spot hi
    simp only [Value.slice.injEq] at f1
    obtain ⟨rfl, -, rfl⟩ := f1
    replace x1 := cell_below x1 hb
    have hr := RW.out i hi
    have hi0 : (0 : Int) ≤ (i : Int) := by omega
    have hi1 : (i : Int) < (ls.length : Int) := by omega
    have ZF := Lib.hid (getC hi)
    have O1 := Lib.hid o1
    clear o1 hb
    obtain ⟨zs, hz⟩ : ∃ zs, zs = ls[i].f1 := ⟨_, rfl⟩
    rw [← hz] at x1 hr O1
    have ZF := Lib.hid (show (ls.getD i RCue.zero).f1 = zs by rw [ZF.out, hz])
    clear hz
    go_enter Try.func53, Try.ntmps53
    go_wp2_with fail
    go_loopw [14] (fun jv wr => ∃ (j : Nat) (T : Nat → Bool), j ≤ zs.length ∧ jv = .int .i64 (j : Int) ∧ Hid (SetM wr mb (cntP T ls.length) T) ∧ Hid (WentTo ls i j S T) ∧ Hid (Below w0.heap.size w0 wr)) (fun jv _ => zs.length - (intOf jv).toNat)
    case atStart => exact ⟨0, S, by omega, rfl, HS, W0, HB⟩
    case round =>
      clear HS W0 HB x1
      obtain ⟨j, T, hj, rfl, ST, WT, BW⟩ := hrel
      by_cases hlt : j < zs.length
      rotate_left
      · obtain rfl : j = zs.length := by omega
        have F := Lib.hid (show Went ls i S T from (show WentTo ls i (ls.getD i RCue.zero).f1.length S T by rw [ZF.out]; exact WT.out).end_)
        go_wp2
        go_end0
        exact ⟨rfl, T, ST.out, F.out, BW.out⟩
      have hj0 : (0 : Int) ≤ (j : Int) := by omega
      have hj1 : (j : Int) < (zs.length : Int) := by omega
      obtain ⟨g1, _, f1, -, -, z0, -⟩ := (O1.out.below BW.out).spot hlt
      simp only [Value.slice.injEq] at f1
      obtain ⟨rfl, -, rfl⟩ := f1
      have EX := Lib.hid (show (ls.getD i RCue.zero).f1.getD j 0 = zs[j] by rw [ZF.out, List.getD_eq_getElem?_getD, List.getElem?_eq_getElem hlt]; rfl)
      have JL := Lib.hid (show j < (ls.getD i RCue.zero).f1.length by rw [ZF.out]; exact hlt)
      generalize zs[j] = x at z0 EX
      have H1 := Lib.hid (fun W => HC.out x W)
      cases hin : inB x 0 ((ls.length : Int) - 1) with
      | false =>
        have W2 := Lib.hid (WT.out.skip fun k hk e => by rw [EX.out] at e; rw [inB_yes (by omega)] at hin; cases hin)
        rw [hin] at H1
        clear hin WT
        go_wp2_with (go_at_call 40; refine (H1.out _).mono ?_; rintro e w' ⟨rfl, rfl⟩)
        exact ⟨⟨j + 1, T, by omega, by go_num, ST, W2, BW⟩, by simp [intOf]; omega⟩
      | true =>
        have hx : 0 ≤ x ∧ x ≤ (ls.length : Int) - 1 := by simpa [inB] using hin
        rw [hin] at H1
        obtain ⟨k, rfl⟩ := Int.eq_ofNat_of_zero_le hx.1
        have hk : k < ls.length := by omega
        have LK := ST.out.look (k := k) (by omega)
        clear hx hin
        cases ht : T k with
        | true =>
          have W2 := Lib.hid (WT.out.skip fun q hq e => (show T q = true by rw [EX.out] at e; rw [show q = k by omega]; exact ht))
          rw [ht] at LK
          clear ht WT
          go_wp2_with (go_at_call 40; refine (H1.out _).mono ?_; rintro e w' ⟨rfl, rfl⟩)
          exact ⟨⟨j + 1, T, by omega, by go_num, ST, W2, BW⟩, by simp [intOf]; omega⟩
        | false =>
          have CM := cntP_mark T k ht ls.length
          rw [if_pos hk] at CM
          have CL := cntP_le (mark T k) ls.length
          rw [ht] at LK
          have LW := Lib.hid (show ∀ q, mark T k q = true → q < ls.length from fun q hq => by
            simp only [mark, Bool.or_eq_true, decide_eq_true_eq] at hq
            rcases hq with rfl | c
            · exact hk
            · exact WT.out.low q c)
          have DN := Lib.hid (fun U (g : Went ls k (mark T k) U) => WT.out.down hi JL.out hk EX.out g)
          have CS : cntP S ls.length ≤ cntP T ls.length := cntP_more (fun q h => WT.out.more q h) _
          have FU := Lib.hid (show ls.length - cntP (mark T k) ls.length < f by have := HF.out; omega)
          have HX := Lib.hid (show ∀ U, SetM U mb (cntP T ls.length + 1) (mark T k) → SetM U mb (cntP (mark T k) ls.length) (mark T k) from fun U h => by rw [CM]; exact h)
          have hcn : cntP T ls.length < 4096 := by omega
          have hbw := BW.out.size
          clear ht WT CM CL CS
          go_wp2_with (first | (go_at_call 40; refine (H1.out _).mono ?_; rintro e w' ⟨rfl, rfl⟩) | (at_mapUpdate; refine wpList_markM rfl _ _ rfl mb _ k T rfl rfl ST.out (by omega) hcn ?_; intro w2 s2 g2))
          have S2 := Lib.hid (HX.out _ s2)
          have B2 := Lib.hid (BW.out.grown g2 hbw (fun q hq => by have := Option.some.inj hq; have := HM.out; omega))
          clear s2 g2 ST BW
          refine (IH.out _ FU.out (mark T k) k _ rfl hk S2.out LW.out B2.out).mono ?_
          rintro e w3 ⟨rfl, U, s3, g3, b3⟩
          have S3 := Lib.hid s3
          have W3 := Lib.hid (DN.out U g3)
          have B3 := Lib.hid b3
          clear s3 g3 b3
          go_wp2
          exact ⟨⟨j + 1, U, by omega, by go_num, S3, W3, B3⟩, by simp [intOf]; omega⟩

set_option maxRecDepth 100000 in
/-- The keys are the cues for which cue i waits. -/
theorem implWtd (v : Value) (ls : List RCue) (b : Nat) (w : World) (hO : OwnCue w b v ls) (hn : ls.length ≤ 12) (hl : bulkCue ls ≤ 1048576) (i : Nat) (hi : i < ls.length) :
    Calls Try.prog 39 #[v, .int .i64 (i : Int)] w fun e w' => ∃ (mb n : Nat) (T : Nat → Bool), e = .returned (.map (some mb)) ∧ SetM w' mb n T ∧ (∀ k, T k = true ↔ Waits ls i k) ∧ Below w.heap.size w w' := by
  have CA := Lib.hid (implAdd w v ls b hO hn hl w.heap.size (Nat.le_refl _) _ (fun _ => false) i (w.alloc (.map #[] 0)) rfl hi (by rw [cntP_none]; exact setM_made w) (fun k h => by cases h) ((Below.refl _ _).alloc (Nat.le_refl _) _))
  obtain ⟨A, c, rfl⟩ := hO.slice
  have hmm := @run_makeMap Try.prog
  clear hO
  go_enter Try.func39, Try.ntmps39
  go_wp2_with fail
  refine CA.out.mono ?_
  rintro e w2 ⟨rfl, T, s2, g2, b2⟩
  have F := Lib.hid (show ∃ (mb n : Nat) (T : Nat → Bool), Ending.returned (.map (some w.heap.size)) = .returned (.map (some mb)) ∧ SetM w2 mb n T ∧ (∀ k, T k = true ↔ Waits ls i k) ∧ Below w.heap.size w w2 from ⟨_, _, T, rfl, s2, g2.found, b2⟩)
  clear s2 g2 b2
  go_wp2
  go_ret
  exact F.out
end Go.Proofs.Ytbgogcobkiaejab
