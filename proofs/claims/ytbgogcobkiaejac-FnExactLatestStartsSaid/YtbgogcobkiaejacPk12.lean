/- Texts of this seat laid together, each with its own first sentence below: BkwI TijI. -/
import Derived.Test.YtbgogcobkiaejacPk11
import Derived.Test.YtbgogcobkiaejacPk9
import Derived.RangeFuncLeaves
import Derived.RangeFuncNested
import Derived.RangeFuncBound
import Derived.RangeFuncCalls
import Derived.Shelf.Abstract
import Derived.Shelf.RegionOpen
import Derived.WalkKit
import Derived.OwnWalkIn
import Derived.TacticsInMore
import Derived.LoopNIn
import Derived.LoopIn
import Derived.Deep.RegionHeld3
/- The contract of the library's slices.Backward at a row of numbers: the function value that it hands back goes through the row from the end. Condition: the row is not empty. -/
namespace Go.Proofs.Ytbgogcobkiaejac
set_option linter.unusedVariables false
set_option linter.unusedSimpArgs false
open Go.RowKit
attribute [local go_sem] Oper.semAt_some

/-- What has come when k rounds are over. -/
def uptoB {α : Type} (f : Nat → α) (k : Nat) : List α := (List.range k).map f
theorem upto_snoc {α : Type} (f : Nat → α) (k : Nat) : uptoB f (k + 1) = uptoB f k ++ [f k] := by simp [uptoB, List.range_succ]
theorem upto_length {α : Type} (f : Nat → α) (k : Nat) : (uptoB f k).length = k := by simp [uptoB]

set_option maxRecDepth 100000 in
set_option maxHeartbeats 1600000 in
theorem back_call {α : Type} (f : Nat → α) (encs : α → Array Value) (n l Bs g cap : Nat) (zs : List Int) (hn : 1 ≤ n) (hl : zs.length ≤ 2000000) (he : ∀ k i, k + (i + 1) = zs.length → encs (f k) = #[.int .i64 (i : Int), .int .i64 (zs.getD i 0)]) (J Jx : List α → World → Prop)
    (hY : ∀ pre x W, J pre W → pre.length < zs.length → YieldAt Fence.wide (n - 1) Try.prog l (encs x) W fun e W' =>
      (e = .returned (.bool true) ∧ J (pre ++ [x]) W' ∧ Keep2 g Bs W W') ∨ (e = .returned (.bool false) ∧ Jx (pre ++ [x]) W'))
    (W : World) (hBs : W.cell? ⟨Bs, 0, none⟩ = some (.slice (some ⟨g, 0, none⟩) zs.length cap)) (hc : ∀ j, j < zs.length → W.cell? ⟨g, j, none⟩ = some (.int .i64 (zs.getD j 0))) (h0 : J [] W) :
    CallsIn Fence.wide n Try.prog 63 #[.func (.yield l) #[] #[], .pointer (some ⟨Bs, 0, none⟩)] W fun e W' => (∃ v, e = .returned v) ∧ ((∃ ys, ys = uptoB f zs.length ∧ J ys W') ∨ (∃ pre, True ∧ Jx pre W')) := by
  have HBs := Lib.hid (fun W' (hk : Keep2 g Bs W W') => hk _ _ (.inr rfl) hBs)
  have HC := Lib.hid (fun W' (hk : Keep2 g Bs W W') j hj => hk _ _ (.inl rfl) (hc j hj))
  have HY := Lib.hid hY
  have HE := Lib.hid he
  have H0 := Lib.hid h0
  have KR := Lib.hid (Keep2.refl g Bs W)
  have hw : IntKind.i64.wrap ((zs.length : Int) - 1) = (zs.length : Int) - 1 := IntWalk.i64_in _ (by omega)
  clear hc hY he h0
  refine callsIn_of_wp Try.func63 rfl trivial ?_ rfl
  simp only [Try.ntmps63, List.size_toArray, List.length_cons, List.length_nil, Nat.reduceAdd, Nat.reduceSub, Array.replicate_succ, Array.replicate_zero, List.push_toArray, List.append_toArray, List.nil_append, List.cons_append]
  gi_wp2
  gi_loopw [3] (fun i wr => ∃ (m : Nat) (x : Int), m ≤ zs.length ∧ x + 1 = (m : Int) ∧ i = .int .i64 x ∧ Hid (J (uptoB f (zs.length - m)) wr) ∧ Hid (Keep2 g Bs W wr)) (fun i _ => (intOf i + 1).toNat)
  case atStart => exact ⟨zs.length, (zs.length : Int) - 1, by omega, by omega, rfl, by rw [Nat.sub_self]; exact H0, KR⟩
  case round =>
    clear hBs H0 KR hw
    obtain ⟨m, xi, hm, hx, rfl, HJ, KK⟩ := hrel
    have hbs := HBs.out _ KK.out
    rcases m with _ | i
    · obtain rfl : xi = -1 := by omega
      rw [Nat.sub_zero] at HJ
      gi_wp2
      go_end0
      exact ⟨⟨_, rfl⟩, .inl ⟨_, rfl, HJ.out⟩⟩
    obtain rfl : xi = (i : Int) := by omega
    have hi0 : (0 : Int) ≤ (i : Int) := by omega
    have hi1 : (i : Int) < (zs.length : Int) := by omega
    have hcc := HC.out _ KK.out i (by omega)
    obtain ⟨fn, tmps, assign, body, hy, hR⟩ := HY.out _ (f (zs.length - (i + 1))) wr HJ.out (by rw [upto_length]; omega)
    rw [HE.out (zs.length - (i + 1)) i (by omega)] at hy
    have US := Lib.hid (show uptoB f (zs.length - (i + 1)) ++ [f (zs.length - (i + 1))] = uptoB f (zs.length - i) by rw [show zs.length - i = zs.length - (i + 1) + 1 by omega, upto_snoc])
    have ei : IntKind.i64.wrap ((i : Int) - 1) = (i : Int) - 1 := IntWalk.i64_in _ (by omega)
    generalize zs.getD i 0 = z at hcc hy
    gi_wp2
    refine hR.mono ?_
    rintro e W3 (⟨rfl, hJ3, hk3⟩ | ⟨rfl, hJx3⟩)
    · have J3 := Lib.hid (US.out ▸ hJ3)
      have K3 := Lib.hid (KK.out.trans hk3)
      clear hJ3 hk3 hy hR hcc hbs
      gi_wp2
      go_roundw
      case rel => exact ⟨i, (i : Int) - 1, by omega, by omega, rfl, J3, K3⟩
      case measure => simp [intOf]
    · gi_wp2
      refine bodyPost_ret (results_none rfl _ _ _) rfl ?_
      exact ⟨⟨_, rfl⟩, .inr ⟨_, trivial, hJx3⟩⟩

set_option maxHeartbeats 800000 in
theorem back_make (a : Option Addr) (len cap : Nat) (w : World) :
    Calls Try.prog 42 #[.slice a len cap] w fun e w' => e = .returned (.func (.func 63) #[] #[.pointer (some ⟨w.heap.size, 0, none⟩)]) ∧ w' = w.alloc (.cells #[.slice a len cap] 26) := by
  go_enter Try.func42, Try.ntmps42
  go_wp2
  go_ret
  exact ⟨rfl, rfl⟩

theorem back_stops {α : Type} (f : Nat → α) (encs : α → Array Value) (n Bs g cap : Nat) (zs : List Int) (hn : 1 ≤ n) (hl : zs.length ≤ 2000000) (he : ∀ k i, k + (i + 1) = zs.length → encs (f k) = #[.int .i64 (i : Int), .int .i64 (zs.getD i 0)])
    (w : World) (hBs : w.cell? ⟨Bs, 0, none⟩ = some (.slice (some ⟨g, 0, none⟩) zs.length cap)) (hc : ∀ j, j < zs.length → w.cell? ⟨g, j, none⟩ = some (.int .i64 (zs.getD j 0))) :
    SeqStopsK Fence.wide n Try.prog 63 #[.pointer (some ⟨Bs, 0, none⟩)] encs (Keep2 g Bs) (fun ys => ys = uptoB f zs.length) (fun _ => True) zs.length w := fun l J Jx W hW _ _ hY h0 =>
  back_call f encs n l Bs g cap zs hn hl he J Jx hY W (cell_below hBs hW) (fun j hj => cell_below (hc j hj) hW) h0
end Go.Proofs.Ytbgogcobkiaejac

/- The contract of the program's LatestStarts (made by gen_tij.py): it answers as the model does. Condition: the cues lie in a row of their own. -/
namespace Go.Proofs.Ytbgogcobkiaejac
set_option linter.unusedVariables false
set_option linter.unusedSimpArgs false
open Go.RowKit
attribute [local go_sem] Oper.semAt_some

def encB {ls : List RCue} (x : PairL ls) : Array Value := #[.int .i64 (x.1.1 : Int), .int .i64 (x.1.2 : Int)]
theorem enc_back {ls : List RCue} (hok : cuesOk ls = true) : ∀ k i, k + (i + 1) = (cueOrder ls).length → encB (backAt hok k) = #[.int .i64 (i : Int), .int .i64 ((cueOrder ls).getD i 0)] := by
  intro k i h
  rw [order_len hok] at h
  have e : ls.length - 1 - k = i := by omega
  unfold encB backAt
  simp only [e]
  rw [List.getD_eq_getElem?_getD, order_at hok (by omega)]
  rfl

set_option maxRecDepth 100000 in
set_option maxHeartbeats 6400000 in
theorem implLat1 (v : Value) (ls : List RCue) (b : Nat) (w : World) (h : OwnCue w b v ls) (hl : bulkCue ls ≤ 1048576) (hok : cuesOk ls = true) :
    Calls Try.prog 13 #[v] w (IntsPost w (latestStarts ls)) := by
  obtain ⟨i0, hi0, hz0, hz1, hz2⟩ := info_parts info_int
  have CK := Lib.hid (hok ▸ implCOk v ls b (w.alloc (.cells #[v] 24)) (h.alloc _) hl)
  have CP := Lib.hid (fun W h => implPla v ls b W h hl)
  have CO := Lib.hid (fun W h => implOrd v ls b W h hl)
  have hn := (cuesOk_has hok).1
  have HOK := Lib.hid hok
  have OLH := Lib.hid (show (cueOrder ls).length = ls.length from order_len hok)
  have CR := Lib.hid (fun z W v b h => repeat_any ls.length hn.1 hn.2 v z b W h)
  have RA := Lib.hid (run_all hok)
  have EB := Lib.hid (enc_back hok)
  have RL := Lib.hid (run_len ls (playTime ls))
  obtain ⟨A, c, rfl⟩ := h.slice
  have O := Lib.hid h
  have BX := Lib.hid (show ∀ W, Below (w.alloc (.cells #[.slice A ls.length c] 24)).heap.size (w.alloc (.cells #[.slice A ls.length c] 24)) W → W.cell? ⟨w.heap.size, 0, none⟩ = some (.slice A ls.length c) from fun W hb => cell_below (by simp [go_sem]) hb)
  have LB := Lib.hid (show ∀ W, Below w.heap.size w W → OwnCue W b (.slice A ls.length c) ls from fun W hb => O.out.below hb)
  clear h
  refine callsIn_wide.1 (callsIn_of_wp_marks (n := 9) Try.func13 rfl trivial (wpIn_wide.2 ?_) rfl)
  simp only [Try.ntmps13, List.size_toArray, List.length_cons, List.length_nil, Nat.reduceAdd, Nat.reduceSub, Array.replicate_succ, Array.replicate_zero, List.push_toArray, List.append_toArray, List.nil_append, List.cons_append]
  go_wp2_with fail
  refine CK.out.mono ?_
  rintro e w1 ⟨rfl, b1⟩
  have B1 := Lib.hid ((Below.refl w.heap.size w).alloc (Nat.le_refl _) (.cells #[.slice A ls.length c] 24) |>.trans (b1.mono (by simp)))
  have x1 := BX.out _ b1
  have hs1 := B1.out.size
  have hb1 : w.heap.size < w1.heap.size := by have := b1.size; simp at this; omega
  clear b1 CK BX
  go_wp2_with (
    refine wpList_make_full _ rfl _ _ 26 rfl w1.heap.size 3 i0 (.int .i64 0) 1 Try.underlying26 hi0 hz0 hz1 .i64 .i64 _ _ ls.length rfl rfl rfl rfl (by rw [hz2]; omega) (by simp only [maxLen]; omega) (by simp) ?_
    intro w2 own2 grown2
    have P2 := Lib.hid ((madeZero own2).mono hs1)
    have B2 := Lib.hid (B1.out.trans ((below_of_grown grown2).mono hs1))
    have X2 := Lib.hid (cell_below x1 (below_of_grown grown2))
    have hs2 : w1.heap.size < w2.heap.size := ((madeZero own2).lt _ rfl).2
    clear own2 grown2 x1)
  rename_i K hK
  have REST : ∀ (g1 g3 g4 ge ce : Nat) (W : World) (t15 t16 t17 t18 t19 t20 : Value), g1 = w1.heap.size → g3 = w2.heap.size → LatA w.heap.size g1 g3 g4 ge → LatW w w.heap.size g1 g3 g4 ge ls.length ce (.slice A ls.length c) W (List.replicate ls.length 0, List.replicate ls.length (playTime ls)) → K { tmps := #[.slice A ls.length c, .pointer (some ⟨w.heap.size, 0, none⟩), .slice none 0 0, .pointer (some ⟨g3, 0, none⟩), .pointer (some ⟨g4, 0, none⟩), undef, undef, undef, undef, .slice A ls.length c, .bool true, .bool false, .slice A ls.length c, .int .i64 (ls.length : Int), .slice (some ⟨g1, 0, none⟩) ls.length ls.length, t15, t16, t17, t18, t19, t20, undef, undef, undef, undef, undef, undef, undef, undef, undef, undef, undef, undef, undef, undef, undef, undef, undef, undef, undef, undef, undef, undef, undef, undef, undef, undef, undef, undef, undef, undef, undef, undef, undef, undef, undef, undef, undef, undef, undef, undef, undef, undef], defers := [] } W := by
    intro g1 g3 g4 ge ce W t15 t16 t17 t18 t19 t20 hg1 hg3 AP L0
    refine hK _ _ ?_
    have L1 := Lib.hid L0
    have l0 := L0.lst
    have HA := Lib.hid AP
    clear hK K hg1 hg3 L0 AP P2 B2 X2 B1 CP
    go_wp2_with fail
    refine (CO.out _ (LB.out _ L1.out.be)).mono ?_
    rintro e w4 ⟨vo, rfl, o4, b4⟩
    obtain ⟨Z, co, e3⟩ := o4.slice
    rw [OLH.out] at e3
    subst e3
    obtain ⟨gz, _, f1, hgz, -, -, -⟩ := o4.spot (k := 0) (by rw [OLH.out]; omega)
    simp only [Value.slice.injEq] at f1
    obtain ⟨rfl, -, rfl⟩ := f1
    have L4 := Lib.hid (L1.out.below b4)
    have O4 := Lib.hid o4
    have LT := Lib.hid (fun q hq => (show q < gz by have := L1.out.lt q hq; omega))
    have hgs : gz < w4.heap.size := (o4.lt gz rfl).2
    clear o4 b4 L1 CO l0
    go_wp2_with (go_at_call 42; refine (back_make _ _ _ _).mono ?_; rintro e w' ⟨rfl, rfl⟩)
    obtain ⟨W5, hW5⟩ : ∃ W5, w4.alloc (.cells #[.slice (some ⟨gz, 0, none⟩) ls.length co] 26) = W5 := ⟨_, rfl⟩
    have L5 := Lib.hid (show LatW w w.heap.size g1 g3 g4 ge ls.length ce (.slice A ls.length c) W5 (runB ls (playTime ls) []) from hW5 ▸ L4.out.below ((Below.refl w4.heap.size w4).alloc (Nat.le_refl _) _))
    have O5 := Lib.hid (show OwnI W5 W.heap.size (.slice (some ⟨gz, 0, none⟩) ls.length co) (cueOrder ls) from hW5 ▸ O4.out.alloc _)
    have hB5 : W5.cell? ⟨w4.heap.size, 0, none⟩ = some (.slice (some ⟨gz, 0, none⟩) ls.length co) := by rw [← hW5]; simp [go_sem]
    rw [hW5]
    obtain ⟨Bs, hBs⟩ : ∃ Bs, w4.heap.size = Bs := ⟨_, rfl⟩
    rw [hBs] at hB5 hgs ⊢
    have L0 := Lib.hid (fun q hq => L5.out.lt q hq)
    have hc : ∀ j, j < (cueOrder ls).length → W5.cell? ⟨gz, j, none⟩ = some (.int .i64 ((cueOrder ls).getD j 0)) := fun j hj => by
      obtain ⟨_, _, f1, -, -, y0, -⟩ := O5.out.spot hj
      simp only [Value.slice.injEq, Option.some.injEq, Addr.mk.injEq] at f1
      obtain ⟨⟨rfl, -⟩, -, -⟩ := f1
      rw [y0, List.getD_eq_getElem?_getD, List.getElem?_eq_getElem hj]
      rfl
    have hbe := L5.out.be.size
    clear hW5 hBs L4 O4 O5
    refine wpIn_wide.1 (wpIn_rangeFunc_ownF rfl (by omega) (gf := 63) (lb := #[.pointer (some ⟨Bs, 0, none⟩)]) rfl trivial (enters_of Try.func63 (by kernel_rfl) rfl)
      (back_stops (backAt HOK.out) encB (9 - 1) Bs gz co (cueOrder ls) (by omega) (by rw [OLH.out]; omega) EB.out W5 (by rw [OLH.out]; exact hB5) hc)
      Keep2.trans (fun W l o o' _ h ho _ => Keep2.put W l o o' h ho) (Below.refl _ _) (fun _ => rfl)
      (fun pre W => LatW w w.heap.size g1 g3 g4 ge ls.length ce (.slice A ls.length c) W (runB ls (playTime ls) pre)) (fun _ _ _ => False)
      (fun s A B row hs hg hr => hs.kept hg (fun r e => ⟨by have := (hr r e).1; omega, fun q hq e2 => by have := L0.out q hq; have := (hr r e).1; omega⟩))
      (fun _ _ _ _ _ hs _ _ => hs)
      L5.out
      (fun x => { tmps := #[.slice A ls.length c, .pointer (some ⟨w.heap.size, 0, none⟩), .slice none 0 0, .pointer (some ⟨g3, 0, none⟩), .pointer (some ⟨g4, 0, none⟩), undef, .int .i64 (x.1.2 : Int), undef, undef, .slice A ls.length c, .bool true, .bool false, .slice A ls.length c, .int .i64 (ls.length : Int), .slice (some ⟨g1, 0, none⟩) ls.length ls.length, t15, t16, t17, t18, t19, t20, .slice A ls.length c, .slice (some ⟨gz, 0, none⟩) ls.length co, .func (.func 63) #[] #[.pointer (some ⟨Bs, 0, none⟩)], .int .i64 (x.1.1 : Int), .int .i64 (x.1.2 : Int), undef, undef, undef, undef, undef, undef, undef, undef, undef, undef, undef, undef, undef, undef, undef, undef, undef, undef, undef, undef, undef, undef, undef, undef, undef, undef, undef, undef, undef, undef, undef, undef, undef, undef, undef, undef, undef], defers := [] }) ?assign ?body ?done ?stop)
    case assign =>
      intro l x W K hK
      unfold encB
      gi_wp2
      exact hK
    case stop =>
      rintro D c pre W _ _ h _
      exact h.elim
    case done =>
      rintro D ys W hD rfl hI hK
      rw [OLH.out] at hI
      have hI : LatW w w.heap.size g1 g3 g4 ge ls.length ce (.slice A ls.length c) W (runB ls (playTime ls) (backs HOK.out ls.length)) := hI
      have s3 := hI.sta
      have hDl := (Array.getElem?_eq_some_iff.1 hK).1
      have L9 := Lib.hid (hI.kept (grownBy_putObj' W D (.deferred none)) (fun r e => by cases e; exact ⟨by omega, fun q hq e2 => by have := L0.out q hq; omega⟩))
      clear hI
      go_wp2
      refine ⟨by simp, .inl ⟨_, _, rfl, run_takeDeferred hK, ?_⟩⟩
      exact ⟨_, results_tmp rfl _ _ _, _, rfl, by have := L9.out.rs; rw [RA.out] at this; exact this, L9.out.be⟩
    case body =>
      rintro l pre ⟨⟨xi, p⟩, hp'⟩ W hI hlen
      have hp : p < ls.length := hp'
      obtain ⟨hl1, hl2⟩ := RL.out pre
      have RS := Lib.hid (run_snoc ls (playTime ls) pre ⟨(xi, p), hp'⟩)
      obtain ⟨s', hs'⟩ : ∃ s', runB ls (playTime ls) (pre ++ [⟨(xi, p), hp'⟩]) = s' := ⟨_, rfl⟩
      rw [hs'] at RS
      have HS := Lib.hid hs'
      clear hs'
      generalize runB ls (playTime ls) pre = s at hI hl1 hl2 RS
      have hp0 : (0 : Int) ≤ (p : Int) := by omega
      have hp1 : (p : Int) < (ls.length : Int) := by omega
      have s0 := hI.lst
      have s3 := hI.sta
      have s4 := hI.eds
      obtain ⟨g, cg, A1, c1, A2, c2, f1, -, ⟨t0, x1, -⟩, ⟨o1, -⟩, -⟩ := O.out.spot hp
      simp only [Value.slice.injEq] at f1
      obtain ⟨rfl, -, rfl⟩ := f1
      have gA : ∀ (zs : List Int) t (ht : t < zs.length), zs[t] = zs.getD t 0 := fun zs t ht => by rw [List.getD_eq_getElem?_getD, List.getElem?_eq_getElem ht]; rfl
      have GA := Lib.hid gA
      obtain ⟨_, _, f1, -, -, u0, uf⟩ := hI.rs.spot (k := p) (by rw [hl1]; exact hp)
      simp only [Value.slice.injEq, Option.some.injEq, Addr.mk.injEq] at f1
      obtain ⟨⟨rfl, -⟩, -, -⟩ := f1
      obtain ⟨_, _, f1, -, -, v0, -⟩ := hI.re.spot (k := p) (by rw [hl2]; exact hp)
      simp only [Value.slice.injEq, Option.some.injEq, Addr.mk.injEq] at f1
      obtain ⟨⟨rfl, -⟩, -, -⟩ := f1
      rw [gA] at u0 v0
      have hed : ls.getD p RCue.zero = ls[p] := by rw [List.getD_eq_getElem?_getD, List.getElem?_eq_getElem hp]; rfl
      rw [← hed] at t0 x1 o1
      obtain ⟨y, hy⟩ : ∃ y, s.2.getD p 0 = y := ⟨_, rfl⟩
      obtain ⟨t, ht⟩ : ∃ t, (ls.getD p RCue.zero).f0 = t := ⟨_, rfl⟩
      obtain ⟨y1, hy1⟩ : ∃ y, s.1.getD p 0 = y := ⟨_, rfl⟩
      obtain ⟨z, hz⟩ : ∃ z, IntKind.i64.wrap (y - t) = z := ⟨_, rfl⟩
      obtain ⟨F, hF⟩ : ∃ F, (ls.getD p RCue.zero).f1.length = F := ⟨_, rfl⟩
      rw [hy] at v0
      rw [hy1] at u0
      rw [ht] at t0
      rw [hF] at x1
      have CF := Lib.hid ((cue_fine HOK.out hp).2)
      have PM := after_max HOK.out hp
      rw [hF] at CF PM
      have HF := Lib.hid hF
      have RS2 := Lib.hid (show s' = (s.1.set p z, pushTo ls p z s.2 F) by rw [RS.out, ← hz, ← hy, ← ht, ← hF]; rfl)
      have SET := Lib.hid (hI.setS HA.out hl1.symm p z)
      have hz2 : wrap64 (y - t) = z := (IntWalk.i64_left _).symm.trans hz
      have HL1 := Lib.hid (show (s.1.set p z).length = ls.length by rw [List.length_set]; exact hl1)
      have HL2 := Lib.hid (fun j => (show (pushTo ls p z s.2 j).length = ls.length by rw [push_len]; exact hl2))
      have ZZ := Lib.hid (show (s.1.set p z).getD p 0 = z from set_same (by rw [hl1]; exact hp))
      have T0 := Lib.hid t0
      have X1 := Lib.hid x1
      have OA := Lib.hid o1
      replace t0 := cell_below t0 hI.be
      have HBE := Lib.hid hI.be
      have NEB := Lib.hid (show g1 ≠ gz ∧ g1 ≠ Bs ∧ ge ≠ gz ∧ ge ≠ Bs by
        have q1 := LT.out g1 (by simp)
        have q2 := LT.out ge (by simp)
        omega)
      clear hy ht hy1 hF gA hed hl1 hl2 x1 o1 hI
      gi_wp2
      refine round_still_tail 13 (by kernel_rfl) (by kernel_rfl) (by kernel_rfl) (fun ⟨_, _, h⟩ => h) ?_
      simp only [List.take_succ_cons, List.take_zero, List.drop_succ_cons, List.drop_zero]
      repeat still_step
      try refine wpStill_nil ?_
      go_wp2
      have L7 := Lib.hid (SET.out.below (Below.refl _ _).drew)
      have KO := Lib.hid ((KeepsOthers.setCell W ⟨g1, p, none⟩ (.int .i64 z)).trans (KeepsOthers.drew _))
      have KP := Lib.hid (show Keep2 gz Bs W (W.setCell ⟨g1, p, none⟩ (.int .i64 z)).drew from (Keep2.grown (grown_cell W ⟨g1, p, none⟩ _) (fun e => NEB.out.1 (Option.some.inj e).symm) (fun e => NEB.out.2.1 (Option.some.inj e).symm)).trans (Keep2.grown (grown_of_below (Below.refl _ _).drew none) (by simp) (by simp)))
      generalize (W.setCell ⟨g1, p, none⟩ (.int .i64 z)).drew = W7 at L7 KO KP ⊢
      have s0 := L7.out.lst
      have x1 := cell_below X1.out L7.out.be
      clear SET s3 s4 t0 u0 uf v0 hz hz2
      gi_wp2
      gi_loopw [45] (fun jv wr => ∃ j : Nat, j ≤ F ∧ jv = .int .i64 (j : Int) ∧ Hid (LatW w w.heap.size g1 g3 g4 ge ls.length ce (.slice (some ⟨g, 0, none⟩) ls.length c) wr (s.1.set p z, pushTo ls p z s.2 j)) ∧ Hid (KeepsOthers W wr) ∧ Hid (Keep2 gz Bs W wr)) (fun jv _ => F - (intOf jv).toNat)
      case atStart => exact ⟨0, by omega, rfl, L7, KO, KP⟩
      case round =>
        clear L7 KO KP s0 x1
        obtain ⟨j, hj, rfl, LL, KO, KP⟩ := hrel
        by_cases hlj : j < F
        rotate_left
        · obtain rfl : j = F := by omega
          rw [← RS2.out] at LL
          clear hlj hj
          gi_wp2
          refine ⟨KO.out, KP.out, ?_⟩
          show LatW w w.heap.size g1 g3 g4 ge ls.length ce (.slice (some ⟨g, 0, none⟩) ls.length c) wr (runB ls (playTime ls) (pre ++ [⟨(xi, p), hp'⟩]))
          rw [HS.out]
          exact LL.out
        have hj0 : (0 : Int) ≤ (j : Int) := by omega
        have hj1 : (j : Int) < (F : Int) := by omega
        obtain ⟨q0, q1⟩ := CF.out j hlj
        obtain ⟨q, hq⟩ := Int.eq_ofNat_of_zero_le q0
        rw [hq] at q0 q1
        have s3 := LL.out.sta
        have s4 := LL.out.eds
        obtain ⟨ga, ca, e1, -, -, y0, -⟩ := (OA.out.below LL.out.be).spot (k := j) (by rw [HF.out]; exact hlj)
        simp only [Value.slice.injEq] at e1
        obtain ⟨rfl, -, rfl⟩ := e1
        rw [GA.out, hq] at y0
        have hql : q < ls.length := by omega
        obtain ⟨_, _, f1, -, -, u0, -⟩ := LL.out.rs.spot (k := p) (by rw [HL1.out]; exact hp)
        simp only [Value.slice.injEq, Option.some.injEq, Addr.mk.injEq] at f1
        obtain ⟨⟨rfl, -⟩, -, -⟩ := f1
        obtain ⟨_, _, f1, -, -, v0, vf⟩ := LL.out.re.spot (k := q) (by show q < (pushTo ls p z s.2 j).length; rw [HL2.out]; exact hql)
        simp only [Value.slice.injEq, Option.some.injEq, Addr.mk.injEq] at f1
        obtain ⟨⟨rfl, -⟩, -, -⟩ := f1
        rw [GA.out] at u0 v0
        replace u0 : wr.cell? ⟨g1, p, none⟩ = some (.int .i64 z) := by rw [u0]; exact congrArg (fun a => some (Value.int .i64 a)) ZZ.out
        replace v0 : wr.cell? ⟨ge, q, none⟩ = some (.int .i64 ((pushTo ls p z s.2 j).getD q 0)) := v0
        have NX := Lib.hid (show pushTo ls p z s.2 (j + 1) = (pushTo ls p z s.2 j).set q (if z < (pushTo ls p z s.2 j).getD q 0 then z else (pushTo ls p z s.2 j).getD q 0) by
          rw [pushTo]
          try simp only
          rw [show nm ls p j = q by unfold nm; rw [hq, Int.toNat_natCast]])
        have SET := LL.out.setE HA.out (HL2.out j).symm q (if z < (pushTo ls p z s.2 j).getD q 0 then z else (pushTo ls p z s.2 j).getD q 0)
        rw [← NX.out] at SET
        have S2 := Lib.hid SET
        clear SET NX hq LL
        generalize (pushTo ls p z s.2 j).getD q 0 = x at v0 S2
        have hq0 : (0 : Int) ≤ (q : Int) := by omega
        have hq1 : (q : Int) < (ls.length : Int) := by omega
        by_cases hzx : z < x
        · rw [if_pos hzx] at S2
          gi_wp2
          refine round_still_tail 12 (by kernel_rfl) (by kernel_rfl) (by kernel_rfl) (fun ⟨_, _, h⟩ => h) ?_
          simp only [List.take_succ_cons, List.take_zero, List.drop_succ_cons, List.drop_zero]
          repeat still_step
          try refine wpStill_nil ?_
          go_wp2
          have L8 := Lib.hid (S2.out.below (Below.refl _ _).drew)
          have KO8 := Lib.hid (KO.out.trans ((KeepsOthers.setCell wr ⟨ge, q, none⟩ (.int .i64 z)).trans (KeepsOthers.drew _)))
          have KP8 := Lib.hid (show Keep2 gz Bs W (wr.setCell ⟨ge, q, none⟩ (.int .i64 z)).drew from KP.out.trans ((Keep2.grown (grown_cell wr ⟨ge, q, none⟩ _) (fun e => NEB.out.2.2.1 (Option.some.inj e).symm) (fun e => NEB.out.2.2.2 (Option.some.inj e).symm)).trans (Keep2.grown (grown_of_below (Below.refl _ _).drew none) (by simp) (by simp))))
          generalize (wr.setCell ⟨ge, q, none⟩ (.int .i64 z)).drew = W8 at L8 KO8 KP8 ⊢
          clear S2 s3 s4 u0 v0 vf y0 KO KP
          gi_wp2
          go_roundw
          case rel => exact ⟨j + 1, by omega, by go_num, L8, KO8, KP8⟩
          case measure => simp [intOf]; omega
        · rw [if_neg hzx] at S2
          gi_wp2
          refine round_still_tail 12 (by kernel_rfl) (by kernel_rfl) (by kernel_rfl) (fun ⟨_, _, h⟩ => h) ?_
          simp only [List.take_succ_cons, List.take_zero, List.drop_succ_cons, List.drop_zero]
          repeat still_step
          try refine wpStill_nil ?_
          go_wp2
          have L8 := Lib.hid (S2.out.below (Below.refl _ _).drew)
          have KO8 := Lib.hid (KO.out.trans ((KeepsOthers.setCell wr ⟨ge, q, none⟩ (.int .i64 x)).trans (KeepsOthers.drew _)))
          have KP8 := Lib.hid (show Keep2 gz Bs W (wr.setCell ⟨ge, q, none⟩ (.int .i64 x)).drew from KP.out.trans ((Keep2.grown (grown_cell wr ⟨ge, q, none⟩ _) (fun e => NEB.out.2.2.1 (Option.some.inj e).symm) (fun e => NEB.out.2.2.2 (Option.some.inj e).symm)).trans (Keep2.grown (grown_of_below (Below.refl _ _).drew none) (by simp) (by simp))))
          generalize (wr.setCell ⟨ge, q, none⟩ (.int .i64 x)).drew = W8 at L8 KO8 KP8 ⊢
          clear S2 s3 s4 u0 v0 vf y0 KO KP
          gi_wp2
          go_roundw
          case rel => exact ⟨j + 1, by omega, by go_num, L8, KO8, KP8⟩
          case measure => simp [intOf]; omega
  obtain ⟨W3, hW3⟩ : ∃ W3, w2.alloc (.cells #[.slice (some ⟨w1.heap.size, 0, none⟩) ls.length ls.length] 26) = W3 := ⟨_, rfl⟩
  have hs3 : W3.heap.size = w2.heap.size + 1 := by rw [← hW3]; simp
  have bW3 : Below w2.heap.size w2 W3 := by rw [← hW3]; exact (Below.refl _ _).alloc (Nat.le_refl _) _
  have BASE := Lib.hid (show ∀ W', Below W3.heap.size W3 W' → W'.cell? ⟨w.heap.size, 0, none⟩ = some (.slice A ls.length c) ∧ W'.cell? ⟨w2.heap.size, 0, none⟩ = some (.slice (some ⟨w1.heap.size, 0, none⟩) ls.length ls.length) ∧ OwnI W' w.heap.size (.slice (some ⟨w1.heap.size, 0, none⟩) ls.length ls.length) (List.replicate ls.length 0) ∧ Below w.heap.size w W' from fun W' hb =>
    have hb2 : Below w2.heap.size w2 W' := bW3.trans (hb.mono (by omega))
    ⟨cell_below X2.out hb2, cell_below (by rw [← hW3]; simp [go_sem]) hb, P2.out.below hb2, B2.out.trans (hb2.mono B2.out.size)⟩)
  have HS3 := Lib.hid hs3
  clear hs3
  have ONE0 := Lib.hid (fun (W : World) => oneI W 0 (playTime ls) (Nat.zero_le _))
  have ONE1 := Lib.hid (show ∀ (W : World) (o : Obj), OwnI ((W.alloc o).alloc (.cells #[.int .i64 (playTime ls)] 3)) 0 (.slice (some ⟨W.heap.size + 1, 0, none⟩) 1 1) [playTime ls] from fun W o => by have := oneI (W.alloc o) 0 (playTime ls) (Nat.zero_le _); rwa [World.size_alloc] at this)
  have ONE2 := Lib.hid (show ∀ (W : World) (o : Obj), OwnI ((W.alloc (.cells #[.int .i64 (playTime ls)] 3)).alloc o) 0 (.slice (some ⟨W.heap.size, 0, none⟩) 1 1) [playTime ls] from fun W o => (oneI W 0 (playTime ls) (Nat.zero_le _)).alloc _)
  have D0 := Lib.hid ((Below.refl W3.heap.size W3).drew)
  have D1 := Lib.hid (fun o => (Below.refl W3.heap.size W3).drew.alloc (Nat.le_refl _) o)
  have BXA := Lib.hid (show Bx (W3.drew.alloc (.cells #[.slice none 0 0] 26)) W3.heap.size (.slice none 0 0) from Bx.new W3.drew (.slice none 0 0) 26)
  have BX2 := Lib.hid (fun (W : World) => (Bx.new W (.slice none 0 0) 26).alloc (.cells #[.int .i64 (playTime ls)] 3))
  have BX3 := Lib.hid (show ∀ W : World, Bx ((W.alloc (.cells #[.int .i64 (playTime ls)] 3)).alloc (.cells #[.slice none 0 0] 26)) (W.heap.size + 1) (.slice none 0 0) from fun W => by have := Bx.new (W.alloc (.cells #[.int .i64 (playTime ls)] 3)) (.slice none 0 0) 26; rwa [World.size_alloc] at this)
  have FIN := Lib.hid (show ∀ (g4 : Nat) (v6 u : Value) (w5 w6 : World) (t15 t16 t17 t18 t19 : Value), Below W3.heap.size W3 w5 → Below w5.heap.size w5 w6 → W3.heap.size ≤ g4 → v6.ownBlock ≠ some g4 → OwnI w6 w5.heap.size v6 (List.replicate ls.length (playTime ls)) → Bx w6 g4 u → K { tmps := #[.slice A ls.length c, .pointer (some ⟨w.heap.size, 0, none⟩), .slice none 0 0, .pointer (some ⟨w2.heap.size, 0, none⟩), .pointer (some ⟨g4, 0, none⟩), undef, undef, undef, undef, .slice A ls.length c, .bool true, .bool false, .slice A ls.length c, .int .i64 (ls.length : Int), .slice (some ⟨w1.heap.size, 0, none⟩) ls.length ls.length, t15, t16, t17, t18, t19, v6, undef, undef, undef, undef, undef, undef, undef, undef, undef, undef, undef, undef, undef, undef, undef, undef, undef, undef, undef, undef, undef, undef, undef, undef, undef, undef, undef, undef, undef, undef, undef, undef, undef, undef, undef, undef, undef, undef, undef, undef, undef, undef], defers := [] } (w6.setCell ⟨g4, 0, none⟩ v6) from by
    intro g4 v6 u w5 w6 t15 t16 t17 t18 t19 b5 b6 h4 hne o6 hbx
    obtain ⟨ge, ce, rfl, hge, -, -, -⟩ := o6.spot (k := 0) (by rw [List.length_replicate]; omega)
    rw [List.length_replicate] at o6 ⊢
    have h5 := b5.size
    have hs3 := HS3.out
    have hne' : ge ≠ g4 := fun e => hne (by rw [e]; rfl)
    obtain ⟨q0, q1, q2, q3⟩ := BASE.out _ (b5.trans (b6.mono h5))
    exact REST w1.heap.size w2.heap.size g4 ge ce _ t15 t16 t17 t18 t19 _ rfl rfl ⟨by omega, by omega, by omega, by omega, by omega, fun e => hne' e.symm, by omega⟩ (LatW.made hbx q0 q1 q2 (o6.mono (by omega)) q3 (by omega) (by omega) (by omega) (by omega) hne'))
  have FIN2 := Lib.hid (show ∀ (v6 : Value) (w5 w6 : World) (t15 t16 t17 t18 t19 : Value), Below W3.heap.size W3 w5 → Below w5.heap.size w5 w6 → OwnI w6 w5.heap.size v6 (List.replicate ls.length (playTime ls)) → K { tmps := #[.slice A ls.length c, .pointer (some ⟨w.heap.size, 0, none⟩), .slice none 0 0, .pointer (some ⟨w2.heap.size, 0, none⟩), .pointer (some ⟨w6.heap.size, 0, none⟩), undef, undef, undef, undef, .slice A ls.length c, .bool true, .bool false, .slice A ls.length c, .int .i64 (ls.length : Int), .slice (some ⟨w1.heap.size, 0, none⟩) ls.length ls.length, t15, t16, t17, t18, t19, v6, undef, undef, undef, undef, undef, undef, undef, undef, undef, undef, undef, undef, undef, undef, undef, undef, undef, undef, undef, undef, undef, undef, undef, undef, undef, undef, undef, undef, undef, undef, undef, undef, undef, undef, undef, undef, undef, undef, undef, undef, undef, undef], defers := [] } (w6.alloc (.cells #[v6] 26)) from by
    intro v6 w5 w6 t15 t16 t17 t18 t19 b5 b6 o6
    obtain ⟨ge, ce, rfl, hge, hgl, -, -⟩ := o6.spot (k := 0) (by rw [List.length_replicate]; omega)
    rw [List.length_replicate] at o6 ⊢
    have h5 := b5.size
    have h6 := b6.size
    have hs3 := HS3.out
    obtain ⟨q0, q1, q2, q3⟩ := BASE.out _ ((b5.trans (b6.mono h5)).alloc (by omega) (.cells #[.slice (some ⟨ge, 0, none⟩) ls.length ce] 26))
    exact REST w1.heap.size w2.heap.size w6.heap.size ge ce _ t15 t16 t17 t18 t19 _ rfl rfl ⟨by omega, by omega, by omega, by omega, by omega, by omega, by omega⟩ ⟨q0, q1, (Bx.new w6 _ _).1, q2, (o6.mono (by omega)).alloc _, q3⟩)
  have LW3 := Lib.hid (show w.heap.size < W3.heap.size by have := HS3.out; omega)
  rw [hW3]
  have X3 := Lib.hid (BASE.out _ (Below.refl _ _)).1
  clear hK hW3 bW3 X2 P2 B2 B1 CO EB RL RA OLH HOK REST
  refine wp_region_noPanic ?_
  refine wp_region_held_drew (S := (fun W => W.cell? ⟨w.heap.size, 0, none⟩ = some (.slice A ls.length c))) (by kernel_rfl) (by have := X3.out; simpa using this) (fun hHeld => ?_)
  refine wpAnyH_take (i := 0) (v := .slice A ls.length c) rfl (by kernel_rfl) (by kernel_rfl) (by kernel_rfl) (fun _ _ _ h => h) (Or.inl ⟨by rfl, by intro W hSw; (try dsimp only at hSw); go_simp⟩) hHeld ?_
  try simp only [Act.put, List.getElem_toArray, List.getElem_cons_succ, List.getElem_cons_zero, List.setIfInBounds_toArray, List.set_cons_zero, List.set_cons_succ]
  refine wpAnyH_take (i := 3) (v := .slice A ls.length c) rfl (by kernel_rfl) (by kernel_rfl) (by kernel_rfl) (fun _ _ _ h => h) (Or.inl ⟨by rfl, by intro W hSw; (try dsimp only at hSw); go_simp⟩) hHeld ?_
  try simp only [Act.put, List.getElem_toArray, List.getElem_cons_succ, List.getElem_cons_zero, List.setIfInBounds_toArray, List.set_cons_zero, List.set_cons_succ]
  refine wpAnyH_take (i := 4) (v := .int .i64 (ls.length : Int)) rfl (by kernel_rfl) (by kernel_rfl) (by kernel_rfl) (fun _ _ _ h => h) (Or.inl ⟨by rfl, by intro W hSw; (try dsimp only at hSw); go_simp⟩) hHeld ?_
  try simp only [Act.put, List.getElem_toArray, List.getElem_cons_succ, List.getElem_cons_zero, List.setIfInBounds_toArray, List.set_cons_zero, List.set_cons_succ]
  refine wpAnyH_ready (rs := [1, 6]) (by kernel_rfl) (by simp) ?_
  refine AllReadyH.cons rfl (fun K hK => ?_) (AllReadyH.cons rfl (fun K hK => ?_) AllReadyH.nil)
  · go_simp
    refine (CP.out _ (LB.out _ (BASE.out _ D0.out).2.2.2)).mono ?_
    rintro e w5 ⟨rfl, b5⟩
    have Y5 := Lib.hid (D0.out.trans (b5.mono D0.out.size))
    clear b5
    go_wp2_with fail
    refine hK.out _ _ (BASE.out _ Y5.out).1 (fun hHeld => ?_)
    clear hK K
    try simp only [Act.put, List.getElem_toArray, List.getElem_cons_succ, List.getElem_cons_zero, List.setIfInBounds_toArray, List.set_cons_zero, List.set_cons_succ]
    refine wpAnyH_ready (rs := [2, 6]) (by kernel_rfl) (by simp) ?_
    refine AllReadyH.cons rfl (fun K hK => ?_) (AllReadyH.cons rfl (fun K hK => ?_) AllReadyH.nil)
    · go_simp
      go_wp2_with fail
      refine hK.out _ _ (BASE.out _ (Y5.out.alloc Y5.out.size _)).1 (fun hHeld => ?_)
      clear hK K
      try simp only [Act.put, List.getElem_toArray, List.getElem_cons_succ, List.getElem_cons_zero, List.setIfInBounds_toArray, List.set_cons_zero, List.set_cons_succ]
      refine wpAnyH_ready (rs := [5, 6]) (by kernel_rfl) (by simp) ?_
      refine AllReadyH.cons rfl (fun K hK => ?_) (AllReadyH.cons rfl (fun K hK => ?_) AllReadyH.nil)
      · go_simp
        refine (CR.out (playTime ls) _ _ 0 (ONE0.out w5)).mono ?_
        rintro e w6 ⟨v6, rfl, o6, b6⟩
        obtain ⟨E, ce, e6⟩ := o6.slice
        rw [List.length_replicate] at e6
        subst e6
        have Y6 := Lib.hid (below_one w5 _ b6)
        have Z6 := Lib.hid (Y5.out.trans (Y6.out.mono Y5.out.size))
        have O6 := Lib.hid o6
        have LE := Lib.hid (fun k hk => o6.lt k hk)
        clear o6 b6
        go_wp2_with fail
        refine hK.out _ _ (BASE.out _ Z6.out).1 (fun hHeld => ?_)
        clear hK K
        try simp only [Act.put, List.getElem_toArray, List.getElem_cons_succ, List.getElem_cons_zero, List.setIfInBounds_toArray, List.set_cons_zero, List.set_cons_succ]
        refine wpAnyH_ready (rs := [6]) (by kernel_rfl) (by simp) ?_
        refine AllReadyH.cons rfl (fun K hK => ?_) AllReadyH.nil
        go_simp
        go_wp2_with fail
        refine hK.out _ _ (BASE.out _ (Z6.out.alloc Z6.out.size _)).1 (fun hHeld => ?_)
        clear hK K
        try simp only [Act.put, List.getElem_toArray, List.getElem_cons_succ, List.getElem_cons_zero, List.setIfInBounds_toArray, List.set_cons_zero, List.set_cons_succ]
        have h5 := Y5.out.size
        have h6 := Y6.out.size
        have hw3 := LW3.out
        have GE := Lib.hid (show W3.heap.size ≤ w6.heap.size by omega)
        have NE := Lib.hid (show w.heap.size ≠ w6.heap.size by omega)
        have NB := Lib.hid (show (Value.slice E ls.length ce).ownBlock ≠ some (w6.heap.size) from fun e => by have := LE.out _ e; simp at this <;> omega)
        refine wpAnyH_ready (rs := [7]) (by kernel_rfl) (by simp) ?_
        refine AllReadyH.cons rfl (fun K hK => ?_) AllReadyH.nil
        go_simp
        go_wp2_with fail
        refine hK.out _ _ (BASE.out _ (Z6.out.alloc Z6.out.size _)).1 (fun hHeld => ?_)
        clear hK K
        try simp only [Act.put, List.getElem_toArray, List.getElem_cons_succ, List.getElem_cons_zero, List.setIfInBounds_toArray, List.set_cons_zero, List.set_cons_succ]
        refine wpAnyH_done (by kernel_rfl) ?_ _
        refine NoPanic.normal ?_
        have O6b := Lib.hid (O6.out.mono (b := w5.heap.size) (by simp))
        exact FIN2.out _ w5 w6 _ _ _ _ _ Y5.out Y6.out O6b.out
      · go_simp
        go_wp2_with fail
        refine hK.out _ _ (BASE.out _ ((Y5.out.alloc Y5.out.size _).alloc (Y5.out.alloc Y5.out.size _).size _)).1 (fun hHeld => ?_)
        clear hK K
        try simp only [Act.put, List.getElem_toArray, List.getElem_cons_succ, List.getElem_cons_zero, List.setIfInBounds_toArray, List.set_cons_zero, List.set_cons_succ]
        refine wpAnyH_ready (rs := [5]) (by kernel_rfl) (by simp) ?_
        refine AllReadyH.cons rfl (fun K hK => ?_) AllReadyH.nil
        go_simp
        refine (CR.out (playTime ls) _ _ 0 (ONE2.out w5 _)).mono ?_
        rintro e w6 ⟨v6, rfl, o6, b6⟩
        obtain ⟨E, ce, e6⟩ := o6.slice
        rw [List.length_replicate] at e6
        subst e6
        have Y6 := Lib.hid (below_two w5 _ _ b6)
        have Z6 := Lib.hid (Y5.out.trans (Y6.out.mono Y5.out.size))
        have c4 := (BX3.out w5).below b6
        have O6 := Lib.hid o6
        have LE := Lib.hid (fun k hk => o6.lt k hk)
        obtain ⟨c41, c42⟩ := c4
        clear o6 b6
        go_wp2_with fail
        refine hK.out _ _ (BASE.out _ Z6.out).1 (fun hHeld => ?_)
        clear hK K
        try simp only [Act.put, List.getElem_toArray, List.getElem_cons_succ, List.getElem_cons_zero, List.setIfInBounds_toArray, List.set_cons_zero, List.set_cons_succ]
        have h5 := Y5.out.size
        have h6 := Y6.out.size
        have hw3 := LW3.out
        have GE := Lib.hid (show W3.heap.size ≤ w5.heap.size + 1 by omega)
        have NE := Lib.hid (show w.heap.size ≠ w5.heap.size + 1 by omega)
        have NB := Lib.hid (show (Value.slice E ls.length ce).ownBlock ≠ some (w5.heap.size + 1) from fun e => by have := LE.out _ e; simp at this <;> omega)
        refine wpAnyH_ready (rs := [7]) (by kernel_rfl) (by simp) ?_
        refine AllReadyH.cons rfl (fun K hK => ?_) AllReadyH.nil
        go_simp
        go_wp2_with fail
        refine hK.out _ _ ((grown_cell _ ⟨w5.heap.size + 1, 0, none⟩ _).cell (BASE.out _ Z6.out).1 (fun e => NE.out (Option.some.inj e))) (fun hHeld => ?_)
        clear hK K
        try simp only [Act.put, List.getElem_toArray, List.getElem_cons_succ, List.getElem_cons_zero, List.setIfInBounds_toArray, List.set_cons_zero, List.set_cons_succ]
        refine wpAnyH_done (by kernel_rfl) ?_ _
        refine NoPanic.normal ?_
        exact FIN.out (w5.heap.size + 1) _ _ w5 w6 _ _ _ _ _ Y5.out Y6.out GE.out NB.out (O6.out.mono (by simp <;> omega)) ⟨c41, c42⟩
    · go_simp
      go_wp2_with fail
      refine hK.out _ _ (BASE.out _ (Y5.out.alloc Y5.out.size _)).1 (fun hHeld => ?_)
      clear hK K
      try simp only [Act.put, List.getElem_toArray, List.getElem_cons_succ, List.getElem_cons_zero, List.setIfInBounds_toArray, List.set_cons_zero, List.set_cons_succ]
      refine wpAnyH_ready (rs := [2]) (by kernel_rfl) (by simp) ?_
      refine AllReadyH.cons rfl (fun K hK => ?_) AllReadyH.nil
      go_simp
      go_wp2_with fail
      refine hK.out _ _ (BASE.out _ ((Y5.out.alloc Y5.out.size _).alloc (Y5.out.alloc Y5.out.size _).size _)).1 (fun hHeld => ?_)
      clear hK K
      try simp only [Act.put, List.getElem_toArray, List.getElem_cons_succ, List.getElem_cons_zero, List.setIfInBounds_toArray, List.set_cons_zero, List.set_cons_succ]
      refine wpAnyH_ready (rs := [5]) (by kernel_rfl) (by simp) ?_
      refine AllReadyH.cons rfl (fun K hK => ?_) AllReadyH.nil
      go_simp
      refine (CR.out (playTime ls) _ _ 0 (ONE1.out w5 _)).mono ?_
      rintro e w6 ⟨v6, rfl, o6, b6⟩
      obtain ⟨E, ce, e6⟩ := o6.slice
      rw [List.length_replicate] at e6
      subst e6
      have Y6 := Lib.hid (below_two w5 _ _ b6)
      have Z6 := Lib.hid (Y5.out.trans (Y6.out.mono Y5.out.size))
      have c4 := (BX2.out w5).below b6
      have O6 := Lib.hid o6
      have LE := Lib.hid (fun k hk => o6.lt k hk)
      obtain ⟨c41, c42⟩ := c4
      clear o6 b6
      go_wp2_with fail
      refine hK.out _ _ (BASE.out _ Z6.out).1 (fun hHeld => ?_)
      clear hK K
      try simp only [Act.put, List.getElem_toArray, List.getElem_cons_succ, List.getElem_cons_zero, List.setIfInBounds_toArray, List.set_cons_zero, List.set_cons_succ]
      have h5 := Y5.out.size
      have h6 := Y6.out.size
      have hw3 := LW3.out
      have GE := Lib.hid (show W3.heap.size ≤ w5.heap.size by omega)
      have NE := Lib.hid (show w.heap.size ≠ w5.heap.size by omega)
      have NB := Lib.hid (show (Value.slice E ls.length ce).ownBlock ≠ some (w5.heap.size) from fun e => by have := LE.out _ e; simp at this <;> omega)
      refine wpAnyH_ready (rs := [7]) (by kernel_rfl) (by simp) ?_
      refine AllReadyH.cons rfl (fun K hK => ?_) AllReadyH.nil
      go_simp
      go_wp2_with fail
      refine hK.out _ _ ((grown_cell _ ⟨w5.heap.size, 0, none⟩ _).cell (BASE.out _ Z6.out).1 (fun e => NE.out (Option.some.inj e))) (fun hHeld => ?_)
      clear hK K
      try simp only [Act.put, List.getElem_toArray, List.getElem_cons_succ, List.getElem_cons_zero, List.setIfInBounds_toArray, List.set_cons_zero, List.set_cons_succ]
      refine wpAnyH_done (by kernel_rfl) ?_ _
      refine NoPanic.normal ?_
      exact FIN.out (w5.heap.size) _ _ w5 w6 _ _ _ _ _ Y5.out Y6.out GE.out NB.out (O6.out.mono (by simp <;> omega)) ⟨c41, c42⟩
  · go_simp
    go_wp2_with fail
    refine hK.out _ _ (BASE.out _ (D1.out _)).1 (fun hHeld => ?_)
    clear hK K
    try simp only [Act.put, List.getElem_toArray, List.getElem_cons_succ, List.getElem_cons_zero, List.setIfInBounds_toArray, List.set_cons_zero, List.set_cons_succ]
    refine wpAnyH_ready (rs := [1]) (by kernel_rfl) (by simp) ?_
    refine AllReadyH.cons rfl (fun K hK => ?_) AllReadyH.nil
    go_simp
    refine (CP.out _ (LB.out _ (BASE.out _ (D1.out _)).2.2.2)).mono ?_
    rintro e w5 ⟨rfl, b5⟩
    have Y5 := Lib.hid ((D1.out _).trans (b5.mono (D1.out _).size))
    have c4 := BXA.out.below b5
    clear b5
    go_wp2_with fail
    refine hK.out _ _ (BASE.out _ Y5.out).1 (fun hHeld => ?_)
    clear hK K
    try simp only [Act.put, List.getElem_toArray, List.getElem_cons_succ, List.getElem_cons_zero, List.setIfInBounds_toArray, List.set_cons_zero, List.set_cons_succ]
    refine wpAnyH_ready (rs := [2]) (by kernel_rfl) (by simp) ?_
    refine AllReadyH.cons rfl (fun K hK => ?_) AllReadyH.nil
    go_simp
    go_wp2_with fail
    refine hK.out _ _ (BASE.out _ (Y5.out.alloc Y5.out.size _)).1 (fun hHeld => ?_)
    clear hK K
    try simp only [Act.put, List.getElem_toArray, List.getElem_cons_succ, List.getElem_cons_zero, List.setIfInBounds_toArray, List.set_cons_zero, List.set_cons_succ]
    refine wpAnyH_ready (rs := [5]) (by kernel_rfl) (by simp) ?_
    refine AllReadyH.cons rfl (fun K hK => ?_) AllReadyH.nil
    go_simp
    refine (CR.out (playTime ls) _ _ 0 (ONE0.out w5)).mono ?_
    rintro e w6 ⟨v6, rfl, o6, b6⟩
    obtain ⟨E, ce, e6⟩ := o6.slice
    rw [List.length_replicate] at e6
    subst e6
    have Y6 := Lib.hid (below_one w5 _ b6)
    have Z6 := Lib.hid (Y5.out.trans (Y6.out.mono Y5.out.size))
    replace c4 := (c4.alloc (.cells #[.int .i64 (playTime ls)] 3)).below b6
    have O6 := Lib.hid o6
    have LE := Lib.hid (fun k hk => o6.lt k hk)
    obtain ⟨c41, c42⟩ := c4
    clear o6 b6
    go_wp2_with fail
    refine hK.out _ _ (BASE.out _ Z6.out).1 (fun hHeld => ?_)
    clear hK K
    try simp only [Act.put, List.getElem_toArray, List.getElem_cons_succ, List.getElem_cons_zero, List.setIfInBounds_toArray, List.set_cons_zero, List.set_cons_succ]
    have h5 := Y5.out.size
    have h6 := Y6.out.size
    have hw3 := LW3.out
    have GE := Lib.hid (show W3.heap.size ≤ W3.heap.size by omega)
    have NE := Lib.hid (show w.heap.size ≠ W3.heap.size by omega)
    have NB := Lib.hid (show (Value.slice E ls.length ce).ownBlock ≠ some (W3.heap.size) from fun e => by have := LE.out _ e; simp at this <;> omega)
    refine wpAnyH_ready (rs := [7]) (by kernel_rfl) (by simp) ?_
    refine AllReadyH.cons rfl (fun K hK => ?_) AllReadyH.nil
    go_simp
    go_wp2_with fail
    refine hK.out _ _ ((grown_cell _ ⟨W3.heap.size, 0, none⟩ _).cell (BASE.out _ Z6.out).1 (fun e => NE.out (Option.some.inj e))) (fun hHeld => ?_)
    clear hK K
    try simp only [Act.put, List.getElem_toArray, List.getElem_cons_succ, List.getElem_cons_zero, List.setIfInBounds_toArray, List.set_cons_zero, List.set_cons_succ]
    refine wpAnyH_done (by kernel_rfl) ?_ _
    refine NoPanic.normal ?_
    exact FIN.out (W3.heap.size) _ _ w5 w6 _ _ _ _ _ Y5.out Y6.out GE.out NB.out (O6.out.mono (by simp <;> omega)) ⟨c41, c42⟩

set_option maxRecDepth 100000 in
theorem implLat (v : Value) (ls : List RCue) (b : Nat) (w : World) (h : OwnCue w b v ls) (hl : bulkCue ls ≤ 1048576) :
    Calls Try.prog 13 #[v] w (IntsPost w (latestStarts ls)) := by
  cases hok : cuesOk ls with
  | true => exact implLat1 v ls b w h hl hok
  | false =>
    have CK := Lib.hid (hok ▸ implCOk v ls b (w.alloc (.cells #[v] 24)) (h.alloc _) hl)
    obtain ⟨A, c, rfl⟩ := h.slice
    have R := Lib.hid (show latestStarts ls = [] by unfold latestStarts; rw [hok]; rfl)
    clear h hok
    go_enter Try.func13, Try.ntmps13
    go_wp2_with fail
    refine CK.out.mono ?_
    rintro e w1 ⟨rfl, b1⟩
    have B1 := Lib.hid (((Below.refl w.heap.size w).alloc (Nat.le_refl _) (.cells #[.slice A ls.length c] 24)).trans (b1.mono (by simp)))
    clear b1
    go_wp2
    go_ret
    exact ⟨_, rfl, by rw [R.out]; exact nilI _ _, B1.out⟩
end Go.Proofs.Ytbgogcobkiaejac
