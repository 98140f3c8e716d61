/- Texts of this seat laid together, each with its own first sentence below: TihI MadR RepI RndA TijM. -/
import Derived.Test.YtbgogcobkiaejacPk10
import Derived.Test.YtbgogcobkiaejacPk4
import Derived.Test.YtbgogcobkiaejacPk1
import Derived.Test.YtbgogcobkiaejacPk6
import Derived.Laws.CopyOwn
import Derived.Deep.RegionLaw
import Derived.StillTailTactics
import Derived.RangeFuncFrom
import Derived.RangeFuncCalls
import Derived.OrdersIn
/- The contract of the program's IsPlan: it answers as the model does. Condition: the cues and the starts lie in rows of their own. -/
namespace Go.Proofs.Ytbgogcobkiaejac
set_option linter.unusedVariables false
set_option linter.unusedSimpArgs false
open Go.RowKit

set_option maxRecDepth 100000 in
set_option maxHeartbeats 3200000 in
theorem implIsP (v : Value) (ls : List RCue) (b : Nat) (w : World) (h : OwnCue w b v ls) (hl : bulkCue ls ≤ 1048576) (u : Value) (zs : List Int) (b2 : Nat) (h2 : OwnI w b2 u zs) (hz : zs.length ≤ 2000000) :
    Calls Try.prog 16 #[v, u] w fun e w' => e = .returned (.bool (isPlan ls zs)) ∧ Below w.heap.size w w' := by
  have CK := Lib.hid (implCOk v ls b w h hl)
  have CL := Lib.hid (fun W h h2 => implCla v ls b W h hl u zs b2 h2 hz)
  have CN := Lib.hid (fun hok hz hr W hw h2 => implEnds v ls b W hw hok u zs b2 h2 hz hr)
  obtain ⟨A, c, rfl⟩ := h.slice
  have CS := Lib.hid (fun W h2 => implStr A ls.length c u zs b2 W h2 hz)
  obtain ⟨D, d, rfl⟩ := h2.slice
  have O := Lib.hid h
  have Z := Lib.hid h2
  clear h h2
  cases hok : cuesOk ls with
  | false =>
    have R := Lib.hid (show isPlan ls zs = false by unfold isPlan; rw [fine_parts, hok]; rfl)
    rw [hok] at CK
    clear hok CN
    go_enter Try.func16, Try.ntmps16
    go_wp2_with (go_at_call 38; refine CK.out.mono ?_; rintro e w2 ⟨rfl, b2⟩; have B2 := Lib.hid b2; clear b2)
    go_ret
    exact ⟨by rw [R.out]; rfl, B2.out⟩
  | true =>
  cases hst : (decide (zs.length = ls.length) && allIn 0 10000 zs) with
  | false =>
    have R := Lib.hid (show isPlan ls zs = false by unfold isPlan; rw [fine_parts, hok, hst]; rfl)
    rw [hok] at CK
    rw [hst] at CS
    clear hok CN hst
    go_enter Try.func16, Try.ntmps16
    go_wp2_with (first
      | (go_at_call 38; refine CK.out.mono ?_; rintro e w2 ⟨rfl, b2⟩; have B2 := Lib.hid b2; have Z2 := Lib.hid (Z.out.below b2); clear b2)
      | (go_at_call 48; refine (CS.out _ Z2.out).mono ?_; rintro e w3 ⟨rfl, rfl⟩))
    go_ret
    exact ⟨by rw [R.out]; rfl, B2.out⟩
  | true =>
  have hs : startsFine ls zs = true := by rw [fine_parts, hok, hst]; rfl
  obtain ⟨-, hzl, hzb⟩ := fine_has hs
  have hn := (cuesOk_has hok).1
  have HOK := Lib.hid hok
  have HZL := Lib.hid hzl
  have HZB := Lib.hid hzb
  have RY := Lib.hid (show aheadB ls zs = true → isPlan ls zs = decide ((clashesIn ls zs).length = 0) from fun e => by unfold isPlan; rw [hs, e]; rfl)
  have RN := Lib.hid (show aheadB ls zs = false → isPlan ls zs = false from fun e => by unfold isPlan; rw [hs, e]; rfl)
  have YES := Lib.hid (ahead_yes (ls := ls) (zs := zs))
  have NO := Lib.hid (fun k j hk hj => ahead_no (ls := ls) (zs := zs) (k := k) (j := j) hk hj)
  have CN := Lib.hid (fun W hw h2 => CN.out hok hzl hzb W hw h2)
  have EAT := Lib.hid (fun k (hk : k < ls.length) => endsL_at ls zs hk)
  have EL := Lib.hid (endsL_len ls zs)
  rw [hok] at CK
  rw [hst] at CS
  rw [hzl] at Z CS CN CL ⊢
  clear hs hok hst hzl hzb
  go_enter Try.func16, Try.ntmps16
  go_wp2_with (first
    | (go_at_call 38; refine CK.out.mono ?_; rintro e w2 ⟨rfl, b2⟩; have B2 := Lib.hid b2; have Z2 := Lib.hid (Z.out.below b2); have O2 := Lib.hid (O.out.below b2); clear b2)
    | (go_at_call 48; refine (CS.out _ Z2.out).mono ?_; rintro e w3 ⟨rfl, rfl⟩))
  refine (CN.out _ O2.out Z2.out).mono ?_
  rintro e w1 ⟨ve, rfl, o1, b1⟩
  obtain ⟨E, ce, e3⟩ := o1.slice
  rw [EL.out] at e3
  subst e3
  have B1 := Lib.hid (B2.out.trans (b1.mono B2.out.size))
  have E1 := Lib.hid o1
  have Z1 := Lib.hid (Z2.out.below b1)
  have O1 := Lib.hid (O2.out.below b1)
  clear o1 b1 O Z O2 Z2 CN CK CS
  go_wp2_with fail
  go_loopw [24] (fun iv wr => ∃ k : Nat, k ≤ ls.length ∧ iv = .int .i64 (k : Int) ∧ Hid (∀ p, p < k → ∀ j, j < (ls.getD p RCue.zero).f1.length → aheadAt ls zs p j = true) ∧ Hid (Below w1.heap.size w1 wr)) (fun iv _ => ls.length - (intOf iv).toNat)
  case atStart => exact ⟨0, by omega, rfl, Lib.hid (fun p hp => absurd hp (by omega)), Lib.hid (Below.refl _ _)⟩
  case round =>
    obtain ⟨p, hp', rfl, AH, BW⟩ := hrel
    by_cases hp : p < ls.length
    rotate_left
    · obtain rfl : p = ls.length := by omega
      have R := Lib.hid (RY.out (YES.out AH.out))
      have wl := clashes_len ls zs
      generalize clashesIn ls zs = ps at CL R wl
      go_wp2_with fail
      refine (CL.out _ (O1.out.below BW.out) (Z1.out.below BW.out)).mono ?_
      rintro e w4 ⟨v4, rfl, o4, b4⟩
      obtain ⟨P, cp, rfl⟩ := o4.slice
      have B4 := Lib.hid (B1.out.trans ((BW.out.trans (b4.mono BW.out.size)).mono B1.out.size))
      clear b4 o4 CL
      by_cases h0 : ps.length = 0
      · have R2 := Lib.hid (show isPlan ls zs = true by rw [R.out, h0]; rfl)
        go_wp2
        go_ret
        exact ⟨by rw [R2.out]; rfl, B4.out⟩
      · have R2 := Lib.hid (show isPlan ls zs = false by rw [R.out, decide_eq_false h0])
        have hpb : ((ps.length : Int) == 0) = false := by simp; exact fun e => h0 (by rw [e]; rfl)
        go_wp2
        go_ret
        exact ⟨by rw [R2.out]; rfl, B4.out⟩
    have hp0 : (0 : Int) ≤ (p : Int) := by omega
    have hp1 : (p : Int) < (ls.length : Int) := by omega
    have hed : ls.getD p RCue.zero = ls[p] := by rw [List.getD_eq_getElem?_getD, List.getElem?_eq_getElem hp]; rfl
    have PM := after_max HOK.out hp
    have CF := Lib.hid ((cue_fine HOK.out hp).2)
    have NOP := Lib.hid (fun j hj => NO.out p j hp hj)
    have AHP := Lib.hid (show ∀ F, (ls.getD p RCue.zero).f1.length = F → (∀ j, j < F → aheadAt ls zs p j = true) → ∀ q, q < p + 1 → ∀ j, j < (ls.getD q RCue.zero).f1.length → aheadAt ls zs q j = true from fun F hF h q hq j hj => by
      rcases (by omega : q < p ∨ q = p) with c | rfl
      · exact AH.out q c j hj
      · exact h j (by rw [← hF]; exact hj))
    obtain ⟨F, hF⟩ : ∃ F, (ls.getD p RCue.zero).f1.length = F := ⟨_, rfl⟩
    have A2 := Lib.hid (AHP.out F hF)
    rw [hF] at PM CF NOP
    obtain ⟨g, cg, A1, c1, A2', c2, f1, -, ⟨x0, x1, x2⟩, ⟨o1, -⟩, -⟩ := (O1.out.below BW.out).spot hp
    simp only [Value.slice.injEq] at f1
    obtain ⟨rfl, -, rfl⟩ := f1
    rw [← hed] at x1 o1
    rw [hF] at x1
    have HF := Lib.hid hF
    have OA := Lib.hid o1
    have hsz := BW.out.size
    clear hF hed AHP o1
    obtain ⟨wo, rfl⟩ : ∃ wo, wo = wr := ⟨wr, rfl⟩
    generalize ls[p].f0 = t0 at x0
    generalize ls[p].f2.length = n2 at x2
    have BA := Lib.hid (BW.out.alloc hsz (.cells #[.int .i64 t0, .slice A1 F c1, .slice A2' n2 c2] 33))
    have OB := Lib.hid (fun W (hb : Below wo.heap.size wo W) => OA.out.below hb)
    have BB := Lib.hid ((Below.refl wo.heap.size wo).alloc (Nat.le_refl _) (.cells #[.int .i64 t0, .slice A1 F c1, .slice A2' n2 c2] 33))
    go_wp2_with fail
    go_loopw [32] (fun jv wr => ∃ j : Nat, j ≤ F ∧ jv = .int .i64 (j : Int) ∧ Hid (∀ i, i < j → aheadAt ls zs p i = true) ∧ Hid (Below w1.heap.size w1 wr) ∧ Hid (Below wo.heap.size wo wr)) (fun jv _ => F - (intOf jv).toNat)
    case atStart => exact ⟨0, by omega, rfl, Lib.hid (fun i hi => absurd hi (by omega)), BA, BB⟩
    case round =>
      clear BA BB x0 x1 x2
      obtain ⟨j, hj, rfl, AJ, BX, BY⟩ := hrel
      have gA : ∀ (zs : List Int) t (ht : t < zs.length), zs[t] = zs.getD t 0 := fun zs t ht => by rw [List.getD_eq_getElem?_getD, List.getElem?_eq_getElem ht]; rfl
      by_cases hlj : j < F
      rotate_left
      · obtain rfl : j = F := by omega
        have A3 := Lib.hid (A2.out AJ.out)
        clear hlj hj
        go_wp2
        exact ⟨⟨p + 1, by omega, by go_num, A3, BX⟩, by simp [intOf]; omega⟩
      have hj0 : (0 : Int) ≤ (j : Int) := by omega
      have hj1 : (j : Int) < (F : Int) := by omega
      obtain ⟨q0, q1⟩ := CF.out j hlj
      obtain ⟨q, hq⟩ := Int.eq_ofNat_of_zero_le q0
      rw [hq] at q0 q1
      obtain ⟨ga, ca, e1, -, -, y0, -⟩ := (OB.out _ BY.out).spot (k := j) (by rw [HF.out]; exact hlj)
      simp only [Value.slice.injEq] at e1
      obtain ⟨rfl, -, rfl⟩ := e1
      rw [gA, hq] at y0
      have hql : q < ls.length := by omega
      obtain ⟨gs, _, f1, -, -, u0, -⟩ := (Z1.out.below BX.out).spot (k := p) (by rw [HZL.out]; exact hp)
      simp only [Value.slice.injEq] at f1
      obtain ⟨rfl, -, rfl⟩ := f1
      obtain ⟨ge, _, f1, -, -, v0, -⟩ := (E1.out.below BX.out).spot (k := q) (by rw [EL.out]; exact hql)
      simp only [Value.slice.injEq] at f1
      obtain ⟨rfl, -, rfl⟩ := f1
      rw [gA] at u0 v0
      rw [EAT.out q hql] at v0
      have AT := Lib.hid (show aheadAt ls zs p j = !decide (zs.getD p 0 < zs.getD q 0 + (ls.getD q RCue.zero).f0) by unfold aheadAt; rw [hq, Int.toNat_natCast])
      have NP := Lib.hid (NOP.out j hlj)
      have AN := Lib.hid (show aheadAt ls zs p j = true → ∀ i, i < j + 1 → aheadAt ls zs p i = true from fun e i hi => by
        rcases (by omega : i < j ∨ i = j) with c | rfl
        · exact AJ.out i c
        · exact e)
      generalize zs.getD p 0 = x at u0 AT
      generalize zs.getD q 0 + (ls.getD q RCue.zero).f0 = y at v0 AT
      have WX := Lib.hid (fun n => (below_drewN BX.out n : Below w1.heap.size w1 (wr.drewN n)))
      have WY := Lib.hid (fun n => (below_drewN BY.out n : Below wo.heap.size wo (wr.drewN n)))
      clear gA hq
      by_cases hc : x < y
      · have R := Lib.hid (RN.out (NP.out (by rw [AT.out, decide_eq_true hc]; rfl)))
        have d1 : decide (x < y) = true := decide_eq_true hc
        clear AN
        go_wp2_with fail
        go_quiet (fail)
        go_wp2
        go_ret
        exact ⟨by rw [R.out]; rfl, B1.out.trans ((WX.out _).mono B1.out.size)⟩
      · have A3 := Lib.hid (AN.out (by rw [AT.out, decide_eq_false hc]; rfl))
        have d1 : decide (x < y) = false := decide_eq_false hc
        clear AN
        go_wp2_with fail
        go_quiet (fail)
        go_wp2
        exact ⟨⟨j + 1, by omega, by go_num, A3, Lib.hid (WX.out _), Lib.hid (WY.out _)⟩, by simp [intOf]; omega⟩
end Go.Proofs.Ytbgogcobkiaejac

/- A made row of numbers, and a row written over from its start. Condition: the row is of its own. -/
namespace Go.Proofs.Ytbgogcobkiaejac
set_option linter.unusedVariables false
set_option linter.unusedSimpArgs false
open Go.RowKit

theorem size_int : (Try.prog.info? 3).map (·.size) = some 1 := by kernel_rfl
theorem spliceI {w : World} {base g n : Nat} {cur : List Value} {zs : List Int} (hb : base ≤ g) (hn : n = zs.length) (hc : cur.length = n) (hm : n ≤ maxLen)
    (h : w.heap[g]? = some (.cells (splice cur 0 (zs.map intV)).toArray 3 (0, 0))) : OwnI w base (.slice (some ⟨g, 0, none⟩) n n) zs := by
  subst hn
  have e : splice cur 0 (zs.map intV) = zs.map intV := by
    unfold splice
    rw [List.take_zero, List.nil_append, List.drop_eq_nil_of_le (by simp; omega), List.append_nil]
  rw [e] at h
  exact ⟨by simp, .inr ⟨g, zs.length, _, rfl, hb, h, Nat.le_refl _, hm, by simp, by simpa using List.take_of_length_le (by simp)⟩⟩

theorem madeRow {w : World} {base g n c : Nat} {xs : List Value} (h : w.ownsRow base 3 1 (.slice (some ⟨g, 0, none⟩) n c) n xs) (hc : c = n) : ∃ cur : List Value, cur.length = n ∧ w.heap[g]? = some (.cells cur.toArray 3 (0, 0)) := by
  rcases h.2 with ⟨e, _⟩ | ⟨g', cap, cu, e, _, hh, _, _, hcs, _⟩
  · simp at e
  · simp only [Value.slice.injEq, Option.some.injEq, Addr.mk.injEq] at e
    obtain ⟨⟨rfl, _⟩, _, rfl⟩ := e
    exact ⟨cu.toList, by simp [hcs, hc], by simpa using hh⟩
end Go.Proofs.Ytbgogcobkiaejac

/- The contract of slices.Repeat at a row of one number, up to twelve times. Condition: the row is the call's own. -/
namespace Go.Proofs.Ytbgogcobkiaejac
set_option linter.unusedVariables false
open Go.RowKit

set_option maxHeartbeats 1600000 in
theorem mul64_small (m : Nat) (h1 : 1 ≤ m) (h : m ≤ 12) (w : World) :
    Calls Try.prog 78 #[.int .u64 1, .int .u64 (m : Int)] w fun e w' => e = .returned (.tuple #[.int .u64 0, .int .u64 (m : Int)]) ∧ w = w' := by
  rcases (by omega : m = 1 ∨ m = 2 ∨ m = 3 ∨ m = 4 ∨ m = 5 ∨ m = 6 ∨ m = 7 ∨ m = 8 ∨ m = 9 ∨ m = 10 ∨ m = 11 ∨ m = 12) with rfl | rfl | rfl | rfl | rfl | rfl | rfl | rfl | rfl | rfl | rfl | rfl
  all_goals
    go_enter Try.func78, Try.ntmps78
    go_wp2
    go_ret2
    exact ⟨rfl, rfl⟩
theorem mul_small (m : Nat) (h1 : 1 ≤ m) (h : m ≤ 12) (w : World) :
    Calls Try.prog 62 #[.int .u64 1, .int .u64 (m : Int)] w fun e w' => e = .returned (.tuple #[.int .u64 0, .int .u64 (m : Int)]) ∧ w = w' := by
  have C := Lib.hid (fun W => mul64_small m h1 h W)
  go_enter Try.func62, Try.ntmps62
  go_wp2_with (go_at_call 78; refine (C.out _).mono ?_; rintro e w' ⟨rfl, rfl⟩)
  go_ret2
  exact ⟨rfl, rfl⟩

theorem splice_take {α : Type} {L : List α} {n k : Nat} {x : α} (h : L.take n = List.replicate n x) (hk : n + k ≤ L.length) : (splice L n (List.replicate k x)).take (n + k) = List.replicate (n + k) x := by
  unfold splice
  rw [h, ← List.append_assoc, List.replicate_append_replicate, List.take_append_of_le_length (by simp)]
  simp
theorem fullI {w : World} {base g n : Nat} {cur : List Value} {zs : List Int} (hb : base ≤ g) (hn : n = zs.length) (hm : n ≤ maxLen) (hc : cur = zs.map intV)
    (h : w.heap[g]? = some (.cells cur.toArray 3 (0, 0))) : OwnI w base (.slice (some ⟨g, 0, none⟩) n n) zs := by
  subst hn hc
  exact ⟨by simp, .inr ⟨g, zs.length, _, rfl, hb, h, Nat.le_refl _, hm, by simp, by simpa using List.take_of_length_le (by simp)⟩⟩

set_option maxRecDepth 100000 in
set_option maxHeartbeats 1600000 in
theorem repeat_any (m : Nat) (h1 : 1 ≤ m) (h12 : m ≤ 12) (v : Value) (z : Int) (b : Nat) (w : World) (hown : OwnI w b v [z]) :
    Calls Try.prog 41 #[v, .int .i64 (m : Int)] w (IntsPost w (List.replicate m z)) := by
  have C := Lib.hid (fun W => mul_small m h1 h12 W)
  obtain ⟨i, hi, hi0, his, hib⟩ := info_parts info_int
  obtain ⟨g0, c0, rfl, _, _, r0, _⟩ := hown.spot (k := 0) (by simp)
  have R0 := Lib.hid (show ∀ W, Below w.heap.size w W → ∀ j u, [intV z][j]? = some u → W.cell? ((⟨g0, 0, none⟩ : Addr).add j) = some u from fun W hb => World.ownsRow.cells (hown.below hb) rfl)
  clear hown r0
  have hm0 : ¬ (m : Int) < 0 := by omega
  have hmu : IntKind.u64.wrap (m : Int) = (m : Int) := by rw [IntKind.wrap_u64]; omega
  have hmi : IntKind.i64.wrap (m : Int) = (m : Int) := IntWalk.i64_in _ (by omega)
  have hmm : ¬ (9223372036854775807 : Int) < (m : Int) := by omega
  have hl1 : [z].length = 1 := rfl
  go_enter Try.func41, Try.ntmps41
  go_wp2_with (first
    | (go_at_call 62; refine (C.out _).mono ?_; rintro e w' ⟨rfl, rfl⟩)
    | (refine wpList_make_full _ rfl _ _ 26 rfl w.heap.size 3 i (.int .i64 0) 1 Try.underlying26 hi hi0 his .i64 .i64 _ _ m rfl rfl rfl rfl (by rw [hib]; omega) (by simp only [maxLen]; omega) (by simp) ?_; intro w1 own1 grown1; have B1 := Lib.hid (below_of_grown grown1); obtain ⟨cur, hcl, hcu⟩ := madeRow own1 rfl; have HC := Lib.hid hcu; clear own1 grown1 hcu)
    | (refine wpList_copy_splice (o := ⟨some 33, _, _, _, _, _⟩) rfl (.tmp 31) (.tmp 32) 26 26 rfl 3 Try.underlying26 size_int (some ⟨w.heap.size, 0, none⟩) (some ⟨g0, 0, none⟩) m m 1 c0 rfl rfl w.heap.size 0 cur 3 HC.out [intV z] (Nat.min_eq_left h1).symm (by intro _; exact ⟨rfl, _, rfl, R0.out _ B1.out⟩) (show 0 + 1 ≤ cur.length by omega) (intV_one [z]) w.heap.size w B1.out (Nat.le_refl _) ?_; intro w2 hh b2; have B2 := Lib.hid b2; clear b2))
  have hs1 : (splice cur 0 [intV z]).length = m := by rw [length_splice _ _ _ (show 0 + 1 ≤ cur.length by omega)]; exact hcl
  have ht1 : (splice cur 0 [intV z]).take 1 = List.replicate 1 (intV z) := splice_take (L := cur) (n := 0) (k := 1) rfl (by omega)
  have H2 := Lib.hid hh.out
  clear hh HC B1 hcl
  generalize splice cur 0 [intV z] = cur at hs1 ht1 H2
  go_loopw [8] (fun nv wr => ∃ (n : Nat) (cur : List Value), 1 ≤ n ∧ n ≤ m ∧ nv = .int .i64 (n : Int) ∧ cur.length = m ∧ Hid (cur.take n = List.replicate n (intV z)) ∧ Hid (wr.heap[w.heap.size]? = some (.cells cur.toArray 3 (0, 0))) ∧ Hid (Below w.heap.size w wr)) (fun nv _ => m - (intOf nv).toNat)
  case atStart => exact ⟨1, cur, by omega, h1, rfl, hs1, ht1, H2, B2⟩
  case round =>
    clear hs1 ht1 H2 B2 cur
    obtain ⟨n, cur, hn1, hnm, rfl, hcl, HT, HC, HB⟩ := hrel
    by_cases hlt : n < m
    · have hn0 : (0 : Int) ≤ (n : Int) := by omega
      have hn2 : (n : Int) < (m : Int) := by omega
      have hn3 : (n : Int) ≤ (m : Int) := by omega
      have hne : ¬ m = n := by omega
      obtain ⟨k, hk⟩ : ∃ k, Nat.min n (m - n) = k := ⟨_, rfl⟩
      have hk1 : 1 ≤ k := by rw [← hk]; exact Nat.le_min.2 ⟨hn1, by omega⟩
      have hk2 : k ≤ n := by rw [← hk]; exact Nat.min_le_left _ _
      have hk3 : k ≤ m - n := by rw [← hk]; exact Nat.min_le_right _ _
      have RC := Lib.hid (show ∀ W : World, W.heap[w.heap.size]? = some (.cells cur.toArray 3 (0, 0)) → ∀ j u, (List.replicate k (intV z))[j]? = some u → W.cell? ((⟨w.heap.size, 0, none⟩ : Addr).add j) = some u from fun W hW j u hj => by
        have hjk : j < k := by have := (List.getElem?_eq_some_iff.1 hj).1; simpa using this
        have hu : u = intV z := by rw [List.getElem?_replicate, if_pos hjk] at hj; exact (Option.some.inj hj).symm
        have hc : cur[j]? = some (intV z) := by
          have h := congrArg (fun l => l[j]?) HT.out
          simp only [List.getElem?_take, List.getElem?_replicate] at h
          rwa [if_pos (by omega), if_pos (by omega)] at h
        have he : ((⟨w.heap.size, 0, none⟩ : Addr).add j) = ⟨w.heap.size, j, none⟩ := by unfold Addr.add; split <;> simp_all
        rw [he, hu]
        simp [World.cell?, hW, hc])
      have T2 := Lib.hid (splice_take (x := intV z) (k := k) HT.out (show n + k ≤ cur.length by omega))
      have L2 : (splice cur n (List.replicate k (intV z))).length = m := by rw [length_splice _ _ _ (by simp; omega)]; exact hcl
      have hw : IntKind.i64.wrap ((n : Int) + (k : Int)) = ((n + k : Nat) : Int) := by rw [IntWalk.i64_in _ (by omega)]; omega
      generalize hX : List.replicate k (intV z) = X at RC T2 L2
      have hXl : X.length = k := by rw [← hX]; simp
      have HX := Lib.hid (show ∀ v ∈ X, v.oneCell' = true by rw [← hX]; intro v hv; rw [List.eq_of_mem_replicate hv]; rfl)
      clear hX
      go_wp2
      go_region_held3 (fun _ => True) (exact trivial) (first | (refine step_copy_splice rfl (.tmp 41) (.tmp 44) 26 26 rfl 3 Try.underlying26 size_int _ (some ⟨w.heap.size, 0, none⟩) (m - n) (m - n) n m rfl rfl w.heap.size n cur 3 HC.out X (by rw [hXl, hk]) (by intro _; refine ⟨?_, _, rfl, RC.out _ HC.out⟩; first | rfl | exact if_neg hne) (by omega) HX.out w.heap.size w HB.out.drew (Nat.le_refl _) ?_; intro w4 hg4 hb4; have G4 := Lib.hid hg4.out; have B4 := Lib.hid hb4; clear hg4 hb4))
      go_wp2
      exact ⟨⟨n + k, splice cur n X, by omega, by omega, by go_num, L2, T2, G4, B4⟩, by simp [intOf]; omega⟩
    · have hke : n = m := by omega
      subst hke
      have F := Lib.hid (fullI (n := n) (base := w.heap.size) (zs := List.replicate n z) (Nat.le_refl _) (by simp) (by simp only [maxLen]; omega) (by rw [List.map_replicate, ← HT.out, List.take_of_length_le (by omega)]) HC.out)
      go_wp2
      go_ret
      exact ⟨_, rfl, F.out, HB.out⟩
end Go.Proofs.Ytbgogcobkiaejac

/- A region that draws its order and whose last operations alone turn the world, walked in a round of a range over a function. Condition: no operation of it is a 'defer' statement. -/
namespace Go.Proofs.Ytbgogcobkiaejac
set_option linter.unusedVariables false
set_option linter.unusedSimpArgs false

section
variable {P : Program} {ops : Array Oper} {Q : Exit → Act → World → Prop} {md : Region.Mode} {n l : Nat}

def noDefer (o : Oper) : Bool := match o.op with
  | .defer _ => false
  | _ => true
theorem noDefer_spec {o : Oper} (h : noDefer o = true) : ∀ c, o.op ≠ .defer c := fun c e => by
  unfold noDefer at h
  rw [e] at h
  cases h
theorem calls_round {f : FuncId} {args : Array Value} {w : World} {R : Ending → World → Prop} (h : Calls P f args w R) : CallsIn (Fence.wide.inRound l) n P f args w R := CallsIn.inRound l (callsIn_wide.2 h)
theorem rows_round {row : String} {args : Array Value} {w : World} {R : Value → World → Prop} (h : Rows P row args w R) : RowsIn (Fence.wide.inRound l) n P row args w R :=
  fun c cs _ => let ⟨v, w', r, s⟩ := h c cs; ⟨v, w', r, stepsIn_wide.2 s⟩
theorem oper_round {o : Oper} {a : Act} {w : World} {K : Act → World → Prop} (hd : ∀ c, o.op ≠ .defer c) (h : o.wp P a w K Q) : o.wpIn (Fence.wide.inRound l) n P a w K Q := by
  refine ⟨fun _ _ => trivial, ?_⟩
  rw [Oper.semAt_eq _ _ _ hd]
  unfold Oper.wp at h
  have hn : ∀ m : Nat, ((Fence.wide.inRound l).depth.isSome = true → 1 ≤ m) := fun m e => by simp [Fence.wide] at e
  generalize (execOp a.eval o).run P w = r at *
  cases r with
  | ok x w' =>
    cases x <;> simp only [Oper.upon] at h <;> simp only [Oper.uponIn]
    case value => exact h
    case skip => exact h
    case defer => exact h
    case enter => exact ⟨hn _, calls_round h⟩
    case row => exact ⟨hn _, rows_round h⟩
  | halt x w' => cases x <;> simp only [Oper.upon] at h <;> simp only [Oper.uponIn] <;> exact h
theorem op_round {i : Nat} {a : Act} {w : World} {K : Act → World → Prop} (hd : ∀ (j : Nat) o, ops[j]? = some o → ∀ c, o.op ≠ .defer c) (hQ : ¬ LetsOut Q) (h : wpOp P ops Q i K a w) : wpOpIn (Fence.wide.inRound l) n P ops Q i K a w := by
  unfold wpOp at h
  unfold wpOpIn
  split
  · next e => simp only [e] at h; exact h
  · next o e =>
    simp only [e] at h
    split
    · next hw =>
      simp only [hw, if_true] at h
      rcases h with h | h
      · exact oper_round (hd i o e) h
      · exact absurd h.2 hQ
    · next hw =>
      simp only [hw] at h
      exact ⟨fun _ _ => trivial, h⟩
theorem any_round (hd : ∀ (j : Nat) o, ops[j]? = some o → ∀ c, o.op ≠ .defer c) (hQ : ¬ LetsOut Q) : ∀ (f : Nat) (listed : Array Bool) (a : Act) (w : World), wpAny P md ops Q f listed a w → wpAnyIn (Fence.wide.inRound l) n P md ops Q f listed a w := by
  intro f
  induction f with
  | zero => exact fun listed a w h => h
  | succ f ih =>
    exact fun listed a w h => ⟨h.1, fun i hi => wpOpIn_mono (fun a w => ih _ a w) (op_round hd hQ (h.2 i hi))⟩
/-- What stands in a drawn region ahead of its last operations only reads: walked once, in the order in which it stands. -/
theorem round_still_tail {id : Nat} {a : Act} {w : World} {L : List Oper} (k : Nat) (hm : P.follows .mixedOrders = true) (hB : Region.lexTailB .any L.toArray k = true) (hd : L.all noDefer = true) (hQ : ¬ LetsOut Q)
    (h : wpStill P L.toArray { w with drawn := w.drawn + 1 } (fun a' => wpList P L.toArray Q (L.drop k) a' { w with drawn := w.drawn + 1 }) (L.take k) a) : (Code.region id L.toArray true).wpIn (Fence.wide.inRound l) n P Q a w := by
  have hno : ∀ (j : Nat) o, L.toArray[j]? = some o → ∀ c, o.op ≠ .defer c := fun j o hj => noDefer_spec (List.all_eq_true.1 hd o (List.mem_of_getElem? (by simpa using hj)))
  refine wpIn_region_any hm (any_round hno hQ _ _ _ _ ?_)
  simp only [Region.lexTailB, Bool.and_eq_true, decide_eq_true_eq] at hB
  obtain ⟨⟨⟨⟨h1, h2⟩, h3⟩, h4⟩, h5⟩ := hB
  have h2' : k < L.length := by simpa using h2
  have ht : (L.take k).length = k := by simp; omega
  have hr : (L.drop k).length = L.toArray.size - k := by simp
  have i0 : HeadInv .any L.toArray k (Array.replicate L.toArray.size false) := ⟨by simp, fun j oj _ hj => (by rw [getD_replicate_false] at hj; cases hj), fun t _ hx => getD_in (by simpa using hx) (getD_replicate_false _ _)⟩
  have H := wpAnyL_lex (md := .any) (g := L.toArray.size - k) h1 h3 h4 h2 (L.take k) 0 _ a (fun j hj => by rw [ht] at hj; simp [hj]) (by simpa using ht) i0 (by rw [ht]; exact h5) h
  have E := wpAny_of_head (Q' := Q) (g := L.toArray.size - k) (fun listed a' hL => by
    have e := wpAny_of_seq (md := .any) (Q' := Q) (L.drop k) k listed a' { w with drawn := w.drawn + 1 } (fun j => by simp [List.getElem?_drop]) (by rw [hr]; exact hL.1) hL.2
    rwa [hr] at e) _ _ _ H
  rwa [ht, show k + (L.toArray.size - k) = L.toArray.size by omega] at E
end
end Go.Proofs.Ytbgogcobkiaejac

/- The program's way back through the order, as mathematics over whatever numbers come; and what lies in memory meanwhile. No condition. -/
namespace Go.Proofs.Ytbgogcobkiaejac
set_option linter.unusedVariables false
set_option linter.unusedSimpArgs false
open Go.RowKit

/-- No cue that cue q names ends later than at v. -/
def pushTo (ls : List RCue) (q : Nat) (v : Int) (es : List Int) : Nat → List Int
  | 0 => es
  | j + 1 =>
    let r := pushTo ls q v es j
    r.set (nm ls q j) (if v < r.getD (nm ls q j) 0 then v else r.getD (nm ls q j) 0)
theorem push_len (ls : List RCue) (q : Nat) (v : Int) (es : List Int) : ∀ j, (pushTo ls q v es j).length = es.length := by
  intro j
  induction j with
  | zero => rfl
  | succ j ih => rw [pushTo]; simp only [List.length_set, ih]
/-- One cue of the way back: its start, and the ends of what it names. -/
def stepB (ls : List RCue) (s : List Int × List Int) (q : Nat) : List Int × List Int :=
  (s.1.set q (IntKind.i64.wrap (s.2.getD q 0 - (ls.getD q RCue.zero).f0)), pushTo ls q (IntKind.i64.wrap (s.2.getD q 0 - (ls.getD q RCue.zero).f0)) s.2 (nn ls q))
/-- A place of the order and the cue that stands there. -/
abbrev PairL (ls : List RCue) := { x : Nat × Nat // x.2 < ls.length }
def runB (ls : List RCue) (T : Int) (xs : List (PairL ls)) : List Int × List Int := xs.foldl (fun s x => stepB ls s x.1.2) (List.replicate ls.length 0, List.replicate ls.length T)
theorem run_snoc (ls : List RCue) (T : Int) (xs : List (PairL ls)) (x : PairL ls) : runB ls T (xs ++ [x]) = stepB ls (runB ls T xs) x.1.2 := by simp [runB]
theorem step_len (ls : List RCue) (s : List Int × List Int) (q : Nat) : (stepB ls s q).1.length = s.1.length ∧ (stepB ls s q).2.length = s.2.length := by
  unfold stepB
  simp only [List.length_set, push_len, and_self]
theorem run_len (ls : List RCue) (T : Int) (xs : List (PairL ls)) : (runB ls T xs).1.length = ls.length ∧ (runB ls T xs).2.length = ls.length := by
  have key : ∀ (xs : List (PairL ls)) (s : List Int × List Int), s.1.length = ls.length ∧ s.2.length = ls.length → (xs.foldl (fun s x => stepB ls s x.1.2) s).1.length = ls.length ∧ (xs.foldl (fun s x => stepB ls s x.1.2) s).2.length = ls.length := by
    intro xs
    induction xs with
    | nil => exact fun s h => h
    | cons x xs ih => exact fun s h => ih _ (by have := step_len ls s x.1.2; rw [this.1, this.2]; exact h)
  exact key xs _ ⟨by simp, by simp⟩
section
variable {ls : List RCue} (hok : cuesOk ls = true)
include hok
/-- What comes in round k of the way back. -/
def backAt (k : Nat) : PairL ls := ⟨(ls.length - 1 - k, pk ls (ls.length - 1 - k)), pk_lt hok (by have := (cuesOk_has hok).1; omega)⟩
def backs (k : Nat) : List (PairL ls) := (List.range k).map (backAt hok)
theorem backs_snoc (k : Nat) : backs hok (k + 1) = backs hok k ++ [backAt hok k] := by simp [backs, List.range_succ]
theorem backs_len (k : Nat) : (backs hok k).length = k := by simp [backs]
theorem push_pull {q : Nat} (hq : q < ls.length) {arr : List Int} (hl : arr.length = ls.length) : ∀ j, j ≤ nn ls (pk ls q) → pushTo ls (pk ls q) (arr.getD (pk ls q) 0) (endsL ls arr) j = endsL ls (pullTo ls (pk ls q) arr j) := by
  intro j
  induction j with
  | zero => intro _; rfl
  | succ j ih =>
    intro hj
    obtain ⟨_, _, _, ha⟩ := name_before hok hq (j := j) (by omega)
    rw [pushTo, ih (by omega)]
    exact endsL_pull ls (pk ls q) arr j hl ha (pull_own hok hq arr j (by omega))
theorem run_back : ∀ k, k ≤ ls.length → runB ls (playTime ls) (backs hok k) = (backTo ls k, endsL ls (lateTo ls k)) := by
  intro k
  induction k with
  | zero =>
    intro _
    show (List.replicate ls.length 0, List.replicate ls.length (playTime ls)) = (backTo ls 0, endsL ls (lateTo ls 0))
    rw [backTo, show lateTo ls 0 = lateInit ls ls.length from rfl, ends_init]
  | succ k ih =>
    intro hk
    have hq : ls.length - (k + 1) < ls.length := by omega
    have hp := pk_lt hok hq
    have hn := (cuesOk_has hok).1
    have b := late_in hok k (by omega) (pk ls (ls.length - (k + 1)))
    rw [backs_snoc, run_snoc, ih (by omega)]
    show stepB ls (backTo ls k, endsL ls (lateTo ls k)) (pk ls (ls.length - 1 - k)) = _
    rw [show ls.length - 1 - k = ls.length - (k + 1) by omega]
    unfold stepB
    simp only
    rw [endsL_at _ _ hp]
    have e : IntKind.i64.wrap ((lateTo ls k).getD (pk ls (ls.length - (k + 1))) 0 + (ls.getD (pk ls (ls.length - (k + 1))) RCue.zero).f0 - (ls.getD (pk ls (ls.length - (k + 1))) RCue.zero).f0) = (lateTo ls k).getD (pk ls (ls.length - (k + 1))) 0 := by
      rw [show ∀ x y : Int, x + y - y = x from fun x y => by omega]
      exact IntWalk.i64_in _ (by omega)
    rw [e, push_pull hok hq (late_len ls k) _ (Nat.le_refl _), ← back_step hok (by omega)]
    rfl
theorem run_all : (runB ls (playTime ls) (backs hok ls.length)).1 = latestStarts ls := by
  rw [run_back hok _ (Nat.le_refl _), back_all hok]
  unfold latestStarts
  rw [if_pos hok]
end

/-- What lies in memory on the way back: the boxes of the list, the starts and the ends; the rows of starts and ends. -/
structure LatW (w : World) (g0 g1 g3 g4 ge n ce : Nat) (lv : Value) (W : World) (s : List Int × List Int) : Prop where
  lst : W.cell? ⟨g0, 0, none⟩ = some lv
  sta : W.cell? ⟨g3, 0, none⟩ = some (.slice (some ⟨g1, 0, none⟩) n n)
  eds : W.cell? ⟨g4, 0, none⟩ = some (.slice (some ⟨ge, 0, none⟩) n ce)
  rs : OwnI W w.heap.size (.slice (some ⟨g1, 0, none⟩) n n) s.1
  re : OwnI W w.heap.size (.slice (some ⟨ge, 0, none⟩) n ce) s.2
  be : Below w.heap.size w W
structure LatA (g0 g1 g3 g4 ge : Nat) : Prop where
  h01 : g0 ≠ g1
  h0e : g0 ≠ ge
  h31 : g3 ≠ g1
  h3e : g3 ≠ ge
  h41 : g4 ≠ g1
  h4e : g4 ≠ ge
  h1e : g1 ≠ ge
section
variable {w W W' : World} {g0 g1 g3 g4 ge n ce : Nat} {lv : Value} {s : List Int × List Int}
theorem LatW.kept {row : Option Nat} (h : LatW w g0 g1 g3 g4 ge n ce lv W s) (hg : W.grownBy W' row) (hr : ∀ r, row = some r → w.heap.size ≤ r ∧ ∀ q, (q = g0 ∨ q = g1 ∨ q = g3 ∨ q = g4 ∨ q = ge) → q ≠ r) : LatW w g0 g1 g3 g4 ge n ce lv W' s := by
  have ne : ∀ q, (q = g0 ∨ q = g1 ∨ q = g3 ∨ q = g4 ∨ q = ge) → some q ≠ row := fun q hq e => (hr q e.symm).2 q hq rfl
  exact ⟨hg.cell h.lst (ne g0 (by simp)), hg.cell h.sta (ne g3 (by simp)), hg.cell h.eds (ne g4 (by simp)), h.rs.kept hg (.inr (ne g1 (by simp))), h.re.kept hg (.inr (ne ge (by simp))), h.be.grown hg h.be.size (fun k e => (hr k e).1)⟩
theorem LatW.below (h : LatW w g0 g1 g3 g4 ge n ce lv W s) (hb : Below W.heap.size W W') : LatW w g0 g1 g3 g4 ge n ce lv W' s := h.kept (grown_of_below hb none) (fun r e => by cases e)
theorem LatW.lt (h : LatW w g0 g1 g3 g4 ge n ce lv W s) : ∀ q, (q = g0 ∨ q = g1 ∨ q = g3 ∨ q = g4 ∨ q = ge) → q < W.heap.size := by
  rintro q (rfl | rfl | rfl | rfl | rfl)
  · exact World.block_lt_of_cell? W _ h.lst
  · exact (h.rs.lt _ rfl).2
  · exact World.block_lt_of_cell? W _ h.sta
  · exact World.block_lt_of_cell? W _ h.eds
  · exact (h.re.lt _ rfl).2
theorem LatW.setS (h : LatW w g0 g1 g3 g4 ge n ce lv W s) (ha : LatA g0 g1 g3 g4 ge) (hn : n = s.1.length) (k : Nat) (z : Int) : LatW w g0 g1 g3 g4 ge n ce lv (W.setCell ⟨g1, k, none⟩ (.int .i64 z)) (s.1.set k z, s.2) := by
  have S := h.rs.set hn k z
  have hb := (h.rs.lt g1 rfl).1
  exact ⟨S.2.cell h.lst (fun e => ha.h01 (Option.some.inj e)), S.2.cell h.sta (fun e => ha.h31 (Option.some.inj e)), S.2.cell h.eds (fun e => ha.h41 (Option.some.inj e)), S.1, h.re.kept S.2 (.inr (fun e => ha.h1e (Option.some.inj e).symm)), h.be.grown S.2 h.be.size (fun k e => by have := Option.some.inj e; omega)⟩
theorem LatW.setE (h : LatW w g0 g1 g3 g4 ge n ce lv W s) (ha : LatA g0 g1 g3 g4 ge) (hn : n = s.2.length) (k : Nat) (z : Int) : LatW w g0 g1 g3 g4 ge n ce lv (W.setCell ⟨ge, k, none⟩ (.int .i64 z)) (s.1, s.2.set k z) := by
  have S := h.re.set hn k z
  have hb := (h.re.lt ge rfl).1
  exact ⟨S.2.cell h.lst (fun e => ha.h0e (Option.some.inj e)), S.2.cell h.sta (fun e => ha.h3e (Option.some.inj e)), S.2.cell h.eds (fun e => ha.h4e (Option.some.inj e)), h.rs.kept S.2 (.inr (fun e => ha.h1e (Option.some.inj e))), S.1, h.be.grown S.2 h.be.size (fun k e => by have := Option.some.inj e; omega)⟩
/-- Two blocks are kept. -/
def Keep2 (b1 b2 : Nat) (W W' : World) : Prop := ∀ (a : Addr) (v : Value), a.block = b1 ∨ a.block = b2 → W.cell? a = some v → W'.cell? a = some v
theorem Keep2.refl (b1 b2 : Nat) (W : World) : Keep2 b1 b2 W W := fun _ _ _ h => h
theorem Keep2.trans {b1 b2 : Nat} {A B C : World} (h : Keep2 b1 b2 A B) (k : Keep2 b1 b2 B C) : Keep2 b1 b2 A C := fun a v hb hc => k a v hb (h a v hb hc)
theorem Keep2.grown {b1 b2 : Nat} {A B : World} {row : Option Nat} (hg : A.grownBy B row) (h1 : some b1 ≠ row) (h2 : some b2 ≠ row) : Keep2 b1 b2 A B := fun a v hb hc => hg.cell hc (by
  rcases hb with e | e <;> rw [e]
  · exact h1
  · exact h2)
theorem Keep2.put {b1 b2 : Nat} (W : World) (l : Nat) (o o' : Obj) (h : W.heap[l]? = some o) (ho : o.isCells = false) : Keep2 b1 b2 W (W.putObj l o') := fun a v hb hc =>
  cell_kept hc (grownBy_putObj' W l o') (fun r e => by cases e; exact ⟨o, h, ho⟩)
end
/-- A box of one value that may be written. -/
def Bx (W : World) (b : Nat) (v : Value) : Prop := W.cell? ⟨b, 0, none⟩ = some v ∧ W.frozen? ⟨b, 0, none⟩ = false
section
variable {W W' : World} {b : Nat} {v : Value}
theorem Bx.below (h : Bx W b v) (hb : Below W.heap.size W W') : Bx W' b v := ⟨cell_below h.1 hb, (hb.frozen (World.block_lt_of_cell? W _ h.1)).trans h.2⟩
theorem Bx.new (W : World) (v : Value) (t : TypeId) : Bx (W.alloc (.cells #[v] t)) W.heap.size v := ⟨by simp [go_sem], by simp [go_sem]⟩
theorem Bx.alloc (h : Bx W b v) (o : Obj) : Bx (W.alloc o) b v := h.below ((Below.refl _ _).alloc (Nat.le_refl _) _)
theorem below_one (W : World) (o : Obj) (hb : Below (W.alloc o).heap.size (W.alloc o) W') : Below W.heap.size W W' := ((Below.refl _ W).alloc (Nat.le_refl _) o).trans (hb.mono (by simp))
theorem below_two (W : World) (o o' : Obj) (hb : Below ((W.alloc o).alloc o').heap.size ((W.alloc o).alloc o') W') : Below W.heap.size W W' := below_one W o (below_one (W.alloc o) o' hb)
/-- The ends' box is written: all that the way back needs lies there. -/
theorem LatW.made {w : World} {g0 g1 g3 g4 ge n ce : Nat} {lv u : Value} {s : List Int × List Int} (h4 : Bx W g4 u) (h0 : W.cell? ⟨g0, 0, none⟩ = some lv) (h3 : W.cell? ⟨g3, 0, none⟩ = some (.slice (some ⟨g1, 0, none⟩) n n)) (hs : OwnI W w.heap.size (.slice (some ⟨g1, 0, none⟩) n n) s.1) (he : OwnI W w.heap.size (.slice (some ⟨ge, 0, none⟩) n ce) s.2) (hb : Below w.heap.size w W)
    (hw : w.heap.size ≤ g4) (a0 : g0 ≠ g4) (a1 : g1 ≠ g4) (a3 : g3 ≠ g4) (ae : ge ≠ g4) : LatW w g0 g1 g3 g4 ge n ce lv (W.setCell ⟨g4, 0, none⟩ (.slice (some ⟨ge, 0, none⟩) n ce)) s := by
  have hg := grown_cell W ⟨g4, 0, none⟩ (.slice (some ⟨ge, 0, none⟩) n ce)
  exact ⟨hg.cell h0 (fun e => a0 (Option.some.inj e)), hg.cell h3 (fun e => a3 (Option.some.inj e)), World.cell?_setCell_same _ _ _ h4.1, hs.kept hg (.inr (fun e => a1 (Option.some.inj e))), he.kept hg (.inr (fun e => ae (Option.some.inj e))), hb.grown hg hb.size (fun k e => by have := Option.some.inj e; simp only at this; omega)⟩
end
end Go.Proofs.Ytbgogcobkiaejac
