/- Texts of this seat laid together, each with its own first sentence below: Rng MadZ TiuI Bits SetI PosM CwaS. -/
import Derived.Test.YtbgogcobkiaejacPk7
import Derived.Test.YtbgogcobkiaejacPk1
import Derived.Test.YtbgogcobkiaejacPk6
import Derived.Test.YtbgogcobkiaejacPk2
import Derived.Test.YtbgogcobkiaejacPk5
import Derived.BigQuiet
import Derived.StillTailTactics
import Derived.OwnWalk
import Derived.RegionTactic
import Derived.BigRegion
import Derived.Deep.RegionHeld3
/- The contract of the program's look whether all numbers of a row lie in a range. Condition: the numbers lie in a row of their own. -/
namespace Go.Proofs.Ytbgogcobkiaejac
set_option linter.unusedVariables false
open Go.RowKit

/-- Are all numbers from lo to hi? -/
def allIn (lo hi : Int) (zs : List Int) : Bool := zs.all fun x => inB x lo hi
theorem allIn_more {lo hi : Int} {zs : List Int} {k : Nat} (h : k < zs.length) : allIn lo hi (zs.take (k + 1)) = (allIn lo hi (zs.take k) && inB zs[k] lo hi) := by
  unfold allIn
  rw [List.take_succ_eq_append_getElem h, List.all_append]
  simp
theorem allIn_miss {lo hi : Int} {zs : List Int} {k : Nat} (h : k < zs.length) (hx : inB zs[k] lo hi = false) : allIn lo hi zs = false := by
  unfold allIn
  rw [List.all_eq_false]
  exact ⟨_, List.getElem_mem h, by simp [hx]⟩
theorem allIn_at {lo hi : Int} {zs : List Int} (h : allIn lo hi zs = true) {k : Nat} (hk : k < zs.length) : lo ≤ zs[k] ∧ zs[k] ≤ hi := by
  unfold allIn at h
  simpa [inB] using List.all_eq_true.1 h _ (List.getElem_mem hk)

set_option maxHeartbeats 800000 in
theorem allIn_any (v : Value) (zs : List Int) (lo hi : Int) (b : Nat) (w : World) (h : OwnI w b v zs) (hl : zs.length ≤ 2000000) :
    Calls Try.prog 66 #[v, .int .i64 lo, .int .i64 hi] w fun e w' => e = .returned (.bool (allIn lo hi zs)) ∧ w' = w := by
  obtain ⟨A, a, rfl⟩ := h.slice
  have O := Lib.hid h
  have C0 := Lib.hid (fun v lo hi W => (inRange_any v lo hi W).mono fun e w' h => (show _ ∧ W = w' from ⟨h.1, h.2.symm⟩))
  clear h
  go_enter Try.func66, Try.ntmps66
  go_wp2
  go_loopw [11] (fun iv wr => w = wr ∧ ∃ k : Nat, k ≤ zs.length ∧ iv = .int .i64 (k : Int) ∧ Hid (allIn lo hi (zs.take k) = true)) (fun iv _ => zs.length - (intOf iv).toNat)
  case atStart => exact ⟨rfl, 0, by omega, rfl, rfl⟩
  case round =>
    obtain ⟨rfl, k, hk, rfl, HA⟩ := hrel
    by_cases hlt : k < zs.length
    · obtain ⟨g, _, f1, _, _, z0, _⟩ := O.out.spot hlt
      simp only [Value.slice.injEq] at f1
      obtain ⟨rfl, em, rfl⟩ := f1
      clear em
      have hk0 : (0 : Int) ≤ (k : Int) := by omega
      have hk1 : (k : Int) < (zs.length : Int) := by omega
      have AM := Lib.hid (allIn_more (lo := lo) (hi := hi) hlt)
      have NO := Lib.hid (fun hx => allIn_miss (lo := lo) (hi := hi) hlt hx)
      generalize zs[k] = x at z0 AM NO
      cases hx : inB x lo hi with
      | false =>
        have R := Lib.hid (NO.out hx)
        go_wp2_with (go_at_call 58; refine (C0.out _ _ _ _).mono ?_; rintro e w' ⟨rfl, rfl⟩)
        go_ret
        exact ⟨by rw [R.out]; rfl, rfl⟩
      | true =>
        have A2 := Lib.hid (show allIn lo hi (zs.take (k + 1)) = true by rw [AM.out, HA.out]; exact hx)
        go_wp2_with (go_at_call 58; refine (C0.out _ _ _ _).mono ?_; rintro e w' ⟨rfl, rfl⟩)
        exact ⟨⟨by trivial, k + 1, by omega, by go_num, A2⟩, by simp [intOf]; omega⟩
    · obtain rfl : k = zs.length := by omega
      have R := Lib.hid (show allIn lo hi zs = true by have := HA.out; rwa [List.take_length] at this)
      go_wp2
      go_ret
      exact ⟨by rw [R.out]; rfl, rfl⟩
end Go.Proofs.Ytbgogcobkiaejac

/- A row of numbers made by make is a row of zeros of the call's own. No condition. -/
namespace Go.Proofs.Ytbgogcobkiaejac
set_option linter.unusedVariables false
set_option linter.unusedSimpArgs false
open Go.RowKit

theorem madeZero {w : World} {base g n : Nat} (h : w.ownsRow base 3 1 (.slice (some ⟨g, 0, none⟩) n n) n (madeCells (Value.int .i64 0).cells (n * 1)).toList) : OwnI w base (.slice (some ⟨g, 0, none⟩) n n) (List.replicate n 0) := by
  have e : (madeCells (Value.int .i64 0).cells (n * 1)).toList = (List.replicate n (0 : Int)).map intV := by
    refine List.ext_getElem (by simp [size_madeCells]) fun i h1 h2 => ?_
    simp only [madeCells, Array.getElem_toList, Array.getElem_map, Array.getElem_range, List.getElem_map, List.getElem_replicate]
    rw [show i % (Value.int .i64 0).cells.size = 0 from Nat.mod_one i]
    rfl
  unfold OwnI
  rw [List.length_replicate, ← e]
  exact h
end Go.Proofs.Ytbgogcobkiaejac

/- The contracts of the program's areStartsFor, endsOf, waitsAtOnce and havePuppetInCommon. Condition: the cues and the numbers lie in rows of their own. -/
namespace Go.Proofs.Ytbgogcobkiaejac
set_option linter.unusedVariables false
set_option linter.unusedSimpArgs false
open Go.RowKit

set_option maxRecDepth 100000 in
theorem implStr (A : Option Addr) (n c : Nat) (u : Value) (zs : List Int) (b2 : Nat) (w : World) (h2 : OwnI w b2 u zs) (hz : zs.length ≤ 2000000) :
    Calls Try.prog 48 #[.slice A n c, u] w fun e w' => e = .returned (.bool (decide (zs.length = n) && allIn 0 10000 zs)) ∧ w = w' := by
  have C := Lib.hid ((allIn_any u zs 0 10000 b2 w h2 hz).mono fun e w' h => (show _ ∧ w = w' from ⟨h.1, h.2.symm⟩))
  obtain ⟨D, d, rfl⟩ := h2.slice
  clear h2
  by_cases hlen : zs.length = n
  · subst hlen
    rw [decide_eq_true rfl, Bool.true_and]
    generalize allIn 0 10000 zs = bb at C
    generalize zs.length = m at *
    go_enter Try.func48, Try.ntmps48
    go_wp2_with (go_at_call 66; refine C.out.mono ?_; rintro e w' ⟨rfl, rfl⟩)
    go_ret
    exact ⟨rfl, rfl⟩
  · have hne : ((zs.length : Int) == (n : Int)) = false := by rw [beq_eq_false_iff_ne]; omega
    rw [decide_eq_false hlen, Bool.false_and]
    clear C
    generalize zs.length = m at *
    go_enter Try.func48, Try.ntmps48
    go_wp2
    go_ret
    exact ⟨rfl, rfl⟩

set_option maxRecDepth 100000 in
set_option maxHeartbeats 1600000 in
theorem implEnds (v : Value) (ls : List RCue) (b : Nat) (w : World) (h : OwnCue w b v ls) (hok : cuesOk ls = true) (u : Value) (zs : List Int) (b2 : Nat) (h2 : OwnI w b2 u zs) (hz : zs.length = ls.length) (hr : ∀ k, 0 ≤ zs.getD k 0 ∧ zs.getD k 0 ≤ 10000) :
    Calls Try.prog 45 #[v, u] w (IntsPost w (endsL ls zs)) := by
  obtain ⟨i0, hi0, hz0, hz1, hz2⟩ := info_parts info_int
  obtain ⟨A, c, rfl⟩ := h.slice
  obtain ⟨D, d, rfl⟩ := h2.slice
  have hn := (cuesOk_has hok).1
  have O := Lib.hid h
  have Z := Lib.hid h2
  have HOK := Lib.hid hok
  have HZ := Lib.hid hz
  have HR := Lib.hid hr
  have SETS := Lib.hid (endRow_set ls zs)
  have gA : ∀ (zs : List Int) t (ht : t < zs.length), zs[t] = zs.getD t 0 := fun zs t ht => by rw [List.getD_eq_getElem?_getD, List.getElem?_eq_getElem ht]; rfl
  have GA := Lib.hid gA
  rw [hz] at Z ⊢
  clear h h2 hok hz hr gA
  go_enter Try.func45, Try.ntmps45
  go_wp2_with (
    refine wpList_make_full _ rfl _ _ 26 rfl w.heap.size 3 i0 (.int .i64 0) 1 Try.underlying26 hi0 hz0 hz1 .i64 .i64 _ _ ls.length rfl rfl rfl rfl (by rw [hz2]; omega) (by simp only [maxLen]; omega) (by simp) ?_
    intro w2 own2 grown2
    have P2 := Lib.hid (show OwnI w2 w.heap.size (.slice (some ⟨w.heap.size, 0, none⟩) ls.length ls.length) (endRow ls zs 0) by rw [endRow_zero]; exact madeZero own2)
    have B2 := Lib.hid (below_of_grown grown2)
    clear own2 grown2)
  go_loopw [12] (fun iv wr => ∃ k : Nat, k ≤ ls.length ∧ iv = .int .i64 (k : Int) ∧ Hid (OwnI wr w.heap.size (.slice (some ⟨w.heap.size, 0, none⟩) ls.length ls.length) (endRow ls zs k)) ∧ Hid (Below w.heap.size w wr)) (fun iv _ => ls.length - (intOf iv).toNat)
  case atStart => exact ⟨0, by omega, rfl, P2, B2⟩
  case round =>
    clear P2 B2
    obtain ⟨k, hk, rfl, PP, BW⟩ := hrel
    by_cases hlt : k < ls.length
    rotate_left
    · obtain rfl : k = ls.length := by omega
      have R := Lib.hid (endRow_all ls zs ▸ PP.out)
      go_wp2
      go_ret
      exact ⟨_, rfl, R.out, BW.out⟩
    have hk0 : (0 : Int) ≤ (k : Int) := by omega
    have hk1 : (k : Int) < (ls.length : Int) := by omega
    obtain ⟨g, _, _, _, _, _, f1, -, ⟨t0, -, -⟩, -⟩ := (O.out.below BW.out).spot hlt
    simp only [Value.slice.injEq] at f1
    obtain ⟨rfl, -, -⟩ := f1
    obtain ⟨gz, _, f2, -, -, z0, -⟩ := (Z.out.below BW.out).spot (k := k) (by rw [HZ.out]; exact hlt)
    simp only [Value.slice.injEq] at f2
    obtain ⟨rfl, -, -⟩ := f2
    rw [GA.out] at z0
    rw [show ls[k] = ls.getD k RCue.zero from by rw [List.getD_eq_getElem?_getD, List.getElem?_eq_getElem hlt]; rfl] at t0
    have ft := (cue_fine HOK.out hlt).1
    have fz := HR.out k
    have NX := Lib.hid (SETS.out k)
    have SET := PP.out.set (by rw [endRow_len]) k (zs.getD k 0 + (ls.getD k RCue.zero).f0)
    rw [NX.out] at SET
    obtain ⟨_, _, f3, -, -, u0, uf⟩ := PP.out.spot (k := k) (by rw [endRow_len]; exact hlt)
    simp only [Value.slice.injEq, Option.some.injEq, Addr.mk.injEq] at f3
    obtain ⟨⟨rfl, -⟩, -, -⟩ := f3
    generalize (endRow ls zs k)[k]'(by rw [endRow_len]; exact hlt) = y0 at u0
    have hbs := BW.out.size
    have S2 := Lib.hid SET.1
    have B2 := Lib.hid (BW.out.grown SET.2 hbs (fun q hq => by have := Option.some.inj hq; omega))
    clear SET NX
    generalize zs.getD k 0 = x at z0 fz S2 B2
    generalize (ls.getD k RCue.zero).f0 = t at t0 ft S2 B2
    have ew : IntKind.i64.wrap (x + t) = x + t := IntWalk.i64_in _ (by omega)
    go_wp2_with fail
    go_still_tail 13, (by kernel_rfl)
    go_wp2
    exact ⟨⟨k + 1, by omega, by go_num, Lib.hid (S2.out.below (Below.refl _ _).drew), Lib.hid B2.out.drew⟩, by simp [intOf]; omega⟩

set_option maxRecDepth 100000 in
theorem implWts (v : Value) (ls : List RCue) (b : Nat) (w : World) (h : OwnCue w b v ls) (hl : bulkCue ls ≤ 1048576) (k q : Nat) (hk : k < ls.length) :
    Calls Try.prog 40 #[v, .int .i64 (k : Int), .int .i64 (q : Int)] w fun e w' => e = .returned (.bool (waitP ls k q)) ∧ Below w.heap.size w w' := by
  obtain ⟨A, c, rfl⟩ := h.slice
  have hbl := bulkCue_len ls
  have hr : ls[k].f1.length ≤ 2000000 := by have := bulkCue_row ls k hk; omega
  obtain ⟨g, cg, A1, c1, A2, c2, f1, -, ⟨-, x1, -⟩, ⟨o1, -⟩, -⟩ := h.spot hk
  simp only [Value.slice.injEq] at f1
  obtain ⟨rfl, -, rfl⟩ := f1
  have C := Lib.hid (fun W v bb (hW : OwnI W bb v ls[k].f1) => contains_any v ls[k].f1 bb W hW hr (q : Int))
  have OW := Lib.hid o1
  have R := Lib.hid (show waitP ls k q = hasZ ls[k].f1 (q : Int) by unfold waitP hasZ; rw [List.getD_eq_getElem?_getD, List.getElem?_eq_getElem hk]; rfl)
  have hk0 : (0 : Int) ≤ (k : Int) := by omega
  have hk1 : (k : Int) < (ls.length : Int) := by omega
  clear h o1 hl hbl
  rw [R.out]
  generalize hasZ ls[k].f1 (q : Int) = bb at C
  generalize ls[k].f1.length = m at *
  go_enter Try.func40, Try.ntmps40
  go_wp2_with (go_at_call 61; refine (C.out _ _ _ OW.out).mono ?_; rintro e w' ⟨rfl, rfl⟩)
  go_ret
  exact ⟨rfl, Below.refl _ _⟩

set_option maxRecDepth 100000 in
set_option maxHeartbeats 1600000 in
theorem implHav (t1 t2 : Int) (A1 A2 : Option Addr) (n1 c1 n2 c2 : Nat) (x1 x2 : Value) (xs ys : List Int) (b1 b2 : Nat) (w : World) (h1 : OwnI w b1 x1 xs) (h2 : OwnI w b2 x2 ys) (l1 : xs.length ≤ 2000000) (l2 : ys.length ≤ 2000000) :
    Calls Try.prog 47 #[.agg #[.int .i64 t1, .slice A1 n1 c1, x1], .agg #[.int .i64 t2, .slice A2 n2 c2, x2]] w fun e w' => e = .returned (.bool (commonB xs ys)) ∧ Below w.heap.size w w' := by
  have CC := Lib.hid (fun W h z => contains_any x2 ys b2 W h l2 z)
  obtain ⟨X, cx, rfl⟩ := h1.slice
  obtain ⟨Y, cy, rfl⟩ := h2.slice
  obtain ⟨W2, hW⟩ : ∃ W, W = (w.alloc (.cells #[.int .i64 t1, .slice A1 n1 c1, .slice X xs.length cx] 33)).alloc (.cells #[.int .i64 t2, .slice A2 n2 c2, .slice Y ys.length cy] 33) := ⟨_, rfl⟩
  have BA := Lib.hid (show Below w.heap.size w W2 by rw [hW]; exact ((Below.refl w.heap.size w).alloc (Nat.le_refl _) _).alloc (by simp) _)
  have H1 := Lib.hid (show OwnI W2 b1 (.slice X xs.length cx) xs by rw [hW]; exact (h1.alloc _).alloc _)
  have H2 := Lib.hid (show OwnI W2 b2 (.slice Y ys.length cy) ys by rw [hW]; exact (h2.alloc _).alloc _)
  have v1 : W2.cell? ⟨w.heap.size, 2, none⟩ = some (.slice X xs.length cx) := by rw [hW]; simp [go_sem]
  have v2 : W2.cell? ⟨w.heap.size + 1, 2, none⟩ = some (.slice Y ys.length cy) := by rw [hW]; simp [go_sem]
  have HW := Lib.hid hW
  have YES := Lib.hid (fun i (hi : i < xs.length) (h : hasZ ys xs[i] = true) => (show commonB xs ys = true from List.any_eq_true.2 ⟨xs[i], List.getElem_mem hi, by
    obtain ⟨y, hy, e⟩ := List.any_eq_true.1 h
    exact List.any_eq_true.2 ⟨y, hy, decide_eq_true (of_decide_eq_true e).symm⟩⟩))
  have NO := Lib.hid (fun (h : ∀ i (hi : i < xs.length), hasZ ys xs[i] = false) => (show commonB xs ys = false from common_no fun i hi k hk e => by
    have a := h i hi
    rw [hasZ_yes hk e.symm] at a
    cases a))
  clear h1 h2 hW
  go_enter Try.func47, Try.ntmps47
  go_wp2_with fail
  go_loopw [10] (fun iv wr => wr = W2 ∧ ∃ i : Nat, i ≤ xs.length ∧ iv = .int .i64 (i : Int) ∧ Hid (∀ p (hp : p < xs.length), p < i → hasZ ys xs[p] = false)) (fun iv _ => xs.length - (intOf iv).toNat)
  case atStart => exact ⟨HW.out.symm, 0, by omega, rfl, Lib.hid (fun p hp h => absurd h (by omega))⟩
  case round =>
    obtain ⟨rfl, i, hi, rfl, NN⟩ := hrel
    by_cases hlt : i < xs.length
    rotate_left
    · obtain rfl : i = xs.length := by omega
      have R := Lib.hid (NO.out fun p hp => NN.out p hp hp)
      go_wp2
      go_ret
      exact ⟨by rw [R.out]; rfl, BA.out⟩
    have hi0 : (0 : Int) ≤ (i : Int) := by omega
    have hi1 : (i : Int) < (xs.length : Int) := by omega
    obtain ⟨gx, _, f1, _, _, z1, _⟩ := H1.out.spot hlt
    simp only [Value.slice.injEq] at f1
    obtain ⟨rfl, -, -⟩ := f1
    have Y := Lib.hid (YES.out i hlt)
    have N2 := Lib.hid (fun (e : hasZ ys xs[i] = false) => (show ∀ p (hp : p < xs.length), p < i + 1 → hasZ ys xs[p] = false from fun p hp h => by
      rcases (by omega : p < i ∨ p = i) with q | rfl
      · exact NN.out p hp q
      · exact e))
    generalize xs[i] = z at z1 Y N2
    have C1 := Lib.hid (CC.out _ H2.out z)
    cases hb : hasZ ys z with
    | true =>
      have R := Lib.hid (Y.out hb)
      rw [hb] at C1
      clear hb N2 Y
      go_wp2_with (go_at_call 61; refine C1.out.mono ?_; rintro e w' ⟨rfl, rfl⟩)
      go_ret
      exact ⟨by rw [R.out]; rfl, BA.out⟩
    | false =>
      have N3 := Lib.hid (N2.out hb)
      rw [hb] at C1
      clear hb N2 Y
      go_wp2_with (go_at_call 61; refine C1.out.mono ?_; rintro e w' ⟨rfl, rfl⟩)
      exact ⟨⟨trivial, i + 1, by omega, by go_num, N3⟩, by simp [intOf]; omega⟩
end Go.Proofs.Ytbgogcobkiaejac

/- Sets of small numbers as bits of an int: what '|', '&', '<<' and '>>' give. No condition but that the sets lie below 2^62. -/
namespace Go.Proofs.Ytbgogcobkiaejac
set_option linter.unusedVariables false
set_option linter.unusedSimpArgs false
open Go.RowKit

theorem or_nat {s t : Nat} (hs : s < 2 ^ 62) (ht : t < 2 ^ 62) : bits .or .i64 (s : Int) (t : Int) = ((s ||| t : Nat) : Int) := by
  have h : s ||| t < 2 ^ 62 := Nat.or_lt_two_pow hs ht
  have e : bits .or .i64 (s : Int) (t : Int) = IntKind.i64.wrap (((BitVec.ofInt 64 (s : Int)) ||| (BitVec.ofInt 64 (t : Int))).toNat : Int) := rfl
  rw [e, BitVec.toNat_or, BitVec.ofInt_natCast, BitVec.ofInt_natCast, BitVec.toNat_ofNat, BitVec.toNat_ofNat, Nat.mod_eq_of_lt (by omega), Nat.mod_eq_of_lt (by omega)]
  exact IntWalk.i64_in _ (by omega)
theorem and_nat {s t : Nat} (hs : s < 2 ^ 62) (ht : t < 2 ^ 62) : bits .and .i64 (s : Int) (t : Int) = ((s &&& t : Nat) : Int) := by
  have h : s &&& t < 2 ^ 62 := Nat.and_lt_two_pow s ht
  have e : bits .and .i64 (s : Int) (t : Int) = IntKind.i64.wrap (((BitVec.ofInt 64 (s : Int)) &&& (BitVec.ofInt 64 (t : Int))).toNat : Int) := rfl
  rw [e, BitVec.toNat_and, BitVec.ofInt_natCast, BitVec.ofInt_natCast, BitVec.toNat_ofNat, BitVec.toNat_ofNat, Nat.mod_eq_of_lt (by omega), Nat.mod_eq_of_lt (by omega)]
  exact IntWalk.i64_in _ (by omega)
theorem shr_nat (s m : Nat) (hm : m ≤ 60) : (s : Int) / 2 ^ min m 64 = ((s >>> m : Nat) : Int) := by
  rw [Nat.min_eq_left (by omega), Nat.shiftRight_eq_div_pow]
  push_cast
  rfl
theorem bit_nat (s m : Nat) (hm : m ≤ 60) (hs : s < 2 ^ 62) : bits .and .i64 ((s : Int) / 2 ^ min m 64) 1 = if s.testBit m = true then 1 else 0 := by
  have h1 : s >>> m < 2 ^ 62 := Nat.lt_of_le_of_lt (by rw [Nat.shiftRight_eq_div_pow]; exact Nat.div_le_self _ _) hs
  rw [shr_nat s m hm, show (1 : Int) = ((1 : Nat) : Int) from rfl, and_nat h1 (by omega)]
  have e : s.testBit m = (1 &&& (s >>> m) != 0) := rfl
  rw [e, Nat.and_comm 1 (s >>> m), Nat.and_one_is_mod]
  rcases (by omega : s >>> m % 2 = 0 ∨ s >>> m % 2 = 1) with h | h <;> rw [h] <;> simp
theorem bit_nat2 (s m : Nat) (hm : m ≤ 60) (hs : s < 2 ^ 62) : bits .and .i64 ((s : Int) / 2 ^ m) 1 = if s.testBit m = true then 1 else 0 := by
  have h := bit_nat s m hm hs
  rwa [Nat.min_eq_left (by omega)] at h
theorem shl_nat (j : Nat) (hj : j ≤ 60) : IntKind.i64.wrap (2 ^ min j 64) = ((1 <<< j : Nat) : Int) := by
  have h : 2 ^ j < 2 ^ 61 := Nat.pow_lt_pow_right (by omega) (by omega)
  rw [Nat.min_eq_left (by omega), Nat.shiftLeft_eq, Nat.one_mul]
  have e : ((2 ^ j : Nat) : Int) = (2 : Int) ^ j := by push_cast; rfl
  rw [← e]
  clear e
  generalize 2 ^ j = p at h ⊢
  exact IntWalk.i64_in _ (by omega)
theorem shl_nat64 (j : Nat) (hj : j ≤ 60) : wrap64 (2 ^ j) = ((1 <<< j : Nat) : Int) := by
  have h := shl_nat j hj
  rw [Nat.min_eq_left (by omega)] at h
  rw [← h]
  simp [wrap64, IntKind.wrap_i64]
end Go.Proofs.Ytbgogcobkiaejac

/- The contracts of the program's sets of cues: has, hasAll, with. Condition: the sets lie below 2^62, the numbers from 0 to 60. -/
namespace Go.Proofs.Ytbgogcobkiaejac
set_option linter.unusedVariables false
set_option linter.unusedSimpArgs false
open Go.RowKit

theorem or_natu {s t : Nat} (hs : s < 2 ^ 62) (ht : t < 2 ^ 62) : bits .or .u64 (s : Int) (t : Int) = ((s ||| t : Nat) : Int) := by
  have h : s ||| t < 2 ^ 62 := Nat.or_lt_two_pow hs ht
  have e : bits .or .u64 (s : Int) (t : Int) = IntKind.u64.wrap (((BitVec.ofInt 64 (s : Int)) ||| (BitVec.ofInt 64 (t : Int))).toNat : Int) := rfl
  rw [e, BitVec.toNat_or, BitVec.ofInt_natCast, BitVec.ofInt_natCast, BitVec.toNat_ofNat, BitVec.toNat_ofNat, Nat.mod_eq_of_lt (by omega), Nat.mod_eq_of_lt (by omega)]
  generalize s ||| t = x at h ⊢
  rw [IntKind.wrap_u64]
  omega
theorem and_natu {s t : Nat} (hs : s < 2 ^ 62) (ht : t < 2 ^ 62) : bits .and .u64 (s : Int) (t : Int) = ((s &&& t : Nat) : Int) := by
  have h : s &&& t < 2 ^ 62 := Nat.and_lt_two_pow s ht
  have e : bits .and .u64 (s : Int) (t : Int) = IntKind.u64.wrap (((BitVec.ofInt 64 (s : Int)) &&& (BitVec.ofInt 64 (t : Int))).toNat : Int) := rfl
  rw [e, BitVec.toNat_and, BitVec.ofInt_natCast, BitVec.ofInt_natCast, BitVec.toNat_ofNat, BitVec.toNat_ofNat, Nat.mod_eq_of_lt (by omega), Nat.mod_eq_of_lt (by omega)]
  generalize s &&& t = x at h ⊢
  rw [IntKind.wrap_u64]
  omega
theorem bit_natu (s m : Nat) (hm : m ≤ 60) (hs : s < 2 ^ 62) : bits .and .u64 ((s : Int) / 2 ^ min m 64) 1 = if s.testBit m = true then 1 else 0 := by
  have h1 : s >>> m < 2 ^ 62 := Nat.lt_of_le_of_lt (by rw [Nat.shiftRight_eq_div_pow]; exact Nat.div_le_self _ _) hs
  rw [shr_nat s m hm, show (1 : Int) = ((1 : Nat) : Int) from rfl, and_natu h1 (by omega)]
  have e : s.testBit m = (1 &&& (s >>> m) != 0) := rfl
  rw [e, Nat.and_comm 1 (s >>> m), Nat.and_one_is_mod]
  rcases (by omega : s >>> m % 2 = 0 ∨ s >>> m % 2 = 1) with h | h <;> rw [h] <;> simp
theorem bit_natu2 (s m : Nat) (hm : m ≤ 60) (hs : s < 2 ^ 62) : bits .and .u64 ((s : Int) / 2 ^ m) 1 = if s.testBit m = true then 1 else 0 := by
  have h := bit_natu s m hm hs
  rwa [Nat.min_eq_left (by omega)] at h
theorem shl_natu (j : Nat) (hj : j ≤ 60) : IntKind.u64.wrap (2 ^ j) = ((1 <<< j : Nat) : Int) := by
  have h : 2 ^ j < 2 ^ 61 := Nat.pow_lt_pow_right (by omega) (by omega)
  rw [Nat.shiftLeft_eq, Nat.one_mul]
  have e : ((2 ^ j : Nat) : Int) = (2 : Int) ^ j := by push_cast; rfl
  rw [← e]
  clear e
  generalize 2 ^ j = p at h ⊢
  rw [IntKind.wrap_u64]
  omega
theorem shl_natum (j : Nat) (hj : j ≤ 60) : IntKind.u64.wrap (2 ^ min j 64) = ((1 <<< j : Nat) : Int) := by
  rw [Nat.min_eq_left (by omega)]
  exact shl_natu j hj

theorem setHas (D k : Nat) (hk : k ≤ 60) (hD : D < 2 ^ 62) (w : World) :
    Calls Try.prog 79 #[.int .u64 (D : Int), .int .i64 (k : Int)] w fun e w' => e = .returned (.bool (D.testBit k)) ∧ w' = w := by
  have e1 := bit_natu D k hk hD
  have e2 := bit_natu2 D k hk hD
  have hk0 : (0 : Int) ≤ (k : Int) := by omega
  by_cases c : D.testBit k = true
  · rw [if_pos c] at e1 e2
    rw [c]
    clear c
    go_enter Try.func79, Try.ntmps79
    go_wp2
    go_ret
    exact ⟨rfl, rfl⟩
  · rw [if_neg c] at e1 e2
    have c : D.testBit k = false := by simpa using c
    rw [c]
    clear c
    go_enter Try.func79, Try.ntmps79
    go_wp2
    go_ret
    exact ⟨rfl, rfl⟩
theorem setWith (D k : Nat) (hk : k ≤ 60) (hD : D < 2 ^ 62) (w : World) :
    Calls Try.prog 65 #[.int .u64 (D : Int), .int .i64 (k : Int)] w fun e w' => e = .returned (.int .u64 ((D ||| 1 <<< k : Nat) : Int)) ∧ w' = w := by
  have e1 := shl_natu k hk
  have e2 := shl_natum k hk
  have hk0 : (0 : Int) ≤ (k : Int) := by omega
  have hq : 1 <<< k < 2 ^ 62 := by
    rw [Nat.shiftLeft_eq, Nat.one_mul]
    exact Nat.pow_lt_pow_right (by omega) (by omega)
  have e3 := or_natu hD hq
  generalize 1 <<< k = t at e1 e2 e3 ⊢
  generalize D ||| t = T at e3 ⊢
  clear hq
  go_enter Try.func65, Try.ntmps65
  go_wp2
  go_ret
  exact ⟨rfl, rfl⟩
def holdsAll (D : Nat) (zs : List Int) : Bool := zs.all fun z => D.testBit z.toNat
theorem holdsAll_iff (D : Nat) (zs : List Int) : holdsAll D zs = true ↔ ∀ i (h : i < zs.length), D.testBit zs[i].toNat = true := by
  unfold holdsAll
  rw [List.all_eq_true]
  exact ⟨fun h i hi => h _ (List.getElem_mem hi), fun h z hz => by obtain ⟨i, hi, rfl⟩ := List.mem_iff_getElem.1 hz; exact h i hi⟩

set_option maxRecDepth 100000 in
theorem setHasAll (D : Nat) (v : Value) (zs : List Int) (b : Nat) (w : World) (hD : D < 2 ^ 62) (h : OwnI w b v zs) (hl : zs.length ≤ 2000000) (hz : ∀ i (h : i < zs.length), 0 ≤ zs[i] ∧ zs[i] ≤ 60) :
    Calls Try.prog 80 #[.int .u64 (D : Int), v] w fun e w' => e = .returned (.bool (holdsAll D zs)) ∧ w' = w := by
  obtain ⟨A, c, rfl⟩ := h.slice
  have O := Lib.hid h
  have C0 := Lib.hid (fun k (hk : k ≤ 60) W => setHas D k hk hD W)
  have R1 := Lib.hid (fun h => (holdsAll_iff D zs).2 h)
  have R0 := Lib.hid (fun i (hi : i < zs.length) (h : D.testBit zs[i].toNat = false) => (show holdsAll D zs = false by
    cases q : holdsAll D zs with
    | false => rfl
    | true => rw [(holdsAll_iff D zs).1 q i hi] at h; cases h))
  have HZ := Lib.hid hz
  clear h hz
  go_enter Try.func80, Try.ntmps80
  go_wp2_with fail
  go_loopw [9] (fun iv wr => w = wr ∧ ∃ k : Nat, k ≤ zs.length ∧ iv = .int .i64 (k : Int) ∧ Hid (∀ i (hi : i < zs.length), i < k → D.testBit zs[i].toNat = true)) (fun iv _ => zs.length - (intOf iv).toNat)
  case atStart => exact ⟨rfl, 0, by omega, rfl, Lib.hid (fun i _ hi => absurd hi (by omega))⟩
  case round =>
    obtain ⟨rfl, k, hk, rfl, HT⟩ := hrel
    by_cases hlt : k < zs.length
    rotate_left
    · obtain rfl : k = zs.length := by omega
      have R := Lib.hid (R1.out (fun i hi => HT.out i hi hi))
      go_wp2
      go_ret
      exact ⟨by rw [R.out]; rfl, rfl⟩
    have hk0 : (0 : Int) ≤ (k : Int) := by omega
    have hk1 : (k : Int) < (zs.length : Int) := by omega
    obtain ⟨g, _, f1, -, -, z0, -⟩ := O.out.spot hlt
    simp only [Value.slice.injEq] at f1
    obtain ⟨rfl, -, -⟩ := f1
    have hr := HZ.out k hlt
    obtain ⟨x, hx⟩ := Int.eq_ofNat_of_zero_le hr.1
    have C1 := Lib.hid (fun W => (C0.out x (by omega) W).mono fun e w' h => (show _ ∧ W = w' from ⟨h.1, h.2.symm⟩))
    have RX := Lib.hid (show D.testBit x = false → holdsAll D zs = false from fun h => R0.out k hlt (by rw [hx, Int.toNat_natCast]; exact h))
    have NX := Lib.hid (show D.testBit x = true → ∀ i (hi : i < zs.length), i < k + 1 → D.testBit zs[i].toNat = true from fun h i hi hj => by
      rcases (by omega : i < k ∨ i = k) with q | rfl
      · exact HT.out i hi q
      · rw [hx, Int.toNat_natCast]; exact h)
    rw [hx] at z0
    clear hr hx
    cases hb : D.testBit x with
    | false =>
      have R := Lib.hid (RX.out hb)
      rw [hb] at C1
      clear hb RX NX
      go_wp2_with (go_at_call 79; refine (C1.out _).mono ?_; rintro e w' ⟨rfl, rfl⟩)
      go_ret
      exact ⟨by rw [R.out]; rfl, rfl⟩
    | true =>
      have N2 := Lib.hid (NX.out hb)
      rw [hb] at C1
      clear hb RX NX
      go_wp2_with (go_at_call 79; refine (C1.out _).mono ?_; rintro e w' ⟨rfl, rfl⟩)
      exact ⟨⟨trivial, k + 1, by omega, by go_num, N2⟩, by simp [intOf]; omega⟩
end Go.Proofs.Ytbgogcobkiaejac

/- The cues that can begin when those of a set are over, as the program looks for them (by After alone), and why this is what the reference finds (by all waiting). Plain mathematics. -/
namespace Go.Proofs.Ytbgogcobkiaejac
set_option linter.unusedVariables false
set_option linter.unusedSimpArgs false
open Go.RowKit

def progB (ls : List RCue) (D k : Nat) : Bool := !D.testBit k && holdsAll D (ls.getD k RCue.zero).f1
def possTo (ls : List RCue) (D : Nat) : Nat → List Int
  | 0 => []
  | k + 1 => if progB ls D k = true then possTo ls D k ++ [(k : Int)] else possTo ls D k
theorem possTo_len (ls : List RCue) (D k : Nat) : (possTo ls D k).length ≤ k := by
  induction k with
  | zero => exact Nat.le_refl _
  | succ k ih =>
    unfold possTo
    split
    · simp only [List.length_append, List.length_cons, List.length_nil]; omega
    · omega
theorem poss_in (ls : List RCue) (D : Nat) : ∀ n z, z ∈ possTo ls D n → ∃ k : Nat, z = (k : Int) ∧ k < n ∧ progB ls D k = true := by
  intro n
  induction n with
  | zero => intro z hz; simp [possTo] at hz
  | succ n ih =>
    intro z hz
    unfold possTo at hz
    split at hz
    · next c =>
      rw [List.mem_append, List.mem_singleton] at hz
      rcases hz with q | rfl
      · obtain ⟨k, h1, h2, h3⟩ := ih z q
        exact ⟨k, h1, by omega, h3⟩
      · exact ⟨n, rfl, by omega, c⟩
    · obtain ⟨k, h1, h2, h3⟩ := ih z hz
      exact ⟨k, h1, by omega, h3⟩
theorem poss_part (ls : List RCue) (D : Nat) : ∀ n q, q ≤ (possTo ls D n).length → ∃ K, K ≤ n ∧ (possTo ls D n).take q = possTo ls D K := by
  intro n
  induction n with
  | zero => intro q _; exact ⟨0, Nat.le_refl _, by simp [possTo]⟩
  | succ n ih =>
    intro q hq
    by_cases c : q ≤ (possTo ls D n).length
    · obtain ⟨K, h1, h2⟩ := ih q c
      refine ⟨K, by omega, ?_⟩
      rw [← h2]
      conv => lhs; unfold possTo
      split
      · exact List.take_append_of_le_length c
      · rfl
    · have e : q = (possTo ls D (n + 1)).length := by
        have h : (possTo ls D (n + 1)).length ≤ (possTo ls D n).length + 1 := by
          conv => lhs; unfold possTo
          split <;> simp
        omega
      exact ⟨n + 1, Nat.le_refl _, by rw [e]; exact List.take_length⟩
/-- Whoever is over, all that it waits for is over. -/
def Closed (W : List Nat) (n X : Nat) : Prop := ∀ j, j < n → X.testBit j = true → W.getD j 0 ||| X = X
theorem sub_iff (s D : Nat) : s ||| D = D ↔ ∀ j, s.testBit j = true → D.testBit j = true := by
  constructor
  · intro h j hj
    rw [← h, Nat.testBit_or, hj]
    rfl
  · intro h
    refine Nat.eq_of_testBit_eq fun j => ?_
    rw [Nat.testBit_or]
    cases c : s.testBit j with
    | false => rfl
    | true => rw [h j c]; rfl
theorem closed_put {W : List Nat} {n X k : Nat} (h : Closed W n X) (hk : W.getD k 0 ||| X = X) : Closed W n (X ||| 1 <<< k) := fun j hj hb => by
  rw [sub_iff]
  intro m hm
  rw [Nat.testBit_or, bit_one, Bool.or_eq_true, decide_eq_true_eq] at hb
  rw [Nat.testBit_or, Bool.or_eq_true]
  rcases hb with q | rfl
  · exact .inl ((sub_iff _ _).1 (h j hj q) m hm)
  · exact .inl ((sub_iff _ _).1 hk m hm)
theorem closed_none (W : List Nat) (n : Nat) : Closed W n 0 := fun j _ hb => by simp at hb
section
variable {ls : List RCue}
theorem rise_in {zs : List Int} {most : Int} (h : rising zs most = true) : ∀ i (hi : i < zs.length), 0 ≤ zs[i] ∧ zs[i] ≤ most := fun i hi => by
  have r := (rise_iff zs most zs.length).1 h i hi
  unfold riseAt at r
  rw [show zs.getD i 0 = zs[i] by rw [List.getD_eq_getElem?_getD, List.getElem?_eq_getElem hi]; rfl] at r
  simp only [Bool.and_eq_true] at r
  simpa [inB] using r.1
theorem fine_after {n : Nat} {l : RCue} (h : cueFine n l = true) : ∀ i (hi : i < l.f1.length), 0 ≤ l.f1[i] ∧ l.f1[i] ≤ (n : Int) - 1 := by
  unfold cueFine at h
  simp only [Bool.and_eq_true] at h
  exact rise_in h.2.1
/-- By After alone, or by all waiting: for a closed set it is the same. -/
theorem prog_free (hok : cuesOk ls = true) {D k : Nat} (hD : Closed (waitSet ls) ls.length D) (hk : k < ls.length) : progB ls D k = freeB (waitSet ls) D k := by
  unfold progB freeB
  congr 1
  rw [getC hk]
  have fine := fine_after ((cuesOk_has hok).2.1 k hk)
  have e : holdsAll D ls[k].f1 = true ↔ (waitSet ls).getD k 0 ||| D = D := by
    rw [holdsAll_iff, sub_iff]
    constructor
    · intro h m hm
      have go : ∀ a b, Way (Names ls) ls.length a b → (∀ x, Names ls a x → D.testBit x = true) → D.testBit b = true := by
        intro a b w
        induction w with
        | one e => exact fun H => H _ e
        | @cons i j b e hj _ ih => exact fun H => ih (fun x hx => (sub_iff _ _).1 (hD j hj (H _ e)) x ((wait_bit ls hj).2 (.one hx)))
      refine go k m ((wait_bit ls hk).1 hm) fun x hx => ?_
      obtain ⟨_, _, q, hq, ex⟩ := hx
      have hb := h q hq
      rw [List.getD_eq_getElem?_getD, List.getElem?_eq_getElem hq] at ex
      rw [show ls[k].f1[q] = (x : Int) from ex, Int.toNat_natCast] at hb
      exact hb
    · intro h i hi
      obtain ⟨x, hx⟩ := Int.eq_ofNat_of_zero_le (fine i hi).1
      have hxl : x < ls.length := by have := (fine i hi).2; omega
      rw [hx, Int.toNat_natCast]
      exact h x ((wait_bit ls hk).2 (.one ⟨hxl, hk, i, hi, by rw [List.getD_eq_getElem?_getD, List.getElem?_eq_getElem hi]; exact hx⟩))
  cases c : holdsAll D ls[k].f1 with
  | true => rw [decide_eq_true (e.1 c)]
  | false => rw [decide_eq_false (fun x => by rw [e.2 x] at c; cases c)]
theorem free_poss (hok : cuesOk ls = true) : ∀ n, n ≤ ls.length → possTo ls 0 n = freeTo ls n := by
  intro n
  induction n with
  | zero => intro _; rfl
  | succ n ih =>
    intro hn
    rw [possTo, freeTo, ih (by omega)]
    have e : progB ls 0 n = true ↔ (ls.getD n RCue.zero).f1.length = 0 := by
      unfold progB
      rw [show (!(Nat.testBit 0 n)) = true by simp, Bool.true_and, holdsAll_iff]
      constructor
      · intro h
        refine Classical.byContradiction fun c => ?_
        have := h 0 (by omega)
        simp at this
      · intro h i hi
        omega
    by_cases c : progB ls 0 n = true
    · rw [if_pos c, if_pos (e.1 c)]
    · rw [if_neg c, if_neg (fun x => c (e.2 x))]
/-- The least one that is possible stands first. -/
theorem poss_first (hok : cuesOk ls = true) {D : Nat} (hD : Closed (waitSet ls) ls.length D) : ∀ n, n ≤ ls.length → (nextTo (waitSet ls) D n = -1 ∧ possTo ls D n = []) ∨ (0 ≤ nextTo (waitSet ls) D n ∧ ∃ t, possTo ls D n = nextTo (waitSet ls) D n :: t) := by
  intro n
  induction n with
  | zero => intro _; exact .inl ⟨rfl, rfl⟩
  | succ n ih =>
    intro hn
    have e := prog_free hok hD (k := n) (by omega)
    rw [nextTo, possTo, e]
    rcases ih (by omega) with ⟨h1, h2⟩ | ⟨h1, t, h2⟩
    · rw [if_pos (by omega), h2]
      by_cases c : freeB (waitSet ls) D n = true
      · rw [if_pos c, if_pos c]
        exact .inr ⟨by omega, [], rfl⟩
      · rw [if_neg c, if_neg c]
        exact .inl ⟨rfl, rfl⟩
    · rw [if_neg (by omega)]
      refine .inr ⟨h1, ?_⟩
      by_cases c : freeB (waitSet ls) D n = true
      · rw [if_pos c, h2]
        exact ⟨_, rfl⟩
      · rw [if_neg c, h2]
        exact ⟨_, rfl⟩
theorem ord_closed (hok : cuesOk ls = true) : ∀ m, m ≤ ls.length → Closed (waitSet ls) ls.length (ordTo (waitSet ls) ls.length m).2 := by
  intro m
  induction m with
  | zero => intro _; exact closed_none _ _
  | succ m ih =>
    intro hm
    obtain ⟨_, hx⟩ := ord_at hok m (by omega)
    obtain ⟨k, hk, e, hf⟩ := hx (by omega)
    unfold freeB at hf
    simp only [Bool.and_eq_true, decide_eq_true_eq] at hf
    rw [ordTo, e, Int.toNat_natCast]
    exact closed_put (ih (by omega)) hf.2
/-- One step of the count. -/
def stepT (S : Nat) (T : List Nat) (k : Nat) : List Nat := T.set (S ||| 1 <<< k) (T.getD (S ||| 1 <<< k) 0 + T.getD S 0)
def foldT (S : Nat) (T : List Nat) (zs : List Int) : List Nat := zs.foldl (fun T z => stepT S T z.toNat) T
def progT (ls : List RCue) (S : Nat) (T : List Nat) (q : Nat) : List Nat := foldT S T ((possTo ls S ls.length).take q)
theorem progT_next {S q : Nat} {T : List Nat} (h : q < (possTo ls S ls.length).length) : progT ls S T (q + 1) = stepT S (progT ls S T q) (possTo ls S ls.length)[q].toNat := by
  unfold progT foldT
  rw [List.take_add_one, List.getElem?_eq_getElem h, List.foldl_append]
  rfl
theorem step_none {S k : Nat} {T : List Nat} (h : T.getD S 0 = 0) : stepT S T k = T := by
  unfold stepT
  rw [h, Nat.add_zero]
  refine List.ext_getElem (by simp) fun i h1 h2 => ?_
  by_cases c : S ||| 1 <<< k = i
  · subst c
    rw [List.getElem_set_self, List.getD_eq_getElem?_getD, List.getElem?_eq_getElem h2]
    rfl
  · rw [List.getElem_set_ne c]
theorem fold_none {S : Nat} {T : List Nat} (h : T.getD S 0 = 0) : ∀ zs, foldT S T zs = T := by
  intro zs
  induction zs with
  | nil => rfl
  | cons z zs ih => show foldT S (stepT S T z.toNat) zs = T; rw [step_none h]; exact ih
theorem cntK_none {W : List Nat} {S : Nat} {T : List Nat} (h : T.getD S 0 = 0) : ∀ k, cntK W S T k = T := by
  intro k
  induction k with
  | zero => rfl
  | succ k ih =>
    unfold cntK
    rw [ih]
    split
    · exact step_none h
    · rfl
theorem cntK_fold (hok : cuesOk ls = true) {S : Nat} {T : List Nat} (hS : Closed (waitSet ls) ls.length S) : ∀ K, K ≤ ls.length → foldT S T (possTo ls S K) = cntK (waitSet ls) S T K := by
  intro K
  induction K with
  | zero => intro _; rfl
  | succ K ih =>
    intro hK
    rw [possTo, cntK, prog_free hok hS (by omega), ← ih (by omega)]
    split
    · unfold foldT
      rw [List.foldl_append]
      show stepT S _ (K : Int).toNat = _
      rw [Int.toNat_natCast]
      rfl
    · rfl
/-- A set that is not closed is never come to. -/
def NoneAt (W : List Nat) (n : Nat) (T : List Nat) : Prop := ∀ X, ¬ Closed W n X → T.getD X 0 = 0
theorem none_next {W T : List Nat} {n S k : Nat} (h : NoneAt W n T) (hf : freeB W S k = true) : NoneAt W n (stepT S T k) := by
  by_cases c : Closed W n S
  · intro X hX
    unfold freeB at hf
    simp only [Bool.and_eq_true, decide_eq_true_eq] at hf
    have hne : S ||| 1 <<< k ≠ X := fun e => hX (e ▸ closed_put c hf.2)
    unfold stepT
    rw [List.getD_eq_getElem?_getD, List.getElem?_set_ne hne, ← List.getD_eq_getElem?_getD]
    exact h X hX
  · rw [step_none (h S c)]
    exact h
theorem none_row {W T : List Nat} {n S : Nat} (h : NoneAt W n T) : ∀ k, NoneAt W n (cntK W S T k) := by
  intro k
  induction k with
  | zero => exact h
  | succ k ih =>
    unfold cntK
    split
    · next c => exact none_next ih c
    · exact ih
theorem none_all (W : List Nat) (n : Nat) : ∀ S, NoneAt W n (cntS W n S) := by
  intro S
  induction S with
  | zero =>
    intro X hX
    have h0 : 0 ≠ X := fun e => hX (e ▸ closed_none W n)
    unfold cntS
    rw [List.getD_eq_getElem?_getD, List.getElem?_set_ne h0, List.getElem?_replicate]
    split <;> rfl
  | succ S ih => exact none_row ih n
/-- The program's count comes by the same tables. -/
theorem progT_is (hok : cuesOk ls = true) (S q : Nat) (hq : q ≤ (possTo ls S ls.length).length) : ∃ K, K ≤ ls.length ∧ progT ls S (cntS (waitSet ls) ls.length S) q = cntK (waitSet ls) S (cntS (waitSet ls) ls.length S) K := by
  unfold progT
  by_cases c : Closed (waitSet ls) ls.length S
  · obtain ⟨K, h1, h2⟩ := poss_part ls S ls.length q hq
    exact ⟨K, h1, by rw [h2]; exact cntK_fold hok c K h1⟩
  · exact ⟨0, by omega, fold_none (none_all _ _ S S c) _⟩
theorem progT_all (hok : cuesOk ls = true) (S : Nat) : progT ls S (cntS (waitSet ls) ls.length S) (possTo ls S ls.length).length = cntS (waitSet ls) ls.length (S + 1) := by
  unfold progT
  rw [List.take_length, cntS]
  by_cases c : Closed (waitSet ls) ls.length S
  · exact cntK_fold hok c _ (Nat.le_refl _)
  · rw [fold_none (none_all _ _ S S c), cntK_none (none_all _ _ S S c)]
end
end Go.Proofs.Ytbgogcobkiaejac

/- The contract of spec.l11Waits. Condition: the cues lie in a row of their own, twelve at most. -/
namespace Go.Proofs.Ytbgogcobkiaejac
set_option linter.unusedVariables false
set_option linter.unusedSimpArgs false
open Go.RowKit

def natI (V : List Nat) : List Int := V.map fun (s : Nat) => (s : Int)
theorem natI_len (V : List Nat) : (natI V).length = V.length := by simp [natI]
theorem natI_set (V : List Nat) (i s : Nat) : (natI V).set i (s : Int) = natI (V.set i s) := by simp [natI, List.map_set]
theorem natI_at (V : List Nat) {i : Nat} (h : i < V.length) : (natI V)[i]'(by rw [natI_len]; exact h) = ((V.getD i 0 : Nat) : Int) := by
  simp only [natI, List.getElem_map]
  rw [List.getD_eq_getElem?_getD, List.getElem?_eq_getElem h]
  rfl
/-- The first i sets, and none yet for the others. -/
def rowsTo (ls : List RCue) (i : Nat) : List Nat := (rowsA ls).take i ++ List.replicate (ls.length - i) 0
theorem rowsA_len (ls : List RCue) : (rowsA ls).length = ls.length := by rw [rowsA, List.length_map]
theorem rowsTo_len (ls : List RCue) {i : Nat} (h : i ≤ ls.length) : (rowsTo ls i).length = ls.length := by
  unfold rowsTo
  rw [List.length_append, List.length_take, List.length_replicate, rowsA_len]
  omega
theorem rowsTo_all (ls : List RCue) : rowsTo ls ls.length = rowsA ls := by
  unfold rowsTo
  rw [Nat.sub_self, ← rowsA_len, List.take_length]
  simp
theorem rowsTo_zero (ls : List RCue) : rowsTo ls 0 = List.replicate ls.length 0 := by simp [rowsTo]
theorem rowsTo_put (ls : List RCue) {i s : Nat} (h : i < ls.length) : (rowsTo ls i).set i s = (rowsA ls).take i ++ s :: List.replicate (ls.length - (i + 1)) 0 := by
  unfold rowsTo
  have e : ((rowsA ls).take i).length = i := by rw [List.length_take, rowsA_len]; omega
  rw [List.set_append_right _ _ (by omega), e, Nat.sub_self, show ls.length - i = (ls.length - (i + 1)) + 1 by omega, List.replicate_succ, List.set_cons_zero]
theorem rowsTo_same (ls : List RCue) {i : Nat} (h : i < ls.length) : (rowsTo ls i).set i (afterTo ls.length ls[i].f1 0) = rowsTo ls i := by
  rw [rowsTo_put ls h]
  unfold rowsTo
  rw [show ls.length - i = (ls.length - (i + 1)) + 1 by omega, List.replicate_succ]
  rfl
theorem rowsTo_more (ls : List RCue) {i : Nat} (h : i < ls.length) : (rowsTo ls i).set i (afterTo ls.length ls[i].f1 ls[i].f1.length) = rowsTo ls (i + 1) := by
  rw [rowsTo_put ls h]
  unfold rowsTo
  have e : (rowsA ls).take (i + 1) = (rowsA ls).take i ++ [afterTo ls.length ls[i].f1 ls[i].f1.length] := by
    rw [List.take_succ_eq_append_getElem (by rw [rowsA_len]; exact h)]
    congr 2
    simp [rowsA]
  rw [e, List.append_assoc]
  rfl
theorem pass_lt {n m : Nat} {W : List Nat} (h : ∀ j, j < W.length → W.getD j 0 < 2 ^ n) {i j : Nat} (hi : i ≤ W.length) (hj : j < W.length) (hm : m < W.length) : (passTo m W i).getD j 0 < 2 ^ n := by
  rw [pass_at m W i hi j]
  split
  · exact Nat.or_lt_two_pow (h j hj) (h m hm)
  · exact h j hj
theorem pow_small {n : Nat} (h : n ≤ 12) : 2 ^ n ≤ 4096 := Nat.pow_le_pow_right (by omega) h

set_option maxRecDepth 100000 in
set_option maxHeartbeats 3200000 in
theorem specWaits (v : Value) (ls : List RCue) (b : Nat) (w : World) (h : OwnCue w b v ls) (hn : ls.length ≤ 12) (hl : bulkCue ls ≤ 1048576) :
    Calls Try.prog 71 #[v] w (IntsPost w (natI (waitSet ls))) := by
  obtain ⟨i0, hi0, hz0, hz1, hz2⟩ := info_parts info_int
  have C0 := Lib.hid (fun v lo hi W => (l01In_any v lo hi W).mono fun e w' h => (show _ ∧ W = w' from ⟨h.1, h.2.symm⟩))
  obtain ⟨A, c, rfl⟩ := h.slice
  have O := Lib.hid h
  have PS := Lib.hid (pow_small hn)
  have RW := Lib.hid (fun k (h : k < ls.length) => (show ls[k].f1.length ≤ 1048576 by have := bulkCue_row ls k h; omega))
  clear h
  have en : IntKind.i64.wrap ((ls.length : Int) - 1) = (ls.length : Int) - 1 := IntWalk.i64_in _ (by omega)
  go_enter Try.func71, Try.ntmps71
  go_wp2_with (refine wpList_make_full _ rfl _ _ 26 rfl w.heap.size 3 i0 (.int .i64 0) 1 Try.underlying26 hi0 hz0 hz1 .i64 .i64 _ _ ls.length rfl rfl rfl rfl (by rw [hz2]; omega) (by simp only [maxLen]; omega) (by simp) ?_; intro w1 own1 grown1)
  have O1 := Lib.hid (show OwnI w1 w.heap.size (.slice (some ⟨w.heap.size, 0, none⟩) ls.length ls.length) (natI (rowsTo ls 0)) by rw [rowsTo_zero]; have := madeZero own1; simpa [natI] using this)
  have B1 := Lib.hid (below_of_grown grown1)
  clear own1 grown1
  go_loopw [5] (fun iv wr => ∃ i : Nat, i ≤ ls.length ∧ iv = .int .i64 (i : Int) ∧ Hid (OwnI wr w.heap.size (.slice (some ⟨w.heap.size, 0, none⟩) ls.length ls.length) (natI (rowsTo ls i))) ∧ Hid (Below w.heap.size w wr)) (fun iv _ => ls.length - (intOf iv).toNat)
  case atStart => exact ⟨0, by omega, rfl, O1, B1⟩
  case round =>
    clear O1 B1
    obtain ⟨i, hi, rfl, OO, BW⟩ := hrel
    by_cases hlt : i < ls.length
    rotate_left
    · obtain rfl : i = ls.length := by omega
      rw [rowsTo_all] at OO
      clear hlt hi
      have HC := Lib.hid (fun m (hm : m ≤ ls.length) i (hi : i ≤ ls.length) => (show (passTo m (closeTo (rowsA ls) m) i).length = ls.length by rw [pass_len, close_len, rowsA_len]))
      have HL := Lib.hid (fun m (hm : m < ls.length) i (hi : i ≤ ls.length) j (hj : j < ls.length) => (show (passTo m (closeTo (rowsA ls) m) i).getD j 0 < 4096 by
        have e : (closeTo (rowsA ls) m).length = ls.length := by rw [close_len, rowsA_len]
        have := pass_lt (n := ls.length) (m := m) (W := closeTo (rowsA ls) m) (fun j hj => close_lt ls (by omega) (by omega)) (i := i) (j := j) (by omega) (by omega) (by omega)
        have := PS.out
        omega))
      have NXT := Lib.hid (fun m => (show passTo m (closeTo (rowsA ls) m) ls.length = closeTo (rowsA ls) (m + 1) by rw [closeTo, rowsA_len]))
      have DONE := Lib.hid (show closeTo (rowsA ls) ls.length = waitSet ls from rfl)
      have O3 := Lib.hid (show OwnI wr w.heap.size (.slice (some ⟨w.heap.size, 0, none⟩) ls.length ls.length) (natI (closeTo (rowsA ls) 0)) from OO.out)
      go_wp2_with fail
      clear OO
      go_loopw [7] (fun mv wr => ∃ m : Nat, m ≤ ls.length ∧ mv = .int .i64 (m : Int) ∧ Hid (OwnI wr w.heap.size (.slice (some ⟨w.heap.size, 0, none⟩) ls.length ls.length) (natI (closeTo (rowsA ls) m))) ∧ Hid (Below w.heap.size w wr)) (fun mv _ => ls.length - (intOf mv).toNat)
      case atStart => exact ⟨0, by omega, rfl, O3, BW⟩
      case round =>
        clear O3 BW
        obtain ⟨m, hm, rfl, OO, BW⟩ := hrel
        by_cases hlm : m < ls.length
        rotate_left
        · obtain rfl : m = ls.length := by omega
          rw [DONE.out] at OO
          go_wp2
          go_ret
          exact ⟨_, rfl, OO.out, BW.out⟩
        have hm0 : (0 : Int) ≤ (m : Int) := by omega
        have hm1 : (m : Int) < (ls.length : Int) := by omega
        have O4 := Lib.hid (show OwnI wr w.heap.size (.slice (some ⟨w.heap.size, 0, none⟩) ls.length ls.length) (natI (passTo m (closeTo (rowsA ls) m) 0)) from OO.out)
        go_wp2_with fail
        clear OO
        go_loopw [8] (fun iv wr => ∃ i : Nat, i ≤ ls.length ∧ iv = .int .i64 (i : Int) ∧ Hid (OwnI wr w.heap.size (.slice (some ⟨w.heap.size, 0, none⟩) ls.length ls.length) (natI (passTo m (closeTo (rowsA ls) m) i))) ∧ Hid (Below w.heap.size w wr)) (fun iv _ => ls.length - (intOf iv).toNat)
        case atStart => exact ⟨0, by omega, rfl, O4, BW⟩
        case round =>
          clear O4 BW
          obtain ⟨i, hi, rfl, OO, BW⟩ := hrel
          by_cases hlt : i < ls.length
          rotate_left
          · obtain rfl : i = ls.length := by omega
            rw [NXT.out] at OO
            go_wp2
            exact ⟨⟨m + 1, by omega, by go_num, OO, BW⟩, by simp [intOf]; omega⟩
          have hx0 : (0 : Int) ≤ (i : Int) := by omega
          have hx1 : (i : Int) < (ls.length : Int) := by omega
          have hlen := HC.out m hm i hi
          have hs := HL.out m hlm i hi i hlt
          have ht := HL.out m hlm i hi m hlm
          have NX := Lib.hid (show passTo m (closeTo (rowsA ls) m) (i + 1) = if ((passTo m (closeTo (rowsA ls) m) i).getD i 0).testBit m = true then (passTo m (closeTo (rowsA ls) m) i).set i ((passTo m (closeTo (rowsA ls) m) i).getD i 0 ||| (passTo m (closeTo (rowsA ls) m) i).getD m 0) else passTo m (closeTo (rowsA ls) m) i from rfl)
          obtain ⟨_, _, f1, -, -, p0, pf⟩ := OO.out.spot (k := i) (by rw [natI_len, hlen]; exact hlt)
          simp only [Value.slice.injEq, Option.some.injEq, Addr.mk.injEq] at f1
          obtain ⟨⟨rfl, _⟩, -, -⟩ := f1
          rw [natI_at _ (by rw [hlen]; exact hlt)] at p0
          obtain ⟨_, _, f1, -, -, q0, -⟩ := OO.out.spot (k := m) (by rw [natI_len, hlen]; exact hlm)
          simp only [Value.slice.injEq, Option.some.injEq, Addr.mk.injEq] at f1
          obtain ⟨⟨rfl, _⟩, -, -⟩ := f1
          rw [natI_at _ (by rw [hlen]; exact hlm)] at q0
          have SET := OO.out.set (k := i) (by rw [natI_len, hlen]) (((passTo m (closeTo (rowsA ls) m) i).getD i 0 ||| (passTo m (closeTo (rowsA ls) m) i).getD m 0 : Nat) : Int)
          rw [natI_set] at SET
          have SS := Lib.hid SET
          have hbs := BW.out.size
          have ebit := bit_nat2 ((passTo m (closeTo (rowsA ls) m) i).getD i 0) m (by omega) (by omega)
          have eor := or_nat (s := (passTo m (closeTo (rowsA ls) m) i).getD i 0) (t := (passTo m (closeTo (rowsA ls) m) i).getD m 0) (by omega) (by omega)
          clear SET hlen
          generalize (passTo m (closeTo (rowsA ls) m) i).getD m 0 = t at q0 SS eor ht NX
          generalize (passTo m (closeTo (rowsA ls) m) i).getD i 0 = s at p0 SS eor ebit hs NX
          by_cases c : s.testBit m = true
          · rw [if_pos c] at ebit
            have N2 := Lib.hid (show passTo m (closeTo (rowsA ls) m) (i + 1) = (passTo m (closeTo (rowsA ls) m) i).set i (s ||| t) by rw [NX.out, if_pos c])
            have S2 := Lib.hid (show OwnI (wr.setCell ⟨w.heap.size, i, none⟩ (.int .i64 ((s ||| t : Nat) : Int))) w.heap.size (.slice (some ⟨w.heap.size, 0, none⟩) ls.length ls.length) (natI (passTo m (closeTo (rowsA ls) m) (i + 1))) by rw [N2.out]; exact SS.out.1)
            have B2 := Lib.hid (BW.out.grown SS.out.2 hbs (fun q hq => by have := Option.some.inj hq; omega))
            clear NX N2 SS c OO
            generalize (s ||| t) = st at eor S2 B2
            go_wp2_with fail
            go_still_tail 12, (by kernel_rfl)
            go_wp2
            exact ⟨⟨i + 1, by omega, by go_num, Lib.hid (S2.out.below (Below.refl _ _).drew), Lib.hid B2.out.drew⟩, by simp [intOf]; omega⟩
          · rw [if_neg c] at ebit
            have N2 := Lib.hid (show passTo m (closeTo (rowsA ls) m) (i + 1) = passTo m (closeTo (rowsA ls) m) i by rw [NX.out, if_neg c])
            clear NX SS c eor
            go_wp2
            exact ⟨⟨i + 1, by omega, by go_num, Lib.hid (by rw [N2.out]; exact OO.out), BW⟩, by simp [intOf]; omega⟩
    have hx0 : (0 : Int) ≤ (i : Int) := by omega
    have hx1 : (i : Int) < (ls.length : Int) := by omega
    have O2 := Lib.hid (show OwnI wr w.heap.size (.slice (some ⟨w.heap.size, 0, none⟩) ls.length ls.length) (natI ((rowsTo ls i).set i (afterTo ls.length ls[i].f1 0))) by rw [rowsTo_same ls hlt]; exact OO.out)
    have MO := Lib.hid (rowsTo_more ls hlt)
    have RL := Lib.hid (rowsTo_len ls hi)
    have HR := RW.out i hlt
    have SP := Lib.hid (fun W (hb : Below w.heap.size w W) => (O.out.below hb).spot hlt)
    clear OO
    go_wp2_with fail
    go_loopw [6] (fun kv wr => ∃ k : Nat, k ≤ ls[i].f1.length ∧ kv = .int .i64 (k : Int) ∧ Hid (OwnI wr w.heap.size (.slice (some ⟨w.heap.size, 0, none⟩) ls.length ls.length) (natI ((rowsTo ls i).set i (afterTo ls.length ls[i].f1 k)))) ∧ Hid (Below w.heap.size w wr)) (fun kv _ => ls[i].f1.length - (intOf kv).toNat)
    case atStart => exact ⟨0, by omega, rfl, O2, BW⟩
    case round =>
      clear O2 BW
      obtain ⟨k, hk, rfl, OO, BW⟩ := hrel
      obtain ⟨g, cg, A1, c1, A2, c2, f1, -, ⟨x0, x1, x2⟩, ⟨o1, -⟩, -, -, -, -⟩ := SP.out _ BW.out
      simp only [Value.slice.injEq] at f1
      obtain ⟨rfl, -, rfl⟩ := f1
      by_cases hlk : k < ls[i].f1.length
      rotate_left
      · obtain rfl : k = ls[i].f1.length := by omega
        rw [MO.out] at OO
        clear x0 x2 o1
        generalize ls[i].f1.length = q at x1 HR
        go_wp2
        exact ⟨⟨i + 1, by omega, by go_num, OO, BW⟩, by simp [intOf]; omega⟩
      have hk0 : (0 : Int) ≤ (k : Int) := by omega
      have hk1 : (k : Int) < (ls[i].f1.length : Int) := by omega
      obtain ⟨ga, ca, e1, -, -, z0, -⟩ := o1.spot hlk
      simp only [Value.slice.injEq] at e1
      obtain ⟨rfl, -, rfl⟩ := e1
      have AF := Lib.hid (show afterTo ls.length ls[i].f1 (k + 1) = if inB ls[i].f1[k] 0 ((ls.length : Int) - 1) = true then afterTo ls.length ls[i].f1 k ||| 1 <<< ls[i].f1[k].toNat else afterTo ls.length ls[i].f1 k by
        rw [afterTo, List.getD_eq_getElem?_getD, List.getElem?_eq_getElem hlk]
        rfl)
      have LT := after_lt ls.length ls[i].f1 k
      have hps := PS.out
      have HLN := Lib.hid (show ((rowsTo ls i).set i (afterTo ls.length ls[i].f1 k)).length = ls.length by rw [List.length_set]; exact RL.out)
      have hbs := BW.out.size
      generalize ls[i].f1[k] = x at z0 AF
      clear x0 x2 o1
      cases hin : inB x 0 ((ls.length : Int) - 1) with
      | false =>
        have NX := Lib.hid (show afterTo ls.length ls[i].f1 (k + 1) = afterTo ls.length ls[i].f1 k by rw [AF.out, hin]; rfl)
        generalize hq : ls[i].f1.length = q at x1 hk1 hlk HR
        have C1 := Lib.hid (hin ▸ C0.out x 0 ((ls.length : Int) - 1) wr)
        clear hin AF
        go_wp2_with (go_at_call 68; refine C1.out.mono ?_; rintro e w' ⟨rfl, rfl⟩)
        exact ⟨⟨k + 1, by omega, by go_num, Lib.hid (by rw [NX.out]; exact OO.out), BW⟩, by simp [intOf]; omega⟩
      | true =>
        have hr : 0 ≤ x ∧ x ≤ (ls.length : Int) - 1 := by simpa [inB] using hin
        have NX := Lib.hid (show afterTo ls.length ls[i].f1 (k + 1) = afterTo ls.length ls[i].f1 k ||| 1 <<< x.toNat by rw [AF.out, if_pos hin])
        have C1 := Lib.hid (hin ▸ C0.out x 0 ((ls.length : Int) - 1) wr)
        obtain ⟨j, rfl⟩ := Int.eq_ofNat_of_zero_le hr.1
        rw [Int.toNat_natCast] at NX
        have SET := OO.out.set (k := i) (by rw [natI_len, HLN.out]) ((afterTo ls.length ls[i].f1 k ||| 1 <<< j : Nat) : Int)
        rw [natI_set, List.set_set] at SET
        obtain ⟨_, _, f1, -, -, p0, pf⟩ := OO.out.spot (k := i) (by rw [natI_len, HLN.out]; exact hlt)
        simp only [Value.slice.injEq, Option.some.injEq, Addr.mk.injEq] at f1
        obtain ⟨⟨rfl, _⟩, -, -⟩ := f1
        rw [natI_at _ (by rw [HLN.out]; exact hlt), List.getD_eq_getElem?_getD, List.getElem?_set_self (by rw [RL.out]; exact hlt)] at p0
        replace p0 : wr.cell? ⟨w.heap.size, i, none⟩ = some (.int .i64 ((afterTo ls.length ls[i].f1 k : Nat) : Int)) := p0
        have S2 := Lib.hid (show OwnI (wr.setCell ⟨w.heap.size, i, none⟩ (.int .i64 ((afterTo ls.length ls[i].f1 k ||| 1 <<< j : Nat) : Int))) w.heap.size (.slice (some ⟨w.heap.size, 0, none⟩) ls.length ls.length) (natI ((rowsTo ls i).set i (afterTo ls.length ls[i].f1 (k + 1)))) by rw [NX.out]; exact SET.1)
        have B2 := Lib.hid (BW.out.grown SET.2 hbs (fun q hq => by have := Option.some.inj hq; omega))
        have esh := shl_nat64 j (by omega)
        have eor := or_nat (s := afterTo ls.length ls[i].f1 k) (t := 1 <<< j) (by omega) (by rw [Nat.shiftLeft_eq, Nat.one_mul]; exact Nat.pow_lt_pow_right (by omega) (by omega))
        generalize hq : ls[i].f1.length = q at x1 hk1 hlk HR
        obtain ⟨s, hs⟩ : ∃ s, s = afterTo ls.length ls[i].f1 k := ⟨_, rfl⟩
        rw [← hs] at p0 eor S2 B2
        generalize 1 <<< j = t at esh eor S2 B2
        generalize (s ||| t) = st at eor S2 B2
        clear hin AF SET NX OO LT hs
        go_wp2_with (go_at_call 68; refine C1.out.mono ?_; rintro e w' ⟨rfl, rfl⟩)
        go_still_tail 17, (by kernel_rfl)
        go_wp2
        exact ⟨⟨k + 1, by omega, by go_num, Lib.hid (S2.out.below (Below.refl _ _).drew), Lib.hid B2.out.drew⟩, by simp [intOf]; omega⟩
end Go.Proofs.Ytbgogcobkiaejac
