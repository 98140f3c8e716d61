/- The contracts of laws.toCue, toCueS, szCue, szCueS, eqCue, eqCueS and markCueS. Condition: the rows lie as they came in, or are the call's own. -/
import Derived.Test.YtbgogcobkiaejabCueR
import Derived.Test.YtbgogcobkiaejabSzI
import Derived.Test.YtbgogcobkiaejabGrow
import Derived.Deep.RegionHeld3
namespace Go.Proofs.Ytbgogcobkiaejab
set_option linter.unusedVariables false
set_option linter.unusedSimpArgs false
open Go.RowKit

set_option maxHeartbeats 400000 in
theorem toCue_any (H : Int) (a : Option Addr) (n cap : Nat) (z : List Int) (a2 : Option Addr) (n2 cap2 : Nat) (z2 : List Int) (w : World) (ha : IsRow .i64 w a n cap z) (ha2 : IsRow .i64 w a2 n2 cap2 z2) (hn : n ≤ 1048576) (hn2 : n2 ≤ 1048576) :
    Calls Try.prog 44 #[.agg #[.int .i64 H, .slice a n cap, .slice a2 n2 cap2]] w fun e w' => ∃ A1 c1 A2 c2, e = .returned (.agg #[.int .i64 H, .slice A1 n c1, .slice A2 n2 c2]) ∧
      OwnI w' w.heap.size (.slice A1 n c1) (z.take n) ∧ OwnI w' w.heap.size (.slice A2 n2 c2) (z2.take n2) ∧ ((Value.slice A1 n c1).ownBlock = none ∨ (Value.slice A1 n c1).ownBlock ≠ (Value.slice A2 n2 c2).ownBlock) ∧ Below w.heap.size w w' := by
  have hk := irow_len ha
  have T := Lib.hid (fun W h => toIntS_walk a n cap z W h hn)
  generalize z.take n = zs at T hk ⊢
  subst hk
  have hk2 := irow_len ha2
  have T2 := Lib.hid (fun W h => toIntS_walk a2 n2 cap2 z2 W h hn2)
  generalize z2.take n2 = ys at T2 hk2 ⊢
  subst hk2
  have RA := Lib.hid (irow_alloc (irow_alloc (irow_alloc ha (.cells #[.int .i64 H, .slice a zs.length cap, .slice a2 ys.length cap2] 56)) (.cells #[.int .i64 0, .slice none 0 0, .slice none 0 0] 31)) (.cells #[.int .i64 H, .slice none 0 0, .slice none 0 0] 31))
  have RC := Lib.hid ha2
  clear ha ha2
  go_enter Try.func44, Try.ntmps44
  go_wp2_with fail
  refine (T.out _ RA.out).mono ?_
  rintro e w4 ⟨va, rfl, o4, b4⟩
  obtain ⟨A1, a1, rfl⟩ := o4.slice
  have z4 := b4.size
  simp only [World.size_alloc] at z4
  have d0 : w4.cell? ⟨w.heap.size, 2, none⟩ = some (.slice a2 ys.length cap2) := by rw [b4.cell (by simp <;> omega)]; simp [go_sem]
  have d3 : w4.cell? ⟨w.heap.size + 1 + 1, 0, none⟩ = some (.int .i64 H) := by rw [b4.cell (by simp <;> omega)]; simp [go_sem]
  have d4 : w4.cell? ⟨w.heap.size + 1 + 1, 1, none⟩ = some (.slice none 0 0) := by rw [b4.cell (by simp <;> omega)]; simp [go_sem]
  have d5 : w4.cell? ⟨w.heap.size + 1 + 1, 2, none⟩ = some (.slice none 0 0) := by rw [b4.cell (by simp <;> omega)]; simp [go_sem]
  have f4 : w4.frozen? ⟨w.heap.size + 1 + 1, 1, none⟩ = false := by rw [b4.frozen (by simp <;> omega)]; simp [go_sem]
  have N4 := Lib.hid (show (∀ j x, [Value.int .i64 0, .slice none 0 0, .slice none 0 0][j]? = some x → w4.cell? ⟨w.heap.size + 1, j, none⟩ = some x) ∧ w4.frozen? ⟨w.heap.size + 1 + 1, 2, none⟩ = false ∧ w4.frozen? ⟨w.heap.size + 1, 0, none⟩ = false ∧ w4.frozen? ⟨w.heap.size + 1, 1, none⟩ = false ∧ w4.frozen? ⟨w.heap.size + 1, 2, none⟩ = false from ⟨fun j x hx => by rw [b4.cell (by simp <;> omega)]; simp [go_sem, hx], by rw [b4.frozen (by simp <;> omega)]; simp [go_sem], by rw [b4.frozen (by simp <;> omega)]; simp [go_sem], by rw [b4.frozen (by simp <;> omega)]; simp [go_sem], by rw [b4.frozen (by simp <;> omega)]; simp [go_sem]⟩)
  have O4 := Lib.hid (ownsRow_setCell_below o4 (show (⟨w.heap.size + 1 + 1, 1, none⟩ : Addr).block < _ by simp <;> omega) (.slice A1 zs.length a1))
  have B4 := Lib.hid ((((((Below.refl w.heap.size w).alloc (Nat.le_refl _) _).alloc (by simp) _).alloc (by simp <;> omega) _).trans (b4.mono (by simp <;> omega))).setCell (show w.heap.size ≤ (⟨w.heap.size + 1 + 1, 1, none⟩ : Addr).block by show w.heap.size ≤ w.heap.size + 1 + 1; omega) (.slice A1 zs.length a1))
  clear o4 b4
  go_wp2_with fail
  refine (T2.out _ (irow_below RC.out B4.out)).mono ?_
  rintro e w5 ⟨vc, rfl, o5, b5⟩
  obtain ⟨C1, c1, rfl⟩ := o5.slice
  have z5 := b5.size
  simp only [World.size_setCell] at z5
  have C4 : ∀ i x, (⟨w.heap.size + 1 + 1, 1, none⟩ : Addr) ≠ i → w4.cell? i = some x → w5.cell? i = some x := fun i x hn hx => by
    have h0 := World.block_lt_of_cell? w4 i hx
    rw [b5.cell (by simp; exact h0), World.cell?_setCell_other _ _ _ _ hn]
    exact hx
  have d2 : w5.cell? ⟨w.heap.size + 1 + 1, 1, none⟩ = some (.slice A1 zs.length a1) := by
    rw [b5.cell (by simp <;> omega), World.cell?_setCell_same _ _ _ d4]
  replace d3 := C4 _ _ (by simp) d3
  replace d5 := C4 _ _ (by simp) d5
  have n0 := C4 _ _ (by simp) (N4.out.1 0 _ rfl)
  have n1 := C4 _ _ (by simp) (N4.out.1 1 _ rfl)
  have n2 := C4 _ _ (by simp) (N4.out.1 2 _ rfl)
  have F4 : ∀ i, i.block < w4.heap.size → w4.frozen? i = false → w5.frozen? i = false := fun i h0 hx => by
    rw [b5.frozen (by simp; exact h0)]
    simpa using hx
  have f0 := F4 _ (by simp; omega) N4.out.2.1
  have f1 := F4 _ (by simp; omega) N4.out.2.2.1
  have f2 := F4 _ (by simp; omega) N4.out.2.2.2.1
  have f3 := F4 _ (by simp; omega) N4.out.2.2.2.2
  have K1 := Lib.hid (show OwnI w5 w.heap.size (.slice A1 zs.length a1) zs from OwnI.mono (OwnI.below O4.out b5) (by simp <;> omega))
  have K2 := Lib.hid (show OwnI w5 w.heap.size (.slice C1 ys.length c1) ys from o5.mono (by simp; omega))
  have AP := Lib.hid (show (Value.slice A1 zs.length a1).ownBlock = none ∨ (Value.slice A1 zs.length a1).ownBlock ≠ (Value.slice C1 ys.length c1).ownBlock from sep_of fun k h1 h2 => by
    have := (World.ownsRow.lt O4.out k h1).2
    have := (o5.lt k h2).1
    simp at *; omega)
  have far1 := Lib.hid (fun k (h1 : (Value.slice A1 zs.length a1).ownBlock = some k) => (show w.heap.size + 3 ≤ k by have := (World.ownsRow.lt O4.out k h1).1; simp at this; omega))
  have far2 := Lib.hid (fun k (h2 : (Value.slice C1 ys.length c1).ownBlock = some k) => (show w.heap.size + 3 ≤ k by have := (o5.lt k h2).1; simp at this; omega))
  have B := Lib.hid (B4.out.trans (b5.mono (by simp; omega)))
  clear O4 o5 B4 b5 C4 F4 N4 d4 f4
  go_wp2
  obtain ⟨k0, k1, k2⟩ := cells_set3 (w := w5.setCell ⟨w.heap.size + 1 + 1, 2, none⟩ (.slice C1 ys.length c1)) (g := w.heap.size + 1) (u := .int .i64 H) (v := .slice A1 zs.length a1) (x := .slice C1 ys.length c1)
    ((World.cell?_setCell_other _ _ _ _ (by simp)).trans n0) ((World.cell?_setCell_other _ _ _ _ (by simp)).trans n1) ((World.cell?_setCell_other _ _ _ _ (by simp)).trans n2)
  have st : ∀ {v : Value} {xs : List Int} {W : World} (p : Addr) (u : Value), OwnI W w.heap.size v xs → (∀ k, v.ownBlock = some k → w.heap.size + 3 ≤ k) → p.block < w.heap.size + 3 → OwnI (W.setCell p u) w.heap.size v xs := fun p u h hf hp =>
    h.kept (grown_cell _ p u) (sep_of fun k e1 e2 => by have := hf k e1; have := Option.some.inj e2; omega)
  refine bodyPost_ret (v := .agg #[.int .i64 H, .slice A1 zs.length a1, .slice C1 ys.length c1]) (by simp [results, Try.results44, go_sem, k0, k1, k2]) rfl ⟨_, _, _, _, rfl, ?_, ?_, AP.out, ?_⟩
  · exact st _ _ (st _ _ (st _ _ (st _ _ K1.out far1.out (by show w.heap.size + 1 + 1 < _; omega)) far1.out (by show w.heap.size + 1 < _; omega)) far1.out (by show w.heap.size + 1 < _; omega)) far1.out (by show w.heap.size + 1 < _; omega)
  · exact st _ _ (st _ _ (st _ _ (st _ _ K2.out far2.out (by show w.heap.size + 1 + 1 < _; omega)) far2.out (by show w.heap.size + 1 < _; omega)) far2.out (by show w.heap.size + 1 < _; omega)) far2.out (by show w.heap.size + 1 < _; omega)
  · exact (((B.out.setCell (by show w.heap.size ≤ w.heap.size + 1 + 1; omega) _).setCell (by show w.heap.size ≤ w.heap.size + 1; omega) _).setCell (by show w.heap.size ≤ w.heap.size + 1; omega) _).setCell (by show w.heap.size ≤ w.heap.size + 1; omega) _

/-- How much an element's rows hold; the first k elements' rows and the row itself; the same without the row, a number more each (for marks). -/
def szC (l : RCue) : Nat := l.f1.length + l.f2.length
def bulkC (ls : List RCue) : Nat → Nat
  | 0 => ls.length
  | k + 1 => bulkC ls k + szC (ls.getD k RCue.zero)
theorem bulkC_more {ls : List RCue} {k : Nat} (h : k < ls.length) : bulkC ls (k + 1) = bulkC ls k + szC ls[k] := by
  rw [bulkC, List.getD_eq_getElem?_getD, List.getElem?_eq_getElem h]
  rfl
theorem bulkC_mono (ls : List RCue) {j k : Nat} (h : j ≤ k) : bulkC ls j ≤ bulkC ls k := by
  induction k with
  | zero => rw [Nat.le_zero.1 h]; exact Nat.le_refl _
  | succ k ih =>
    rcases Nat.lt_or_ge j (k + 1) with c | c
    · have := ih (by omega)
      rw [bulkC]
      omega
    · rw [show j = k + 1 by omega]; exact Nat.le_refl _
def bulkCue (ls : List RCue) : Nat := bulkC ls ls.length
theorem bulkCue_len (ls : List RCue) : ls.length ≤ bulkCue ls := bulkC_mono ls (j := 0) (by omega)
theorem bulkCue_row (ls : List RCue) (r : Nat) (h : r < ls.length) : ls[r].f1.length + ls[r].f2.length ≤ bulkCue ls := by
  have h1 := bulkC_more h
  have h2 := bulkC_mono ls (j := r + 1) (k := ls.length) (by omega)
  unfold bulkCue
  unfold szC at h1
  omega

set_option maxHeartbeats 1600000 in
theorem toCueS_any (a : Option Addr) (cap : Nat) (ls : List RCue) (w : World) (ha : ArgCue w a ls) (hl : bulkCue ls ≤ 1048576) :
    Calls Try.prog 22 #[.slice a ls.length cap] w fun e w' => ∃ v, e = .returned v ∧ OwnCue w' w.heap.size v ls ∧ Below w.heap.size w w' := by
  obtain ⟨i, hi, hz, hs, hb⟩ := info_parts infoCue
  have HA := Lib.hid ha
  have hll := bulkCue_len ls
  have RW := Lib.hid (fun k (h : k < ls.length) => (show ls[k].f1.length ≤ 1048576 ∧ ls[k].f2.length ≤ 1048576 by have := bulkCue_row ls k h; omega))
  clear ha
  go_enter Try.func22, Try.ntmps22
  go_wp2_with (refine wpList_make_full _ rfl _ _ 24 rfl w.heap.size 31 i _ 3 Try.underlying24 hi hz hs .i64 .i64 _ _ ls.length rfl rfl rfl rfl (by rw [hb]; omega) (by simp only [maxLen]; omega) (by simp) ?_; intro w1 own1 grown1)
  have O0 := Lib.hid (show OwnCue w1 w.heap.size (.slice (some ⟨w.heap.size, 0, none⟩) ls.length ls.length) (ls.take 0 ++ List.replicate (ls.length - 0) RCue.zero) by simpa using ownCue_made own1)
  have B0 := Lib.hid (below_of_grown grown1)
  clear own1 grown1
  go_loopw [4] (fun i wr => ∃ k : Nat, k ≤ ls.length ∧ i = .int .i64 k ∧ Hid (OwnCue wr w.heap.size (.slice (some ⟨w.heap.size, 0, none⟩) ls.length ls.length) (ls.take k ++ List.replicate (ls.length - k) RCue.zero)) ∧ Hid (Below w.heap.size w wr)) (fun i _ => ls.length - (intOf i).toNat)
  case atStart => exact ⟨0, by omega, rfl, O0, B0⟩
  case round =>
    clear O0 B0
    obtain ⟨k, hk, rfl, OO, BW⟩ := hrel
    by_cases hlt : k < ls.length
    rotate_left
    · obtain rfl : k = ls.length := by omega
      have F := Lib.hid (show OwnCue wr w.heap.size (.slice (some ⟨w.heap.size, 0, none⟩) ls.length ls.length) ls by simpa using OO.out)
      go_wp2
      go_ret
      exact ⟨_, rfl, F.out, BW.out⟩
    have hk0 : (0 : Int) ≤ (k : Int) := by omega
    have hk1 : (k : Int) < (ls.length : Int) := by omega
    obtain ⟨x, rfl, hx⟩ : ∃ x, a = some x ∧ ∀ k (h : k < ls.length), LiesCue w (x.add (k * 3)) ls[k] := by
      rcases HA.out with ⟨_, h0⟩ | h1
      · rw [h0] at hlt
        simp at hlt
      · exact h1
    obtain ⟨A1, c1, z1, A2, c2, z2, ⟨x0, x1, x2⟩, ⟨r1, e1⟩, ⟨r2, e2⟩⟩ := ((hx k hlt).below BW.out).cells
    have hlen : (ls.take k ++ List.replicate (ls.length - k) RCue.zero).length = ls.length := by simp; omega
    have HL := Lib.hid hlen
    have hr := RW.out k hlt
    have TC : Hid (Calls Try.prog 44 #[.agg #[.int .i64 ls[k].f0, .slice A1 ls[k].f1.length c1, .slice A2 ls[k].f2.length c2]] wr fun e w' => ∃ U1 d1 U2 d2, e = .returned (.agg #[.int .i64 ls[k].f0, .slice U1 ls[k].f1.length d1, .slice U2 ls[k].f2.length d2]) ∧
        OwnI w' wr.heap.size (.slice U1 ls[k].f1.length d1) ls[k].f1 ∧ OwnI w' wr.heap.size (.slice U2 ls[k].f2.length d2) ls[k].f2 ∧ ((Value.slice U1 ls[k].f1.length d1).ownBlock = none ∨ (Value.slice U1 ls[k].f1.length d1).ownBlock ≠ (Value.slice U2 ls[k].f2.length d2).ownBlock) ∧ Below wr.heap.size wr w') := Lib.hid (by
      have q := toCue_any ls[k].f0 A1 ls[k].f1.length c1 z1 A2 ls[k].f2.length c2 z2 wr r1 r2 hr.1 hr.2
      rwa [← e1, ← e2] at q)
    have CP := Lib.hid (copiedCue ls k hlt)
    have hbs := BW.out.size
    clear r1 r2 e1 e2 hlen hx hr
    generalize ls[k] = l at x0 x1 x2 TC CP
    go_wp2_with fail
    refine TC.out.mono ?_
    rintro e w2 ⟨U1, d1, U2, d2, rfl, o1, o2, ap, b2⟩
    have ST := OwnCue.set (ls := ls.take k ++ List.replicate (ls.length - k) RCue.zero) (base := w.heap.size) (g := w.heap.size) (n := ls.length) (c := ls.length) (k := k) (l := l) (w := w2) (w0 := wr) (u1 := .slice U1 l.f1.length d1) (u2 := .slice U2 l.f2.length d2) OO.out HL.out.symm (by rw [HL.out]; exact hlt) b2 hbs o1 o2 ap
    rw [CP.out] at ST
    obtain ⟨_, _, _, _, _, _, f1, -, ⟨y0, y1, y2⟩, -, ⟨t0, t1, t2⟩, -, -, -⟩ := (OO.out.below b2).spot (k := k) (by rw [HL.out]; exact hlt)
    simp only [Value.slice.injEq, Option.some.injEq, Addr.mk.injEq] at f1
    obtain ⟨⟨rfl, _⟩, -, -⟩ := f1
    obtain ⟨q0, p0⟩ : ∃ q, w2.cell? ⟨w.heap.size, k * 3, none⟩ = some q := ⟨_, y0⟩
    obtain ⟨q1, p1⟩ : ∃ q, w2.cell? ⟨w.heap.size, k * 3 + 1, none⟩ = some q := ⟨_, y1⟩
    obtain ⟨q2, p2⟩ : ∃ q, w2.cell? ⟨w.heap.size, k * 3 + 2, none⟩ = some q := ⟨_, y2⟩
    have B2 := Lib.hid (BW.out.trans (b2.mono hbs))
    have SS := Lib.hid ST
    clear y0 y1 y2 ST o1 o2 ap b2 OO BW
    go_wp2
    exact ⟨⟨k + 1, by omega, by go_num, Lib.hid SS.out.1, Lib.hid (B2.out.grown SS.out.2 B2.out.size (fun q hq => by have := Option.some.inj hq; omega))⟩, by simp [intOf]; omega⟩

theorem szCue_any (H : Int) (a : Option Addr) (n cap : Nat) (a2 : Option Addr) (n2 cap2 : Nat) (left : Int) (w : World) (h0 : 0 ≤ left) (h1 : left ≤ 1048576) (hn : n ≤ maxLen) (hn2 : n2 ≤ maxLen) :
    Calls Try.prog 41 #[.agg #[.int .i64 H, .slice a n cap, .slice a2 n2 cap2], .int .i64 left] w fun e w' => e = .returned (.int .i64 (szR left (n + n2))) ∧ Below w.heap.size w w' := by
  have C1 := Lib.hid (fun W => szIntS_any a n cap left W h0 h1 hn)
  have B := Lib.hid ((Below.refl w.heap.size w).alloc (Nat.le_refl _) (.cells #[.int .i64 H, .slice a n cap, .slice a2 n2 cap2] 56))
  by_cases c1 : (n : Int) ≤ left
  · have hn0 : ¬ left - (n : Int) < 0 := by omega
    have C2 := Lib.hid (fun W => szIntS_any a2 n2 cap2 (left - n) W (by omega) (by omega) hn2)
    rw [szR_in c1] at C1
    by_cases c2 : (n2 : Int) ≤ left - n
    · have R := Lib.hid (show szR left (n + n2) = left - n - n2 by rw [szR_in (by omega)]; omega)
      have hn1 : ¬ left - (n : Int) - (n2 : Int) < 0 := by omega
      rw [szR_in c2] at C2
      clear c1 c2
      go_enter Try.func41, Try.ntmps41
      go_wp2_with fail
      refine (C1.out _).mono ?_
      rintro e w' ⟨rfl, rfl⟩
      go_wp2_with fail
      refine (C2.out _).mono ?_
      rintro e w' ⟨rfl, rfl⟩
      go_wp2
      go_ret
      exact ⟨by rw [R.out]; rfl, B.out⟩
    · have R := Lib.hid (show szR left (n + n2) = -1 from szR_out (by omega))
      rw [szR_out c2] at C2
      clear c1 c2
      go_enter Try.func41, Try.ntmps41
      go_wp2_with fail
      refine (C1.out _).mono ?_
      rintro e w' ⟨rfl, rfl⟩
      go_wp2_with fail
      refine (C2.out _).mono ?_
      rintro e w' ⟨rfl, rfl⟩
      go_wp2
      go_ret
      exact ⟨by rw [R.out]; rfl, B.out⟩
  · have R := Lib.hid (show szR left (n + n2) = -1 from szR_out (by omega))
    rw [szR_out c1] at C1
    clear c1
    go_enter Try.func41, Try.ntmps41
    go_wp2_with fail
    refine (C1.out _).mono ?_
    rintro e w' ⟨rfl, rfl⟩
    go_wp2
    go_ret
    exact ⟨by rw [R.out]; rfl, B.out⟩
end Go.Proofs.Ytbgogcobkiaejab
