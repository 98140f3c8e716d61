/- The contracts of laws.toPlayer, toPlayerS and szPlayer. Condition: the rows lie as they came in, or are the call's own. -/
import Derived.Test.YtanlfkkmnnjpeaaPlayerR
import Derived.Test.YtanlfkkmnnjpeaaSzI
import Derived.Test.YtanlfkkmnnjpeaaPk7
import Derived.Deep.RegionHeld3
namespace Go.Proofs.Ytanlfkkmnnjpeaa
set_option linter.unusedVariables false
set_option linter.unusedSimpArgs false
open Go.RowKit

set_option maxHeartbeats 400000 in
theorem toPlayer_any (H : Int) (a : Option Addr) (n cap : Nat) (z : List Int) (w : World) (ha : IsRow .i64 w a n cap z) (hn : n ≤ 1048576) :
    Calls Try.prog 56 #[.agg #[.slice a n cap, .int .i64 H]] w fun e w' => ∃ A1 c1, e = .returned (.agg #[.slice A1 n c1, .int .i64 H]) ∧ OwnI w' w.heap.size (.slice A1 n c1) (z.take n) ∧ Below w.heap.size w w' := by
  have hk := irow_len ha
  have T := Lib.hid (fun W h => toIntS_walk a n cap z W h hn)
  generalize z.take n = zs at T hk ⊢
  subst hk
  have RA := Lib.hid (irow_alloc (irow_alloc (irow_alloc ha (.cells #[.slice a zs.length cap, .int .i64 H] 75)) (.cells #[.slice none 0 0, .int .i64 0] 71)) (.cells #[.slice none 0 0, .int .i64 0] 71))
  clear ha
  go_enter Try.func56, Try.ntmps56
  go_wp2_with fail
  refine (T.out _ RA.out).mono ?_
  rintro e w4 ⟨va, rfl, o4, b4⟩
  obtain ⟨A1, a1, rfl⟩ := o4.slice
  have z4 := b4.size
  simp only [World.size_alloc] at z4
  have d0 : w4.cell? ⟨w.heap.size, 1, none⟩ = some (.int .i64 H) := by rw [b4.cell (by simp <;> omega)]; simp [go_sem]
  have d3 : w4.cell? ⟨w.heap.size + 1 + 1, 0, none⟩ = some (.slice none 0 0) := by rw [b4.cell (by simp <;> omega)]; simp [go_sem]
  have d4 : w4.cell? ⟨w.heap.size + 1 + 1, 1, none⟩ = some (.int .i64 0) := by rw [b4.cell (by simp <;> omega)]; simp [go_sem]
  have n0 : w4.cell? ⟨w.heap.size + 1, 0, none⟩ = some (.slice none 0 0) := by rw [b4.cell (by simp <;> omega)]; simp [go_sem]
  have n1 : w4.cell? ⟨w.heap.size + 1, 1, none⟩ = some (.int .i64 0) := by rw [b4.cell (by simp <;> omega)]; simp [go_sem]
  have f0 : w4.frozen? ⟨w.heap.size + 1 + 1, 0, none⟩ = false := by rw [b4.frozen (by simp <;> omega)]; simp [go_sem]
  have f1 : w4.frozen? ⟨w.heap.size + 1 + 1, 1, none⟩ = false := by rw [b4.frozen (by simp <;> omega)]; simp [go_sem]
  have f2 : w4.frozen? ⟨w.heap.size + 1, 0, none⟩ = false := by rw [b4.frozen (by simp <;> omega)]; simp [go_sem]
  have f3 : w4.frozen? ⟨w.heap.size + 1, 1, none⟩ = false := by rw [b4.frozen (by simp <;> omega)]; simp [go_sem]
  have K1 := Lib.hid (show OwnI w4 w.heap.size (.slice A1 zs.length a1) zs from o4.mono (by simp <;> omega))
  have far1 := Lib.hid (fun k (h1 : (Value.slice A1 zs.length a1).ownBlock = some k) => (show w.heap.size + 3 ≤ k by have := (o4.lt k h1).1; simp at this; omega))
  have B := Lib.hid ((((Below.refl w.heap.size w).alloc (Nat.le_refl _) _).alloc (by simp) _).alloc (by simp <;> omega) _ |>.trans (b4.mono (by simp <;> omega)))
  clear o4 b4
  go_wp2
  obtain ⟨k0, k1⟩ := cells_set2 (w := (w4.setCell ⟨w.heap.size + 1 + 1, 0, none⟩ (.slice A1 zs.length a1)).setCell ⟨w.heap.size + 1 + 1, 1, none⟩ (.int .i64 H)) (g := w.heap.size + 1) (u := .slice A1 zs.length a1) (v := .int .i64 H)
    ⟨_, (World.cell?_setCell_other _ _ _ _ (by simp)).trans ((World.cell?_setCell_other _ _ _ _ (by simp)).trans n0)⟩ ⟨_, (World.cell?_setCell_other _ _ _ _ (by simp)).trans ((World.cell?_setCell_other _ _ _ _ (by simp)).trans n1)⟩
  have st : ∀ {v : Value} {xs : List Int} {W : World} (p : Addr) (u : Value), OwnI W w.heap.size v xs → (∀ k, v.ownBlock = some k → w.heap.size + 3 ≤ k) → p.block < w.heap.size + 3 → OwnI (W.setCell p u) w.heap.size v xs := fun p u h hf hp =>
    h.kept (grown_cell _ p u) (sep_of fun k e1 e2 => by have := hf k e1; have := Option.some.inj e2; omega)
  refine bodyPost_ret (v := .agg #[.slice A1 zs.length a1, .int .i64 H]) (by simp [results, Try.results56, go_sem, k0, k1]) rfl ⟨_, _, rfl, ?_, ?_⟩
  · exact st _ _ (st _ _ (st _ _ (st _ _ K1.out far1.out (by show w.heap.size + 1 + 1 < _; omega)) far1.out (by show w.heap.size + 1 + 1 < _; omega)) far1.out (by show w.heap.size + 1 < _; omega)) far1.out (by show w.heap.size + 1 < _; omega)
  · exact (((B.out.setCell (by show w.heap.size ≤ w.heap.size + 1 + 1; omega) _).setCell (by show w.heap.size ≤ w.heap.size + 1 + 1; omega) _).setCell (by show w.heap.size ≤ w.heap.size + 1; omega) _).setCell (by show w.heap.size ≤ w.heap.size + 1; omega) _

/-- The first k elements' rows and the row itself. -/
def bulkP (ls : List RPlayer) : Nat → Nat
  | 0 => ls.length
  | k + 1 => bulkP ls k + (ls.getD k RPlayer.zero).f0.length
theorem bulkP_more {ls : List RPlayer} {k : Nat} (h : k < ls.length) : bulkP ls (k + 1) = bulkP ls k + ls[k].f0.length := by
  rw [bulkP, List.getD_eq_getElem?_getD, List.getElem?_eq_getElem h]
  rfl
theorem bulkP_mono (ls : List RPlayer) {j k : Nat} (h : j ≤ k) : bulkP ls j ≤ bulkP ls k := by
  induction k with
  | zero => rw [Nat.le_zero.1 h]; exact Nat.le_refl _
  | succ k ih =>
    rcases Nat.lt_or_ge j (k + 1) with c | c
    · have := ih (by omega)
      rw [bulkP]
      omega
    · rw [show j = k + 1 by omega]; exact Nat.le_refl _
def bulkPlayer (ls : List RPlayer) : Nat := bulkP ls ls.length
theorem bulkPlayer_len (ls : List RPlayer) : ls.length ≤ bulkPlayer ls := bulkP_mono ls (j := 0) (by omega)
theorem bulkPlayer_row (ls : List RPlayer) (r : Nat) (h : r < ls.length) : ls[r].f0.length ≤ bulkPlayer ls := by
  have h1 := bulkP_more h
  have h2 := bulkP_mono ls (j := r + 1) (k := ls.length) (by omega)
  unfold bulkPlayer
  omega

set_option maxHeartbeats 1600000 in
theorem toPlayerS_any (a : Option Addr) (cap : Nat) (ls : List RPlayer) (w : World) (ha : ArgPlayer w a ls) (hl : bulkPlayer ls ≤ 1048576) :
    Calls Try.prog 24 #[.slice a ls.length cap] w fun e w' => ∃ v, e = .returned v ∧ OwnPlayer w' w.heap.size v ls ∧ Below w.heap.size w w' := by
  obtain ⟨i, hi, hz, hs, hb⟩ := info_parts infoPlayer
  have HA := Lib.hid ha
  have hll := bulkPlayer_len ls
  have RW := Lib.hid (fun k (h : k < ls.length) => (show ls[k].f0.length ≤ 1048576 by have := bulkPlayer_row ls k h; omega))
  clear ha
  go_enter Try.func24, Try.ntmps24
  go_wp2_with (refine wpList_make_full _ rfl _ _ 24 rfl w.heap.size 71 i _ 2 Try.underlying24 hi hz hs .i64 .i64 _ _ ls.length rfl rfl rfl rfl (by rw [hb]; omega) (by simp only [maxLen]; omega) (by simp) ?_; intro w1 own1 grown1)
  have O0 := Lib.hid (show OwnPlayer w1 w.heap.size (.slice (some ⟨w.heap.size, 0, none⟩) ls.length ls.length) (ls.take 0 ++ List.replicate (ls.length - 0) RPlayer.zero) by simpa using ownPlayer_made own1)
  have B0 := Lib.hid (below_of_grown grown1)
  clear own1 grown1
  go_loopw [4] (fun i wr => ∃ k : Nat, k ≤ ls.length ∧ i = .int .i64 k ∧ Hid (OwnPlayer wr w.heap.size (.slice (some ⟨w.heap.size, 0, none⟩) ls.length ls.length) (ls.take k ++ List.replicate (ls.length - k) RPlayer.zero)) ∧ Hid (Below w.heap.size w wr)) (fun i _ => ls.length - (intOf i).toNat)
  case atStart => exact ⟨0, by omega, rfl, O0, B0⟩
  case round =>
    clear O0 B0
    obtain ⟨k, hk, rfl, OO, BW⟩ := hrel
    by_cases hlt : k < ls.length
    rotate_left
    · obtain rfl : k = ls.length := by omega
      have F := Lib.hid (show OwnPlayer wr w.heap.size (.slice (some ⟨w.heap.size, 0, none⟩) ls.length ls.length) ls by simpa using OO.out)
      go_wp2
      go_ret
      exact ⟨_, rfl, F.out, BW.out⟩
    have hk0 : (0 : Int) ≤ (k : Int) := by omega
    have hk1 : (k : Int) < (ls.length : Int) := by omega
    obtain ⟨x, rfl, hx⟩ : ∃ x, a = some x ∧ ∀ k (h : k < ls.length), LiesPlayer w (x.add (k * 2)) ls[k] := by
      rcases HA.out with ⟨_, h0⟩ | h1
      · rw [h0] at hlt
        simp at hlt
      · exact h1
    obtain ⟨A1, c1, z1, ⟨x0, x1⟩, ⟨r1, e1⟩⟩ := ((hx k hlt).below BW.out).cells
    have hlen : (ls.take k ++ List.replicate (ls.length - k) RPlayer.zero).length = ls.length := by simp; omega
    have HL := Lib.hid hlen
    have hr := RW.out k hlt
    have TC : Hid (Calls Try.prog 56 #[.agg #[.slice A1 ls[k].f0.length c1, .int .i64 ls[k].f1]] wr fun e w' => ∃ U1 d1, e = .returned (.agg #[.slice U1 ls[k].f0.length d1, .int .i64 ls[k].f1]) ∧
        OwnI w' wr.heap.size (.slice U1 ls[k].f0.length d1) ls[k].f0 ∧ Below wr.heap.size wr w') := Lib.hid (by
      have q := toPlayer_any ls[k].f1 A1 ls[k].f0.length c1 z1 wr r1 hr
      rwa [← e1] at q)
    have CP := Lib.hid (copiedPlayer ls k hlt)
    have hbs := BW.out.size
    clear r1 e1 hlen hx hr
    generalize ls[k] = l at x0 x1 TC CP
    go_wp2_with fail
    refine TC.out.mono ?_
    rintro e w2 ⟨U1, d1, rfl, o1, b2⟩
    have ST := OwnPlayer.set (ls := ls.take k ++ List.replicate (ls.length - k) RPlayer.zero) (base := w.heap.size) (g := w.heap.size) (n := ls.length) (c := ls.length) (k := k) (l := l) (w := w2) (w0 := wr) (u0 := .slice U1 l.f0.length d1) OO.out HL.out.symm (by rw [HL.out]; exact hlt) b2 hbs o1
    rw [CP.out] at ST
    obtain ⟨_, _, _, _, f1, -, ⟨y0, y1⟩, -, ⟨t0, t1⟩, -, -⟩ := (OO.out.below b2).spot (k := k) (by rw [HL.out]; exact hlt)
    simp only [Value.slice.injEq, Option.some.injEq, Addr.mk.injEq] at f1
    obtain ⟨⟨rfl, _⟩, -, -⟩ := f1
    obtain ⟨q0, p0⟩ : ∃ q, w2.cell? ⟨w.heap.size, k * 2, none⟩ = some q := ⟨_, y0⟩
    obtain ⟨q1, p1⟩ : ∃ q, w2.cell? ⟨w.heap.size, k * 2 + 1, none⟩ = some q := ⟨_, y1⟩
    have B2 := Lib.hid (BW.out.trans (b2.mono hbs))
    have SS := Lib.hid ST
    clear y0 y1 ST o1 b2 OO BW
    go_wp2
    exact ⟨⟨k + 1, by omega, by go_num, Lib.hid SS.out.1, Lib.hid (B2.out.grown SS.out.2 B2.out.size (fun q hq => by have := Option.some.inj hq; omega))⟩, by simp [intOf]; omega⟩

theorem szPlayer_any (H : Int) (a : Option Addr) (n cap : Nat) (left : Int) (w : World) (h0 : 0 ≤ left) (h1 : left ≤ 1048576) (hn : n ≤ maxLen) :
    Calls Try.prog 54 #[.agg #[.slice a n cap, .int .i64 H], .int .i64 left] w fun e w' => e = .returned (.int .i64 (szR left n)) ∧ Below w.heap.size w w' := by
  have C1 := Lib.hid (fun W => szIntS_any a n cap left W h0 h1 hn)
  have B := Lib.hid ((Below.refl w.heap.size w).alloc (Nat.le_refl _) (.cells #[.slice a n cap, .int .i64 H] 75))
  by_cases c1 : (n : Int) ≤ left
  · have hn0 : ¬ left - (n : Int) < 0 := by omega
    have R := Lib.hid (szR_in c1)
    rw [szR_in c1] at C1
    clear c1
    go_enter Try.func54, Try.ntmps54
    go_wp2_with fail
    refine (C1.out _).mono ?_
    rintro e w' ⟨rfl, rfl⟩
    go_wp2
    go_ret
    exact ⟨by rw [R.out]; rfl, B.out⟩
  · have R := Lib.hid (szR_out c1)
    rw [szR_out c1] at C1
    clear c1
    go_enter Try.func54, Try.ntmps54
    go_wp2_with fail
    refine (C1.out _).mono ?_
    rintro e w' ⟨rfl, rfl⟩
    go_wp2
    go_ret
    exact ⟨by rw [R.out]; rfl, B.out⟩
end Go.Proofs.Ytanlfkkmnnjpeaa
