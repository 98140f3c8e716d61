/- The contracts of laws.toIntSS, eqIntSS, szIntS and szIntSS. Condition: the rows lie as they came in, or are the call's own. -/
import Derived.Test.YtanlfkkmnnjpeaaRow2
import Derived.Test.YtanlfkkmnnjpeaaSzI
import Derived.Test.YtanlfkkmnnjpeaaRowRE
import Derived.Deep.RegionHeld3
namespace Go.Proofs.Ytanlfkkmnnjpeaa
set_option linter.unusedVariables false
set_option linter.unusedSimpArgs false
open Go.RowKit

set_option maxRecDepth 100000 in
set_option maxHeartbeats 1600000 in
theorem toIntSS_walk (a : Option Addr) (n cap : Nat) (zss : List (List Int)) (w : World) (ha : ArgSS w a n cap zss) (hl : n ≤ 1048576) (hr : ∀ r (h : r < zss.length), zss[r].length ≤ 1048576) :
    Calls Try.prog 25 #[.slice a n cap] w (RowsPost w zss) := by
  obtain ⟨i, hi, hz, hs, hb⟩ := info_parts info_ints
  have HA := Lib.hid ha
  have HR := Lib.hid hr
  obtain ⟨rfl, -, -⟩ := ha
  clear hr
  go_enter Try.func25, Try.ntmps25
  go_wp2_with (refine wpList_make_full _ rfl _ _ 25 rfl w.heap.size 33 i (.slice none 0 0) 1 Try.underlying25 hi hz hs .i64 .i64 _ _ zss.length rfl rfl rfl rfl (by rw [hb]; omega) (by simp only [maxLen]; omega) (by simp) ?_; intro w1 own1 grown1)
  have O0 := Lib.hid (show OwnR w1 w.heap.size (.slice (some ⟨w.heap.size, 0, none⟩) zss.length zss.length) (zss.take 0 ++ List.replicate (zss.length - 0) []) by
    have e : (madeCells (Value.slice none 0 0).cells (zss.length * 1)).toList = List.replicate zss.length (.slice none 0 0) := by
      simp only [Value.cells, Nat.mul_one, toList_madeCells_one]
    rw [e] at own1
    simpa using ownR_made own1)
  have B0 := Lib.hid (below_of_grown grown1)
  clear own1 grown1
  go_loopw [4] (fun i wr => ∃ k : Nat, k ≤ zss.length ∧ i = .int .i64 k ∧ Hid (OwnR wr w.heap.size (.slice (some ⟨w.heap.size, 0, none⟩) zss.length zss.length) (zss.take k ++ List.replicate (zss.length - k) [])) ∧ Hid (Below w.heap.size w wr)) (fun i _ => zss.length - (intOf i).toNat)
  case atStart => exact ⟨0, by omega, rfl, O0, B0⟩
  case round =>
    clear O0 B0
    obtain ⟨k, hk, rfl, HO, BW⟩ := hrel
    by_cases hlt : k < zss.length
    · have hk0 : (0 : Int) ≤ (k : Int) := by omega
      have hk1 : (k : Int) < (zss.length : Int) := by omega
      obtain ⟨xb, xo, A, L, C, Z, rfl, lx, c0, ir, ez⟩ := (HA.out.below BW.out).2.2 k hlt
      have hL : L ≤ 1048576 := by have := HR.out k hlt; rw [ez, irow_len ir] at this; exact this
      have hlen : (zss.take k ++ List.replicate (zss.length - k) ([] : List Int)).length = zss.length := by simp; omega
      have CT := Lib.hid (ez ▸ toIntS_walk A L C Z wr ir hL)
      have CS := Lib.hid (copy_set ([] : List Int) zss k hlt)
      have HL := Lib.hid hlen
      have hws := BW.out.size
      generalize zss[k] = zs at CT CS
      clear ir ez hlen
      go_wp2_with fail
      refine CT.out.mono ?_
      rintro e w2 ⟨u, rfl, o2, b2⟩
      obtain ⟨U, cu, rfl⟩ := o2.slice
      have ST := (show _ ∧ _ from by
        have h0 := HO.out
        have q := OwnR.set (k := k) (g := w.heap.size) (c := zss.length) (base := w.heap.size) (zss := zss.take k ++ List.replicate (zss.length - k) []) (w0 := wr) (w := w2) (u := .slice U zs.length cu) (zs := zs) (by rw [HL.out]; exact h0) b2 o2 hws (by rw [HL.out]; exact hlt)
        rwa [CS.out, HL.out] at q)
      have B2 := Lib.hid (BW.out.trans (b2.mono hws))
      have x0 := (HO.out.below b2).spot (k := k) (by rw [HL.out]; exact hlt)
      obtain ⟨_, _, A', c', e2, xc, xf, _⟩ := x0
      simp only [Value.slice.injEq, Option.some.injEq, Addr.mk.injEq] at e2
      obtain ⟨⟨rfl, _⟩, em, ec⟩ := e2
      clear em ec
      obtain ⟨t, ht⟩ : ∃ t, w2.cell? ⟨w.heap.size, k, none⟩ = some t := ⟨_, xc⟩
      have SS := Lib.hid ST
      clear xc ST b2 o2
      go_wp2
      exact ⟨⟨k + 1, by omega, by go_num, Lib.hid SS.out.1, Lib.hid (B2.out.grown SS.out.2 B2.out.size (fun q hq => by have := Option.some.inj hq; omega))⟩, by simp [intOf]; omega⟩
    · obtain rfl : k = zss.length := by omega
      have O2 := Lib.hid (show OwnR wr w.heap.size (.slice (some ⟨w.heap.size, 0, none⟩) zss.length zss.length) zss by simpa using HO.out)
      go_wp2
      go_ret
      exact ⟨_, rfl, O2.out, BW.out⟩

/-- How much the first k rows and the row of rows hold together. -/
def bulkTo (zss : List (List Int)) : Nat → Nat
  | 0 => zss.length
  | k + 1 => bulkTo zss k + (zss.getD k []).length
theorem bulk_more {zss : List (List Int)} {k : Nat} (h : k < zss.length) : bulkTo zss (k + 1) = bulkTo zss k + zss[k].length := by
  rw [bulkTo, List.getD_eq_getElem?_getD, List.getElem?_eq_getElem h]
  rfl
theorem bulk_mono (zss : List (List Int)) {j k : Nat} (h : j ≤ k) : bulkTo zss j ≤ bulkTo zss k := by
  induction k with
  | zero => rw [Nat.le_zero.1 h]; exact Nat.le_refl _
  | succ k ih =>
    rcases Nat.lt_or_ge j (k + 1) with c | c
    · have := ih (by omega)
      rw [bulkTo]
      omega
    · rw [show j = k + 1 by omega]; exact Nat.le_refl _
def bulk (zss : List (List Int)) : Nat := bulkTo zss zss.length
theorem bulk_len (zss : List (List Int)) : zss.length ≤ bulk zss := bulk_mono zss (j := 0) (by omega)
theorem bulk_row (zss : List (List Int)) (r : Nat) (h : r < zss.length) : zss[r].length ≤ bulk zss := by
  have h1 := bulk_more h
  have h2 := bulk_mono zss (j := r + 1) (k := zss.length) (by omega)
  unfold bulk
  omega

set_option maxRecDepth 100000 in
set_option maxHeartbeats 1600000 in
theorem szIntSS_any (a : Option Addr) (n cap : Nat) (zss : List (List Int)) (left : Int) (w : World) (ha : ArgSS w a n cap zss) (h0 : 0 ≤ left) (h1 : left ≤ 1048576) :
    Calls Try.prog 22 #[.slice a n cap, .int .i64 left] w fun e w' => e = .returned (.int .i64 (szR left (bulk zss))) ∧ w = w' := by
  have HA := Lib.hid ha
  obtain ⟨rfl, hm, -⟩ := ha
  unfold maxLen at hm
  have e1 : IntKind.i64.wrap (left - zss.length) = left - zss.length := IntWalk.i64_in _ (by omega)
  by_cases hn : (zss.length : Int) ≤ left
  rotate_left
  · have R := Lib.hid (show szR left (bulk zss) = -1 by have := bulk_len zss; exact szR_out (by omega))
    have h2 : left - (zss.length : Int) < 0 := by omega
    go_enter Try.func22, Try.ntmps22
    go_wp2
    go_ret
    exact ⟨by rw [R.out]; rfl, rfl⟩
  have h2 : ¬ left - (zss.length : Int) < 0 := by omega
  go_enter Try.func22, Try.ntmps22
  go_wp2_with fail
  clear e1 h2
  go_loopw [1, 5] (fun lv iv wr => w = wr ∧ ∃ k : Nat, k ≤ zss.length ∧ iv = .int .i64 (k : Int) ∧ lv = .int .i64 (left - (bulkTo zss k : Int)) ∧ Hid ((bulkTo zss k : Int) ≤ left)) (fun _ iv _ => zss.length - (intOf iv).toNat)
  case atStart => exact ⟨rfl, 0, by omega, rfl, rfl, Lib.hid hn⟩
  case round =>
    obtain ⟨rfl, k, hk, rfl, rfl, HL⟩ := hrel
    by_cases hlt : k < zss.length
    · have hk0 : (0 : Int) ≤ (k : Int) := by omega
      have hk1 : (k : Int) < (zss.length : Int) := by omega
      obtain ⟨xb, xo, A, L, C, Z, rfl, lx, c0, ir, ez⟩ := HA.out.2.2 k hlt
      have hz : zss[k].length = L := by rw [ez, irow_len ir]
      have hLm : L ≤ maxLen := by
        rcases ir with ⟨_, h, _, _⟩ | ⟨_, _, h, h', _⟩
        · omega
        · omega
      have BM := Lib.hid (bulk_more hlt)
      rw [hz] at BM
      have hleft := HL.out
      have C1 := Lib.hid (szIntS_any A L C (left - (bulkTo zss k : Int)) w (by omega) (by omega) hLm)
      have MN := Lib.hid (bulk_mono zss (j := k + 1) (k := zss.length) (by omega))
      clear ir ez hz
      generalize hq : bulkTo zss k = q at C1 BM hleft
      clear hq HL
      by_cases hfit : (L : Int) ≤ left - (q : Int)
      · rw [szR_in hfit] at C1
        have h3 : ¬ left - (q : Int) - (L : Int) < 0 := by omega
        have E := Lib.hid (show left - (q : Int) - (L : Int) = left - (bulkTo zss (k + 1) : Int) by rw [BM.out]; omega)
        have F := Lib.hid (show (bulkTo zss (k + 1) : Int) ≤ left by rw [BM.out]; omega)
        clear hfit
        go_wp2_with (go_at_call 55; (with_reducible refine C1.out.mono ?_); rintro e w' ⟨rfl, rfl⟩)
        exact ⟨⟨by trivial, k + 1, by omega, by go_num, by rw [E.out], F⟩, by simp [intOf]; omega⟩
      · rw [szR_out hfit] at C1
        have R := Lib.hid (show szR left (bulk zss) = -1 by
          refine szR_out ?_
          have h := MN.out
          rw [BM.out] at h
          unfold bulk
          omega)
        clear hfit
        go_wp2_with (go_at_call 55; (with_reducible refine C1.out.mono ?_); rintro e w' ⟨rfl, rfl⟩)
        go_ret
        exact ⟨by rw [R.out]; rfl, rfl⟩
    · obtain rfl : k = zss.length := by omega
      have R := Lib.hid (show szR left (bulk zss) = left - (bulkTo zss zss.length : Int) from szR_in HL.out)
      go_wp2
      go_ret
      exact ⟨by rw [R.out]; rfl, rfl⟩
end Go.Proofs.Ytanlfkkmnnjpeaa
