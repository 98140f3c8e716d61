/- The contracts of laws.szPlayerS, eqPlayer and eqPlayerS. Condition: the rows lie as they came in, or are the call's own. -/
import Derived.Test.YtanlfkkmnnjpeaaPlayerL
import Derived.Test.YtanlfkkmnnjpeaaPk7
namespace Go.Proofs.Ytanlfkkmnnjpeaa
set_option linter.unusedVariables false
set_option linter.unusedSimpArgs false
open Go.RowKit

set_option maxHeartbeats 1600000 in
theorem szPlayerS_any (a : Option Addr) (cap : Nat) (ls : List RPlayer) (left : Int) (w : World) (ha : ArgPlayer w a ls) (hm : ls.length ≤ maxLen) (h0 : 0 ≤ left) (h1 : left ≤ 1048576) :
    Calls Try.prog 21 #[.slice a ls.length cap, .int .i64 left] w fun e w' => e = .returned (.int .i64 (szR left (bulkPlayer ls))) ∧ Below w.heap.size w w' := by
  have HA := Lib.hid ha
  clear ha
  unfold maxLen at hm
  have e1 : IntKind.i64.wrap (left - ls.length) = left - ls.length := IntWalk.i64_in _ (by omega)
  by_cases hn : (ls.length : Int) ≤ left
  rotate_left
  · have R := Lib.hid (show szR left (bulkPlayer ls) = -1 by have := bulkPlayer_len ls; exact szR_out (by omega))
    have h2 : left - (ls.length : Int) < 0 := by omega
    go_enter Try.func21, Try.ntmps21
    go_wp2
    go_ret
    exact ⟨by rw [R.out]; rfl, Below.refl _ _⟩
  have h2 : ¬ left - (ls.length : Int) < 0 := by omega
  go_enter Try.func21, Try.ntmps21
  go_wp2_with fail
  clear e1 h2
  go_loopw [1, 5] (fun lv iv wr => ∃ k : Nat, k ≤ ls.length ∧ iv = .int .i64 (k : Int) ∧ lv = .int .i64 (left - (bulkP ls k : Int)) ∧ Hid ((bulkP ls k : Int) ≤ left) ∧ Hid (Below w.heap.size w wr)) (fun _ iv _ => ls.length - (intOf iv).toNat)
  case atStart => exact ⟨0, by omega, rfl, rfl, Lib.hid hn, Lib.hid (Below.refl _ _)⟩
  case round =>
    obtain ⟨k, hk, rfl, rfl, HL, BW⟩ := hrel
    by_cases hlt : k < ls.length
    rotate_left
    · obtain rfl : k = ls.length := by omega
      have R := Lib.hid (show szR left (bulkPlayer ls) = left - (bulkP ls ls.length : Int) from szR_in HL.out)
      go_wp2
      go_ret
      exact ⟨by rw [R.out]; rfl, BW.out⟩
    have hk0 : (0 : Int) ≤ (k : Int) := by omega
    have hk1 : (k : Int) < (ls.length : Int) := by omega
    obtain ⟨x, rfl, hx⟩ : ∃ x, a = some x ∧ ∀ k (h : k < ls.length), LiesPlayer w (x.add (k * 2)) ls[k] := by
      rcases HA.out with ⟨_, h⟩ | h
      · rw [h] at hlt
        simp at hlt
      · exact h
    obtain ⟨A1, c1, z1, ⟨x0, x1⟩, ⟨r1, -⟩⟩ := ((hx k hlt).below BW.out).cells
    have BM := Lib.hid (bulkP_more hlt)
    have hleft := HL.out
    have rm : ls[k].f0.length ≤ maxLen := by
      rcases r1 with ⟨_, h, _, _⟩ | ⟨_, _, h, h', _⟩ <;> omega
    have SZ := Lib.hid (fun W => szPlayer_any ls[k].f1 A1 ls[k].f0.length c1 (left - (bulkP ls k : Int)) W (by omega) (by omega) rm)
    have MN := Lib.hid (bulkP_mono ls (j := k + 1) (k := ls.length) (by omega))
    have hbs := BW.out.size
    clear r1 hx HL rm
    generalize ls[k] = l at x0 x1 SZ BM
    generalize hq : bulkP ls k = q at SZ BM hleft
    clear hq
    by_cases hfit : (l.f0.length : Int) ≤ left - (q : Int)
    · rw [szR_in hfit] at SZ
      have E : Hid (left - (q : Int) - (l.f0.length : Int) = left - (bulkP ls (k + 1) : Int)) := Lib.hid (by rw [BM.out]; omega)
      have F := Lib.hid (show (bulkP ls (k + 1) : Int) ≤ left by rw [BM.out]; omega)
      have hnn : ¬ left - (bulkP ls (k + 1) : Int) < 0 := by have := F.out; omega
      rw [E.out] at SZ
      clear hfit E
      go_wp2_with fail
      refine (SZ.out _).mono ?_
      rintro e w2 ⟨rfl, b2⟩
      have B2 := Lib.hid (BW.out.trans (b2.mono hbs))
      clear b2 SZ
      go_wp2
      exact ⟨⟨k + 1, by omega, by go_num, rfl, F, B2⟩, by simp [intOf]; omega⟩
    · rw [szR_out hfit] at SZ
      have R := Lib.hid (show szR left (bulkPlayer ls) = -1 by
        refine szR_out ?_
        have h := MN.out
        rw [BM.out] at h
        unfold bulkPlayer
        omega)
      clear hfit
      go_wp2_with fail
      refine (SZ.out _).mono ?_
      rintro e w2 ⟨rfl, b2⟩
      have B2 := Lib.hid (BW.out.trans (b2.mono hbs))
      clear b2 SZ
      go_wp2
      go_ret
      exact ⟨by rw [R.out]; rfl, B2.out⟩

theorem eqPlayer_same (H : Int) (A1 B1 : Option Addr) (c1 d1 : Nat) (zs : List Int) (b1 b2 : Nat) (w : World) (h1 : OwnI w b1 (.slice A1 zs.length c1) zs) (h2 : OwnI w b2 (.slice B1 zs.length d1) zs) (hl : zs.length ≤ 2000000) :
    Calls Try.prog 57 #[.agg #[.slice A1 zs.length c1, .int .i64 H], .agg #[.slice B1 zs.length d1, .int .i64 H]] w fun e w' => e = .returned (.bool true) ∧ Below w.heap.size w w' := by
  have X1 := Lib.hid ((boxV_new w [.slice A1 zs.length c1, .int .i64 H] 71).alloc (.cells #[.slice B1 zs.length d1, .int .i64 H] 71))
  have X2 := Lib.hid (boxV_new (w.alloc (.cells #[.slice A1 zs.length c1, .int .i64 H] 71)) [.slice B1 zs.length d1, .int .i64 H] 71)
  have H1 := Lib.hid ((h1.alloc (.cells #[.slice A1 zs.length c1, .int .i64 H] 71)).alloc (.cells #[.slice B1 zs.length d1, .int .i64 H] 71))
  have H2 := Lib.hid ((h2.alloc (.cells #[.slice A1 zs.length c1, .int .i64 H] 71)).alloc (.cells #[.slice B1 zs.length d1, .int .i64 H] 71))
  clear h1 h2
  go_enter Try.func57, Try.ntmps57
  go_wp2_with fail
  refine (eqIntS_same _ _ zs b1 b2 _ H1.out H2.out hl).mono ?_
  rintro e w3 ⟨rfl, b3⟩
  obtain ⟨y1, y2⟩ := And.intro (X1.out.below b3 1 _ rfl) (X2.out.below b3 1 _ rfl)
  simp only [World.size_alloc] at y2
  have B := Lib.hid b3
  have z3 := b3.size
  clear b3
  go_wp2
  go_ret
  exact ⟨rfl, (((Below.refl w.heap.size w).alloc (Nat.le_refl _) _).alloc (by simp) _).trans (B.out.mono (by simp <;> omega))⟩

set_option maxHeartbeats 1600000 in
theorem eqPlayerS_same (v1 v2 : Value) (ls : List RPlayer) (b1 b2 : Nat) (w : World) (h1 : OwnPlayer w b1 v1 ls) (h2 : OwnPlayer w b2 v2 ls) (hl : bulkPlayer ls ≤ 2000000) :
    Calls Try.prog 26 #[v1, v2] w fun e w' => e = .returned (.bool true) ∧ Below w.heap.size w w' := by
  have hll := bulkPlayer_len ls
  have RW := Lib.hid (fun k (h : k < ls.length) => (show ls[k].f0.length ≤ 2000000 by have := bulkPlayer_row ls k h; omega))
  obtain ⟨A1, c1, rfl⟩ := h1.slice
  obtain ⟨A2, c2, rfl⟩ := h2.slice
  have H1 := Lib.hid h1
  have H2 := Lib.hid h2
  clear h1 h2
  go_enter Try.func26, Try.ntmps26
  go_wp2
  go_loopw [5] (fun i wr => ∃ (k : Nat), k ≤ ls.length ∧ i = .int .i64 k ∧ Hid (Below w.heap.size w wr)) (fun i _ => ls.length - (intOf i).toNat)
  case atStart => exact ⟨0, by omega, rfl, Lib.hid (Below.refl _ _)⟩
  case round =>
    obtain ⟨k, hk, rfl, BW⟩ := hrel
    by_cases hlt : k < ls.length
    rotate_left
    · go_wp2
      go_ret
      exact ⟨rfl, BW.out⟩
    have hk0 : (0 : Int) ≤ (k : Int) := by omega
    have hk1 : (k : Int) < (ls.length : Int) := by omega
    obtain ⟨g1, _, P1, p1, f1, -, ⟨x0, x1⟩, o1, -, -, -⟩ := (H1.out.below BW.out).spot hlt
    obtain ⟨g2, _, P2, p2, f2, -, ⟨y0, y1⟩, u1, -, -, -⟩ := (H2.out.below BW.out).spot hlt
    simp only [Value.slice.injEq] at f1 f2
    obtain ⟨rfl, -, rfl⟩ := f1
    obtain ⟨rfl, -, rfl⟩ := f2
    have hr := RW.out k hlt
    have C := Lib.hid (fun W (hb : Below wr.heap.size wr W) => eqPlayer_same ls[k].f1 P1 P2 p1 p2 ls[k].f0 b1 b2 W (o1.below hb) (u1.below hb) hr)
    have X0 := Lib.hid (show wr.cell? ⟨g1, k * 2, none⟩ = some (.slice P1 ls[k].f0.length p1) ∧ wr.cell? ⟨g1, k * 2 + 1, none⟩ = some (.int .i64 ls[k].f1) ∧ wr.cell? ⟨g2, k * 2, none⟩ = some (.slice P2 ls[k].f0.length p2) ∧ wr.cell? ⟨g2, k * 2 + 1, none⟩ = some (.int .i64 ls[k].f1) from ⟨x0, x1, y0, y1⟩)
    have hbs := BW.out.size
    clear o1 u1 hr
    generalize ls[k].f1 = H at x1 y1 C X0
    generalize ls[k].f0.length = n at x0 y0 C X0
    go_wp2_with fail
    go_region_held3 (fun W => W.cell? ⟨g1, k * 2, none⟩ = some (.slice P1 n p1) ∧ W.cell? ⟨g1, k * 2 + 1, none⟩ = some (.int .i64 H) ∧ W.cell? ⟨g2, k * 2, none⟩ = some (.slice P2 n p2) ∧ W.cell? ⟨g2, k * 2 + 1, none⟩ = some (.int .i64 H))
      (first | exact X0.out | exact X2.out)
      (first | (go_at_call 57; refine (C.out _ (Below.refl _ _).drew).mono ?_; rintro e w2 ⟨rfl, b2⟩; have b3 := undrew b2; have X2 := Lib.hid (show _ ∧ _ ∧ _ ∧ _ from ⟨cell_below X0.out.1 b3, cell_below X0.out.2.1 b3, cell_below X0.out.2.2.1 b3, cell_below X0.out.2.2.2 b3⟩)))
    have B2 := Lib.hid (BW.out.trans ((undrew b2).mono hbs))
    clear b2 b3 X0 X2
    go_wp2
    exact ⟨⟨k + 1, by omega, by go_num⟩, by simp [intOf]; omega⟩
end Go.Proofs.Ytanlfkkmnnjpeaa
