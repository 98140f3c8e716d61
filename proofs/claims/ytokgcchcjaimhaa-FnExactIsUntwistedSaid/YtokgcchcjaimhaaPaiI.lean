/- The contracts of the program's pairAt, PairsOf and CountFront. Condition: the crossings lie in a row of their own. -/
import Derived.Test.YtokgcchcjaimhaaCroI
import Derived.Test.YtokgcchcjaimhaaNowM
import Derived.Test.YtokgcchcjaimhaaPrsM
import Derived.Test.YtokgcchcjaimhaaRowRT
import Derived.Test.YtokgcchcjaimhaaRowRA
import Derived.BigQuiet
namespace Go.Proofs.Ytokgcchcjaimhaa
set_option linter.unusedVariables false
set_option linter.unusedSimpArgs false
open Go.RowKit

theorem two_own (w : World) (base : Nat) (a d : Int) (hb : base ≤ w.heap.size) : OwnI (w.alloc (.cells #[.int .i64 a, .int .i64 d] 3)) base (.slice (some ⟨w.heap.size, 0, none⟩) 2 2) [a, d] :=
  ⟨rfl, .inr ⟨w.heap.size, 2, #[.int .i64 a, .int .i64 d], rfl, hb, heap_alloc_new w _, Nat.le_refl _, by simp only [maxLen]; omega, rfl, rfl⟩⟩

set_option maxRecDepth 100000 in
set_option maxHeartbeats 1600000 in
theorem pairM (v : Value) (zs : List Int) (i : Nat) (y : Bool) (b : Nat) (w : World) (h : OwnI w b v zs) (hi : i + 1 < zs.length) (hl : zs.length ≤ 2000000) :
    Calls Try.prog 60 #[v, .agg #[.int .i64 (i : Int), .bool y]] w (IntsPost w (pairC zs ⟨(i : Int), y⟩)) := by
  have h1 : i < zs.length := by omega
  have hi0 : (0 : Int) ≤ (i : Int) := by omega
  have hi1 : (i : Int) < (zs.length : Int) := by omega
  have hi3 : (0 : Int) ≤ (i : Int) + 1 := by omega
  have hi2 : (i : Int) + 1 < (zs.length : Int) := by omega
  have e1 : IntKind.i64.wrap ((i : Int) + 1) = (i : Int) + 1 := IntWalk.i64_in _ (by omega)
  have PC := Lib.hid (show pairC zs ⟨(i : Int), y⟩ = if y = true then [zs[i], zs[i + 1]] else [zs[i + 1], zs[i]] by unfold pairC; rw [Int.toNat_natCast, atI_of hi, atI_of h1])
  obtain ⟨A, c, rfl⟩ := h.slice
  obtain ⟨g, _, f1, _, _, p0, _⟩ := (h.alloc (.cells #[.int .i64 (i : Int), .bool y] 60)).spot h1
  simp only [Value.slice.injEq] at f1
  obtain ⟨rfl, -, -⟩ := f1
  obtain ⟨_, _, f1, _, _, p1, _⟩ := (h.alloc (.cells #[.int .i64 (i : Int), .bool y] 60)).spot hi
  simp only [Value.slice.injEq, Option.some.injEq, Addr.mk.injEq] at f1
  obtain ⟨⟨rfl, _⟩, _⟩ := f1
  have HB := Lib.hid (h.lt g rfl).2
  have BX := Lib.hid (((Below.refl w.heap.size w).alloc (Nat.le_refl _) (.cells #[.int .i64 (i : Int), .bool y] 60)))
  clear h
  generalize zs[i] = a at p0 PC
  generalize zs[i + 1] = d at p1 PC
  cases y with
  | true =>
    have P2 := Lib.hid (show pairC zs ⟨(i : Int), true⟩ = [a, d] from PC.out)
    go_enter Try.func60, Try.ntmps60
    go_wp2
    go_quiet (fail)
    have B2 := Lib.hid (below_drewN BX.out nq)
    have hs2 := B2.out.size
    have q1 : ((w.alloc (.cells #[.int .i64 (i : Int), .bool true] 60)).drewN nq).cell? ⟨w.heap.size, 1, none⟩ = some (.bool true) := by simp [go_sem]
    generalize (w.alloc (.cells #[.int .i64 (i : Int), .bool true] 60)).drewN nq = w2 at B2 hs2 q1 ⊢
    go_wp2
    go_ret
    exact ⟨_, rfl, by rw [P2.out]; exact two_own w2 _ a d hs2, B2.out.alloc hs2 _⟩
  | false =>
    have P2 := Lib.hid (show pairC zs ⟨(i : Int), false⟩ = [d, a] from PC.out)
    go_enter Try.func60, Try.ntmps60
    go_wp2
    go_quiet (fail)
    have B2 := Lib.hid (below_drewN BX.out nq)
    have hs2 := B2.out.size
    have q1 : ((w.alloc (.cells #[.int .i64 (i : Int), .bool false] 60)).drewN nq).cell? ⟨w.heap.size, 1, none⟩ = some (.bool false) := by simp [go_sem]
    generalize (w.alloc (.cells #[.int .i64 (i : Int), .bool false] 60)).drewN nq = w2 at B2 hs2 q1 ⊢
    go_wp2
    go_ret
    exact ⟨_, rfl, by rw [P2.out]; exact two_own w2 _ d a hs2, B2.out.alloc hs2 _⟩

theorem put_step {α : Type} (d : α) (p : List α) (x : α) (N k : Nat) (hl : p.length = k) (h : k < N) : (p ++ List.replicate (N - k) d).set k x = (p ++ [x]) ++ List.replicate (N - (k + 1)) d := by
  rw [List.set_append_right _ _ (by omega), hl, Nat.sub_self, show N - k = (N - (k + 1)) + 1 by omega, List.replicate_succ, List.set_cons_zero, List.append_assoc]
  rfl

set_option maxRecDepth 100000 in
set_option maxHeartbeats 3200000 in
theorem implPairs (n : Int) (v : Value) (ls : List RCross) (b : Nat) (w : World) (h : OwnCross w b v ls) (hl : ls.length ≤ 2000000) :
    Calls Try.prog 57 #[.int .i64 n, v] w (RowsPost w (pairsOf n ls)) := by
  have CK := Lib.hid (fun W h => implCrOk n v ls b W h hl)
  obtain ⟨A, c, rfl⟩ := h.slice
  have O := Lib.hid h
  clear h
  cases hc : crossOk n ls with
  | false =>
    have R := Lib.hid (show pairsOf n ls = [] by unfold pairsOf; rw [hc]; rfl)
    rw [hc] at CK
    go_enter Try.func57, Try.ntmps57
    go_wp2_with (go_at_call 39; refine (CK.out _ O.out).mono ?_; rintro e w1 ⟨rfl, b1⟩; have B1 := Lib.hid b1; clear b1)
    go_ret
    exact ⟨_, rfl, by rw [R.out]; exact ⟨[], ⟨rfl, .inl ⟨rfl, rfl⟩⟩, rfl, fun k hk => absurd hk (by simp), fun k hk => absurd hk (by simp), fun i j hi => absurd hi (by simp)⟩, B1.out⟩
  | true =>
    obtain ⟨i, hi, hz, hs, hb⟩ := info_parts info_ints
    have hn := (crossOk_has hc).1
    have hn' : 1 ≤ n ∧ n ≤ 7 := by
      unfold inB at hn
      exact of_decide_eq_true hn
    have h40 := (crossOk_has hc).2.1
    have R := Lib.hid (show pairsOf n ls = pairsTo n ls ls.length by unfold pairsOf; rw [if_pos hc])
    have SS := Lib.hid (fun k (h : k < ls.length) => now_swap hc h)
    rw [hc] at CK
    have ST := Lib.hid (fun W => homeM n W hn')
    have NL := Lib.hid (fun k => nowAt_len n ls k)
    have PL := Lib.hid (fun k => pairsTo_len n ls k)
    have NZ := Lib.hid (nowAt_zero n ls)
    clear hn hc
    go_enter Try.func57, Try.ntmps57
    go_wp2_with (first
      | (go_at_call 39; refine (CK.out _ O.out).mono ?_; rintro e w1 ⟨rfl, b1⟩; have B1 := Lib.hid b1; clear b1)
      | (go_at_call 59; refine (ST.out _).mono ?_; rintro e w2 ⟨v0, rfl, o0, b2⟩; have B2 := Lib.hid (B1.out.trans (b2.mono B1.out.size)); have O0 := Lib.hid (show OwnI w2 w.heap.size v0 (nowAt n ls 0) by rw [NZ.out]; exact o0.mono B1.out.size); clear b2 o0)
      | (refine wpList_make_full _ rfl _ _ 27 rfl w2.heap.size 29 i (.slice none 0 0) 1 Try.underlying27 hi hz hs .i64 .i64 _ _ ls.length rfl rfl rfl rfl (by rw [hb]; omega) (by simp only [maxLen]; omega) (by simp) ?_; intro w3 own3 grown3))
    have P3 := Lib.hid (show OwnR w3 w2.heap.size (.slice (some ⟨w2.heap.size, 0, none⟩) ls.length ls.length) (pairsTo n ls 0 ++ List.replicate (ls.length - 0) []) by
      have e : (madeCells (Value.slice none 0 0).cells (ls.length * 1)).toList = List.replicate ls.length (.slice none 0 0) := by
        simp only [Value.cells, Nat.mul_one, toList_madeCells_one]
      rw [e] at own3
      simpa [pairsTo] using ownR_made own3)
    have g3 := below_of_grown grown3
    have B3 := Lib.hid (B2.out.trans (g3.mono B2.out.size))
    have O3 := Lib.hid (O0.out.below g3)
    clear own3 grown3 g3
    have hs0 := B2.out.size
    have LT0 := Lib.hid (fun q hq => (O0.out.lt q hq).2)
    clear B1 CK ST B2 O0
    generalize w2.heap.size = top at *
    go_loopw [20] (fun iv wr => ∃ k : Nat, k ≤ ls.length ∧ iv = .int .i64 (k : Int) ∧ Hid (OwnI wr w.heap.size v0 (nowAt n ls k)) ∧ Hid (OwnR wr top (.slice (some ⟨top, 0, none⟩) ls.length ls.length) (pairsTo n ls k ++ List.replicate (ls.length - k) [])) ∧ Hid (Below w.heap.size w wr)) (fun iv _ => ls.length - (intOf iv).toNat)
    case atStart => exact ⟨0, by omega, rfl, O3, P3, B3⟩
    case round =>
      clear O3 P3 B3
      obtain ⟨k, hk, rfl, OO, OP, BW⟩ := hrel
      by_cases hlt : k < ls.length
      rotate_left
      · obtain rfl : k = ls.length := by omega
        have F := Lib.hid (show OwnR wr w.heap.size (.slice (some ⟨top, 0, none⟩) ls.length ls.length) (pairsOf n ls) by rw [R.out]; have := OP.out; simp at this; exact this.mono hs0)
        go_wp2
        go_ret
        exact ⟨_, rfl, F.out, BW.out⟩
      have hk0 : (0 : Int) ≤ (k : Int) := by omega
      have hk1 : (k : Int) < (ls.length : Int) := by omega
      obtain ⟨g, _, f1, _, _, z0, _⟩ := (O.out.below BW.out).spot hlt
      simp only [Value.slice.injEq] at f1
      obtain ⟨rfl, -, rfl⟩ := f1
      have r0 : wr.cell? ⟨g, k * 2, none⟩ = some (.int .i64 ls[k].f0) := z0 0 _ rfl
      have r1 : wr.cell? ⟨g, k * 2 + 1, none⟩ = some (.bool ls[k].f1) := z0 1 _ rfl
      obtain ⟨q, hq, hq1, hsw⟩ := SS.out k hlt
      have PM := Lib.hid (show pairsTo n ls (k + 1) = pairsTo n ls k ++ [pairC (nowAt n ls k) ⟨(q : Int), ls[k].f1⟩] by rw [← hq]; exact pairsTo_more n hlt)
      have SW := Lib.hid (fun W h => swapM v0 (nowAt n ls k) q w.heap.size W h hq1 (by have := NL.out k; omega))
      have PA := Lib.hid (fun y W h => pairM v0 (nowAt n ls k) q y w.heap.size W h hq1 (by have := NL.out k; omega))
      rw [hq] at r0
      have NM := Lib.hid hsw
      have hpl := PL.out k
      generalize ls[k].f1 = y at r1 PM
      have hbs := BW.out.size
      have LT := Lib.hid (fun x hx => (OO.out.lt x hx).1)
      have P2l := pairC_len (nowAt n ls k) ⟨(q : Int), y⟩
      have HLen := Lib.hid (show (pairsTo n ls k ++ List.replicate (ls.length - k) []).length = ls.length by rw [List.length_append, List.length_replicate, hpl]; omega)
      have PUT := Lib.hid (show (pairsTo n ls k ++ List.replicate (ls.length - k) []).set k (pairC (nowAt n ls k) ⟨(q : Int), y⟩) = pairsTo n ls (k + 1) ++ List.replicate (ls.length - (k + 1)) [] by rw [put_step [] _ _ ls.length k hpl hlt, PM.out])
      clear z0 hq hsw hq1 hpl
      have htop := (OP.out.lt top rfl).2
      have XB := Lib.hid (show (wr.alloc (.cells #[.int .i64 (q : Int), .bool y] 60)).cell? ⟨wr.heap.size, 0, none⟩ = some (.int .i64 (q : Int)) by simp [go_sem])
      have BA := Lib.hid (BW.out.alloc hbs (.cells #[.int .i64 (q : Int), .bool y] 60))
      have OA := Lib.hid (OO.out.alloc (.cells #[.int .i64 (q : Int), .bool y] 60))
      have PB := Lib.hid (OP.out.alloc (.cells #[.int .i64 (q : Int), .bool y] 60))
      go_wp2_with fail
      refine (PA.out y _ OA.out).mono ?_
      rintro e w4 ⟨u, rfl, o4, b4⟩
      obtain ⟨U, cu, rfl⟩ := o4.slice
      have ST := OwnR.set (k := k) (g := top) (c := ls.length) (base := top) (zss := pairsTo n ls k ++ List.replicate (ls.length - k) []) (w := w4) (u := .slice U (pairC (nowAt n ls k) ⟨(q : Int), y⟩).length cu) (by rw [HLen.out]; exact PB.out) b4 o4 (by simp; omega) (by rw [HLen.out]; exact hlt)
      rw [PUT.out, HLen.out] at ST
      obtain ⟨_, _, A', c', e2, xc, xf, _⟩ := (PB.out.below b4).spot (k := k) (by rw [HLen.out]; exact hlt)
      simp only [Value.slice.injEq, Option.some.injEq, Addr.mk.injEq] at e2
      obtain ⟨⟨rfl, _⟩, -, -⟩ := e2
      obtain ⟨t, ht⟩ : ∃ t, w4.cell? ⟨top, k, none⟩ = some t := ⟨_, xc⟩
      have B4 := Lib.hid (BA.out.trans (b4.mono BA.out.size))
      rw [P2l] at ST
      have x4 : (w4.setCell ⟨top, k, none⟩ (.slice U 2 cu)).cell? ⟨wr.heap.size, 0, none⟩ = some (.int .i64 (q : Int)) := by
        rw [World.cell?_setCell_other]
        · exact cell_below XB.out b4
        · intro h
          simp at h <;> omega
      have O4 := Lib.hid ((OA.out.below b4).kept ST.2 (sep_of fun x h1 h2 => by have := LT0.out x h1; have := Option.some.inj h2; omega))
      have S4 := Lib.hid ST
      clear xc ST o4 b4 OA PB XB BA
      go_wp2_with fail
      refine (SW.out _ O4.out).mono ?_
      rintro e w5 ⟨rfl, o5, g5⟩
      have O5 := Lib.hid (show OwnI w5 w.heap.size v0 (nowAt n ls (k + 1)) by rw [NM.out]; exact o5)
      have P5 := Lib.hid (S4.out.1.older g5 (fun x hx => LT0.out x hx))
      have B5 := Lib.hid ((B4.out.grown S4.out.2 B4.out.size (fun x hx => by have := Option.some.inj hx; omega)).grown g5 (Nat.le_trans B4.out.size S4.out.2.size) LT.out)
      clear o5 g5
      go_wp2
      exact ⟨⟨k + 1, by omega, by go_num, O5, P5, B5⟩, by simp [intOf]; omega⟩
end Go.Proofs.Ytokgcchcjaimhaa
