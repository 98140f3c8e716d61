/- The contract of spec.PairsOf. Condition: the crossings lie in a row of their own. -/
import Derived.Test.YtokgcchcjaimhaaOrAS
import Derived.Test.YtokgcchcjaimhaaRowRA
namespace Go.Proofs.Ytokgcchcjaimhaa
set_option linter.unusedVariables false
set_option linter.unusedSimpArgs false
open Go.RowKit

set_option maxRecDepth 100000 in
set_option maxHeartbeats 3200000 in
theorem specPairs (n : Int) (v : Value) (ls : List RCross) (b : Nat) (w : World) (h : OwnCross w b v ls) (hl : ls.length ≤ 2000000) :
    Calls Try.prog 51 #[.int .i64 n, v] w (RowsPost w (pairsOf n ls)) := by
  have CK := Lib.hid (fun W h => specCrOk n v ls b W h hl)
  obtain ⟨A, c, rfl⟩ := h.slice
  have O := Lib.hid h
  clear h
  have E0 := Lib.hid (emptyR w w.heap.size w.heap.size #[] rfl (Nat.le_refl _) rfl)
  have B0 := Lib.hid ((Below.refl w.heap.size w).alloc (Nat.le_refl _) (.cells #[] 29))
  have OA := Lib.hid (O.out.alloc (.cells #[] 29))
  cases hc : crossOk n ls with
  | false =>
    have R := Lib.hid (show pairsOf n ls = [] by unfold pairsOf; rw [hc]; rfl)
    rw [hc] at CK
    go_enter Try.func51, Try.ntmps51
    go_wp2_with fail
    refine (CK.out _ OA.out).mono ?_
    rintro e w1 ⟨rfl, b1⟩
    have B1 := Lib.hid (B0.out.trans (b1.mono B0.out.size))
    have E1 := Lib.hid (E0.out.below b1)
    clear b1
    go_wp2
    go_ret
    exact ⟨_, rfl, by rw [R.out]; exact E1.out, B1.out⟩
  | true =>
    have hn := (crossOk_has hc).1
    have hn' : 1 ≤ n ∧ n ≤ 7 := by
      unfold inB at hn
      exact of_decide_eq_true hn
    have h40 := (crossOk_has hc).2.1
    have AT := Lib.hid (crossOk_has hc).2.2
    have R := Lib.hid (show pairsOf n ls = pairsTo n ls ls.length by unfold pairsOf; rw [if_pos hc])
    rw [hc] at CK
    have ST := Lib.hid (fun W => specStart n W hn')
    have NL := Lib.hid (fun k => nowAt_len n ls k)
    have NZ := Lib.hid (nowAt_zero n ls)
    clear hn hc
    go_enter Try.func51, Try.ntmps51
    go_wp2_with fail
    refine (CK.out _ OA.out).mono ?_
    rintro e w1 ⟨rfl, b1⟩
    have hb1 := b1.size
    simp only [World.size_alloc] at hb1
    have B1 := Lib.hid (B0.out.trans (b1.mono B0.out.size))
    have E1 := Lib.hid (E0.out.below b1)
    clear b1 CK E0 B0 OA
    go_wp2_with fail
    refine (ST.out _).mono ?_
    rintro e w2 ⟨v0, rfl, o0, b2⟩
    have B2 := Lib.hid (B1.out.trans (b2.mono B1.out.size))
    have E2 := Lib.hid (E1.out.below b2)
    have S0 := Lib.hid (show v0.ownBlock = none ∨ v0.ownBlock ≠ (Value.slice (some ⟨w.heap.size, 0, none⟩) 0 0).ownBlock from sep_of fun b e1 e2 => by have := (o0.lt b e1).1; have : w.heap.size = b := Option.some.inj e2; omega)
    have O0 := Lib.hid (show OwnI w2 w.heap.size v0 (nowAt n ls 0) by rw [NZ.out]; exact o0.mono B1.out.size)
    clear b2 o0 B1 E1 hb1
    go_wp2_with fail
    go_loopw [5, 6, 7] (fun ov nv iv wr => ∃ (k : Nat) (vo vn : Value), vo = ov ∧ vn = nv ∧ k ≤ ls.length ∧ iv = .int .i64 (k : Int) ∧ Hid (OwnR wr w.heap.size vo (pairsTo n ls k)) ∧ Hid (OwnI wr w.heap.size vn (nowAt n ls k)) ∧ Hid (vn.ownBlock = none ∨ vn.ownBlock ≠ vo.ownBlock) ∧ Hid (Below w.heap.size w wr)) (fun _ _ iv _ => ls.length - (intOf iv).toNat)
    case atStart => exact ⟨0, _, _, rfl, rfl, by omega, rfl, E2, O0, S0, B2⟩
    case round =>
      clear O0 B2 E2 S0
      obtain ⟨k, vo, vn, rfl, rfl, hk, rfl, OO, ON, SE, BW⟩ := hrel
      by_cases hlt : k < ls.length
      rotate_left
      · obtain rfl : k = ls.length := by omega
        go_wp2
        go_ret
        exact ⟨_, rfl, by rw [R.out]; exact OO.out, BW.out⟩
      have hk0 : (0 : Int) ≤ (k : Int) := by omega
      have hk1 : (k : Int) < (ls.length : Int) := by omega
      obtain ⟨gl, _, f1, _, lt1, z0, _⟩ := O.out.spot hlt
      simp only [Value.slice.injEq] at f1
      obtain ⟨rfl, -, rfl⟩ := f1
      have LC := Lib.hid (fun W (hb : Below w.heap.size w W) => (show W.cell? ⟨gl, k * 2, none⟩ = some (.int .i64 ls[k].f0) ∧ W.cell? ⟨gl, k * 2 + 1, none⟩ = some (.bool ls[k].f1) from ⟨(z0.below hb lt1) 0 _ rfl, (z0.below hb lt1) 1 _ rfl⟩))
      have hx := AT.out k hlt
      have hx := of_decide_eq_true (show decide (0 ≤ ls[k].f0 ∧ ls[k].f0 ≤ n - 2) = true from hx)
      have SW := Lib.hid (fun W h => specSwap vn (nowAt n ls k) ls[k].f0 w.heap.size W h (by rw [NL.out]; omega))
      have NM := Lib.hid (show nowAt n ls (k + 1) = (swapR (nowAt n ls k) ls[k].f0).1 from nowAt_more n hlt)
      have PM := Lib.hid (show pairsTo n ls (k + 1) = pairsTo n ls k ++ [pairC (nowAt n ls k) ⟨ls[k].f0, ls[k].f1⟩] from pairsTo_more n hlt)
      have hzl := NL.out k
      have hpl : (pairsTo n ls k).length ≤ 40 := by rw [pairsTo_len]; omega
      generalize nowAt n ls k = zs at ON SW NM PM hzl
      generalize pairsTo n ls k = ps at OO PM hpl
      generalize swapR zs ls[k].f0 = rr at SW NM
      obtain ⟨ys, rb⟩ := rr
      unfold IntsB at SW
      dsimp only at SW NM
      generalize ls[k].f0 = x at LC SW PM hx
      generalize ls[k].f1 = y at LC PM
      obtain ⟨i, rfl⟩ := Int.eq_ofNat_of_zero_le hx.1
      have hi : i + 1 < zs.length := by omega
      obtain ⟨gn, cn, rfl, _, _, p0, _⟩ := ON.out.spot (k := i) (by omega)
      obtain ⟨gn2, cn2, e2, _, _, p1, _⟩ := ON.out.spot (k := i + 1) hi
      simp only [Value.slice.injEq, Option.some.injEq, Addr.mk.injEq, and_true, true_and] at e2
      obtain ⟨rfl, -⟩ := e2
      have hi0 : (0 : Int) ≤ (i : Int) := by omega
      have hi1 : (i : Int) < (zs.length : Int) := by omega
      have hi2 : (i : Int) + 1 < (zs.length : Int) := by omega
      have e1 : IntKind.i64.wrap ((i : Int) + 1) = (i : Int) + 1 := IntWalk.i64_in _ (by omega)
      have PC := Lib.hid (show pairC zs ⟨(i : Int), y⟩ = if y = true then [zs[i], zs[i + 1]] else [zs[i + 1], zs[i]] by unfold pairC; rw [Int.toNat_natCast, atI_of hi, atI_of (by omega)])
      rw [PC.out] at PM
      generalize zs[i] = a at p0 PM
      generalize zs[i + 1] = d at p1 PM
      clear PC hx z0 hzl
      obtain ⟨r0, r1⟩ := LC.out _ BW.out
      have hsz := BW.out.size
      have TW := Lib.hid (fun a d => twoI wr wr.heap.size a d (Nat.le_refl _))
      have NX := Lib.hid (fun a d u => (oneRow (wr.alloc (.cells #[.int .i64 a, .int .i64 d] 3)) u wr.heap.size (by simp)))
      have BB := Lib.hid (fun a d u => (((Below.refl wr.heap.size wr).alloc (Nat.le_refl _) (.cells #[.int .i64 a, .int .i64 d] 3)).alloc (by simp) (.cells #[u] 29)))
      simp only [World.size_alloc] at NX
      cases y with
      | true =>
        have PM := Lib.hid (show pairsTo n ls (k + 1) = ps ++ [[a, d]] from PM.out)
        go_wp2_with (at_builtin; refine wpList_rowR rfl (.tmp 49) (.tmp 53) rfl wr w.heap.size wr.heap.size vo (.slice (some ⟨wr.heap.size + 1, 0, none⟩) 1 1) (.slice (some ⟨wr.heap.size, 0, none⟩) 2 2) ps [a, d] rfl rfl OO.out (BB.out a d _) ((TW.out a d).alloc _) hsz (NX.out a d _) (by omega) ?_; intro v3 w3 o3 g3 hat3; have B3 := Lib.hid (((BW.out.alloc hsz _).alloc (by simp; omega) _).grown g3 (by simp; omega) (fun k hk => (OO.out.lt k hk).1)); have N3 := Lib.hid (((ON.out.alloc _).alloc _).kept g3 SE.out); obtain ⟨q0, q1⟩ := LC.out _ B3.out; have O3 := Lib.hid (PM.out ▸ o3); clear o3 g3 hat3)
        refine (SW.out _ N3.out).mono ?_
        rintro e w4 ⟨v4, rfl, o4, b4⟩
        have B4 := Lib.hid (B3.out.trans (b4.mono B3.out.size))
        have O4 := Lib.hid (O3.out.below b4)
        have N4 := Lib.hid (show OwnI w4 w.heap.size v4 (nowAt n ls (k + 1)) by rw [NM.out]; exact o4.mono B3.out.size)
        have S4 := Lib.hid (show v4.ownBlock = none ∨ v4.ownBlock ≠ v3.ownBlock from sep_of fun b e1 e2 => by have := (o4.lt b e1).1; have := (O3.out.lt b e2).2; omega)
        clear b4 o4 OO ON BW SW SE
        go_wp2
        exact ⟨⟨k + 1, v3, v4, rfl, rfl, by omega, by go_num, O4, N4, S4, B4⟩, by simp [intOf]; omega⟩
      | false =>
        have PM := Lib.hid (show pairsTo n ls (k + 1) = ps ++ [[d, a]] from PM.out)
        go_wp2_with (at_builtin; refine wpList_rowR rfl (.tmp 49) (.tmp 53) rfl wr w.heap.size wr.heap.size vo (.slice (some ⟨wr.heap.size + 1, 0, none⟩) 1 1) (.slice (some ⟨wr.heap.size, 0, none⟩) 2 2) ps [d, a] rfl rfl OO.out (BB.out d a _) ((TW.out d a).alloc _) hsz (NX.out d a _) (by omega) ?_; intro v3 w3 o3 g3 hat3; have B3 := Lib.hid (((BW.out.alloc hsz _).alloc (by simp; omega) _).grown g3 (by simp; omega) (fun k hk => (OO.out.lt k hk).1)); have N3 := Lib.hid (((ON.out.alloc _).alloc _).kept g3 SE.out); obtain ⟨q0, q1⟩ := LC.out _ B3.out; have O3 := Lib.hid (PM.out ▸ o3); clear o3 g3 hat3)
        refine (SW.out _ N3.out).mono ?_
        rintro e w4 ⟨v4, rfl, o4, b4⟩
        have B4 := Lib.hid (B3.out.trans (b4.mono B3.out.size))
        have O4 := Lib.hid (O3.out.below b4)
        have N4 := Lib.hid (show OwnI w4 w.heap.size v4 (nowAt n ls (k + 1)) by rw [NM.out]; exact o4.mono B3.out.size)
        have S4 := Lib.hid (show v4.ownBlock = none ∨ v4.ownBlock ≠ v3.ownBlock from sep_of fun b e1 e2 => by have := (o4.lt b e1).1; have := (O3.out.lt b e2).2; omega)
        clear b4 o4 OO ON BW SW SE
        go_wp2
        exact ⟨⟨k + 1, v3, v4, rfl, rfl, by omega, by go_num, O4, N4, S4, B4⟩, by simp [intOf]; omega⟩
end Go.Proofs.Ytokgcchcjaimhaa
