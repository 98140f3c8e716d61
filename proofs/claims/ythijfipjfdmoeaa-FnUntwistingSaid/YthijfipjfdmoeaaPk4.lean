/- Texts of this seat laid together, each with its own first sentence below: CrsS OrdO SwpS ParI OrAS OrdS SrtS. -/
import Derived.Test.YthijfipjfdmoeaaPk2
import Derived.Test.YthijfipjfdmoeaaPk3
import Derived.Test.YthijfipjfdmoeaaPk1
import Derived.BigQuiet
import Derived.Deep.AppendLies
/- The contracts of spec.CrossesOk and UndoCrosses. Condition: the crossings lie in a row of their own. -/
namespace Go.Proofs.Ythijfipjfdmoeaa
set_option linter.unusedVariables false
set_option linter.unusedSimpArgs false
open Go.RowKit

set_option maxRecDepth 100000 in
set_option maxHeartbeats 1600000 in
theorem specCrOk (n : Int) (v : Value) (ls : List RCross) (b : Nat) (w : World) (h : OwnCross w b v ls) (hl : ls.length ≤ 2000000) :
    Calls Try.prog 37 #[.int .i64 n, v] w fun e w' => e = .returned (.bool (crossOk n ls)) ∧ Below w.heap.size w w' := by
  obtain ⟨A, c, rfl⟩ := h.slice
  have O := Lib.hid h
  have C0 := Lib.hid (fun v lo hi W => (l01In_any v lo hi W).mono fun e w' h => (show _ ∧ W = w' from ⟨h.1, h.2.symm⟩))
  clear h
  cases hn : inB n 1 7 with
  | false =>
    have R := Lib.hid (crossOk_no (ls := ls) (.inl hn))
    go_enter Try.func37, Try.ntmps37
    go_wp2_with (go_at_call 48; refine (C0.out _ _ _ _).mono ?_; rintro e w' ⟨rfl, rfl⟩)
    go_ret
    exact ⟨by rw [R.out]; rfl, Below.refl _ _⟩
  | true =>
    by_cases h40 : 40 < ls.length
    · have R := Lib.hid (crossOk_no (n := n) (.inr h40))
      have h41 : (40 : Int) < (ls.length : Int) := by omega
      go_enter Try.func37, Try.ntmps37
      go_wp2_with (go_at_call 48; refine (C0.out _ _ _ _).mono ?_; rintro e w' ⟨rfl, rfl⟩)
      go_ret
      exact ⟨by rw [R.out]; rfl, Below.refl _ _⟩
    have h41 : ¬ (40 : Int) < (ls.length : Int) := by omega
    have R := Lib.hid (fun h => crossOk_yes (n := n) (ls := ls) hn (by omega) h)
    have R0 := Lib.hid (fun k (hk : k < ls.length) => crossOk_at (n := n) hk)
    have hn' : 1 ≤ n ∧ n ≤ 7 := by
      unfold inB at hn
      exact of_decide_eq_true hn
    have e1 : IntKind.i64.wrap (n - 2) = n - 2 := IntWalk.i64_in _ (by omega)
    go_enter Try.func37, Try.ntmps37
    go_wp2_with (go_at_call 48; refine (C0.out _ _ _ _).mono ?_; rintro e w' ⟨rfl, rfl⟩)
    go_loopw [5] (fun iv wr => ∃ k : Nat, k ≤ ls.length ∧ iv = .int .i64 (k : Int) ∧ Hid (∀ i (hi : i < ls.length), i < k → inB ls[i].f0 0 (n - 2) = true) ∧ Hid (Below w.heap.size w wr)) (fun iv _ => ls.length - (intOf iv).toNat)
    case atStart => exact ⟨0, by omega, rfl, Lib.hid (fun i _ hi => absurd hi (by omega)), Lib.hid (Below.refl _ _)⟩
    case round =>
      obtain ⟨k, hk, rfl, HT, BW⟩ := hrel
      by_cases hlt : k < ls.length
      rotate_left
      · obtain rfl : k = ls.length := by omega
        go_wp2
        go_ret
        exact ⟨by rw [R.out (fun i hi => HT.out i hi hi)]; rfl, BW.out⟩
      have hk0 : (0 : Int) ≤ (k : Int) := by omega
      have hk1 : (k : Int) < (ls.length : Int) := by omega
      obtain ⟨g, _, f1, _, _, z0, _⟩ := (O.out.below BW.out).spot hlt
      simp only [Value.slice.injEq] at f1
      obtain ⟨rfl, -, rfl⟩ := f1
      have r0 : wr.cell? ⟨g, k * 2, none⟩ = some (.int .i64 ls[k].f0) := z0 0 _ rfl
      have NX := Lib.hid (fun (hx : inB ls[k].f0 0 (n - 2) = true) => (show ∀ i (hi : i < ls.length), i < k + 1 → inB ls[i].f0 0 (n - 2) = true from fun i hi hj => by
        rcases (by omega : i < k ∨ i = k) with h | rfl
        · exact HT.out i hi h
        · exact hx))
      have RX := Lib.hid (R0.out k hlt)
      generalize ls[k].f0 = x at r0 NX RX
      clear z0
      cases hx : inB x 0 (n - 2) with
      | false =>
        have RR := Lib.hid (RX.out hx)
        go_wp2_with (go_at_call 48; refine (C0.out _ _ _ _).mono ?_; rintro e w' ⟨rfl, rfl⟩)
        go_ret
        exact ⟨by rw [RR.out]; rfl, BW.out⟩
      | true =>
        have NN := Lib.hid (NX.out hx)
        go_wp2_with (go_at_call 48; refine (C0.out _ _ _ _).mono ?_; rintro e w' ⟨rfl, rfl⟩)
        exact ⟨⟨k + 1, by omega, by go_num, NN, BW⟩, by simp [intOf]; omega⟩
end Go.Proofs.Ythijfipjfdmoeaa

/- The contract of spec.OrderOk. Condition: the numbers lie in a row of their own. -/
namespace Go.Proofs.Ythijfipjfdmoeaa
set_option linter.unusedVariables false
set_option linter.unusedSimpArgs false
open Go.RowKit

set_option maxRecDepth 100000 in
set_option maxHeartbeats 1600000 in
theorem specOrder (v : Value) (zs : List Int) (b : Nat) (w : World) (h : OwnI w b v zs) (hl : zs.length ≤ 2000000) :
    Calls Try.prog 43 #[v] w fun e w' => e = .returned (.bool (orderOk zs)) ∧ Below w.heap.size w w' := by
  obtain ⟨A, c, rfl⟩ := h.slice
  have O := Lib.hid h
  have C0 := Lib.hid (fun v lo hi W => (l01In_any v lo hi W).mono fun e w' h => (show _ ∧ W = w' from ⟨h.1, h.2.symm⟩))
  have e1 := len_sub hl 1 (by omega) (by omega)
  clear h
  go_enter Try.func43, Try.ntmps43
  go_wp2_with fail
  go_loopw [3] (fun iv wr => ∃ k : Nat, k ≤ zs.length ∧ iv = .int .i64 (k : Int) ∧ Hid (ordTo zs k = true) ∧ Hid (Below w.heap.size w wr)) (fun iv _ => zs.length - (intOf iv).toNat)
  case atStart => exact ⟨0, by omega, rfl, rfl, Lib.hid (Below.refl _ _)⟩
  case round =>
    obtain ⟨k, hk, rfl, HT, BW⟩ := hrel
    by_cases hlt : k < zs.length
    rotate_left
    · obtain rfl : k = zs.length := by omega
      have R := Lib.hid (show orderOk zs = inB (zs.length : Int) 1 7 by unfold orderOk; rw [HT.out]; rfl)
      generalize inB (zs.length : Int) 1 7 = r at R
      have C1 := Lib.hid (C0.out (zs.length : Int) 1 7 wr)
      go_wp2_with (go_at_call 48; refine (C0.out _ _ _ _).mono ?_; rintro e w' ⟨rfl, rfl⟩)
      go_ret
      exact ⟨by unfold orderOk; rw [HT.out]; rfl, BW.out⟩
    have hk0 : (0 : Int) ≤ (k : Int) := by omega
    have hk1 : (k : Int) < (zs.length : Int) := by omega
    obtain ⟨g, _, f1, _, _, z0, _⟩ := (O.out.below BW.out).spot hlt
    simp only [Value.slice.injEq] at f1
    obtain ⟨rfl, em, rfl⟩ := f1
    clear em
    have NO := Lib.hid (fun hf => order_no (zs := zs) hlt hf)
    have AT := Lib.hid (show ordAt zs k = (inB zs[k] 0 ((zs.length : Int) - 1) && noneIs zs zs[k] k) by unfold ordAt; rw [atI_of hlt])
    have NM := Lib.hid (fun i (hi : i < zs.length) => noneIs_more (x := zs[k]) hi)
    have HK := Lib.hid (fun W (hb : Below w.heap.size w W) => (by
      obtain ⟨_, _, f1, _, _, z0, _⟩ := (O.out.below hb).spot hlt
      simp only [Value.slice.injEq, Option.some.injEq, Addr.mk.injEq] at f1
      obtain ⟨⟨rfl, _⟩, _⟩ := f1
      exact z0 : W.cell? ⟨g, k, none⟩ = some (.int .i64 zs[k])))
    generalize zs[k] = x at z0 AT NM HK
    cases hx : inB x 0 ((zs.length : Int) - 1) with
    | false =>
      have R := Lib.hid (NO.out (by rw [AT.out, hx]; rfl))
      go_wp2_with (go_at_call 48; refine (C0.out _ _ _ _).mono ?_; rintro e w' ⟨rfl, rfl⟩)
      go_ret
      exact ⟨by rw [R.out]; rfl, BW.out⟩
    | true =>
      go_wp2_with (go_at_call 48; refine (C0.out _ _ _ _).mono ?_; rintro e w' ⟨rfl, rfl⟩)
      clear z0
      go_loopw [4] (fun jv wr => ∃ i : Nat, i ≤ k ∧ jv = .int .i64 (i : Int) ∧ Hid (noneIs zs x i = true) ∧ Hid (Below w.heap.size w wr)) (fun jv _ => k - (intOf jv).toNat)
      case atStart => exact ⟨0, by omega, rfl, rfl, BW⟩
      case round =>
        clear BW
        obtain ⟨i, hi, rfl, HN, BW⟩ := hrel
        by_cases hik : i < k
        · have hin : i < zs.length := by omega
          have z0 := HK.out _ BW.out
          obtain ⟨_, _, f1, _, _, z1, _⟩ := (O.out.below BW.out).spot hin
          simp only [Value.slice.injEq, Option.some.injEq, Addr.mk.injEq] at f1
          obtain ⟨⟨rfl, _⟩, _⟩ := f1
          have MO := Lib.hid (NM.out i hin)
          have LE := Lib.hid (fun (hf : noneIs zs x (i + 1) = false) => (show noneIs zs x k = false by
            cases hh : noneIs zs x k with
            | false => rfl
            | true =>
              have := noneIs_of (zs := zs) (x := x) (k := i + 1) (by omega) fun j hj => noneIs_at hh (by omega) (by omega)
              rw [this] at hf
              cases hf))
          generalize zs[i] = y at z1 MO
          have hi0 : (0 : Int) ≤ (i : Int) := by omega
          have hi1 : (i : Int) < (zs.length : Int) := by omega
          have hi2 : (i : Int) < (k : Int) := by omega
          by_cases he : y = x
          · have R := Lib.hid (NO.out (by rw [AT.out, LE.out (by rw [MO.out, he]; simp), Bool.and_false]))
            have hbe : (y == x) = true := by simpa using he
            clear he
            go_wp2
            go_quiet (fail)
            go_wp2
            go_ret
            exact ⟨by rw [R.out]; rfl, below_drewN BW.out _⟩
          · have M2 := Lib.hid (show noneIs zs x (i + 1) = true by rw [MO.out, HN.out]; simpa using he)
            have hbe : (y == x) = false := by simpa using he
            clear he
            go_wp2
            go_quiet (fail)
            go_wp2
            exact ⟨⟨i + 1, by omega, by go_num, M2, Lib.hid (below_drewN BW.out _)⟩, by simp [intOf]; omega⟩
        · obtain rfl : i = k := by omega
          have T2 := Lib.hid (show ordTo zs (i + 1) = true by rw [ordTo, HT.out, AT.out, hx, HN.out]; rfl)
          have hi2 : ¬ (i : Int) < (i : Int) := by omega
          go_wp2
          exact ⟨⟨i + 1, by omega, by go_num, T2, BW⟩, by simp [intOf]; omega⟩
end Go.Proofs.Ythijfipjfdmoeaa

/- The contract of spec.SwapAt. Condition: the numbers lie in a row of their own. -/
namespace Go.Proofs.Ythijfipjfdmoeaa
set_option linter.unusedVariables false
set_option linter.unusedSimpArgs false
open Go.RowKit

set_option maxRecDepth 100000 in
set_option maxHeartbeats 1600000 in
theorem specSwap (v : Value) (zs : List Int) (k : Int) (b : Nat) (w : World) (h : OwnI w b v zs) (hl : zs.length ≤ 2000000) :
    Calls Try.prog 45 #[v, .int .i64 k] w (IntsB w (swapR zs k)) := by
  have CO := Lib.hid (fun W h => specOrder v zs b W h hl)
  obtain ⟨A, c, rfl⟩ := h.slice
  have O := Lib.hid h
  have C0 := Lib.hid (fun v lo hi W => (l01In_any v lo hi W).mono fun e w' h => (show _ ∧ W = w' from ⟨h.1, h.2.symm⟩))
  have e1 := len_sub hl 2 (by omega) (by omega)
  have E0 := Lib.hid (ownI_empty w w.heap.size w.heap.size #[] rfl (Nat.le_refl _) rfl)
  have lo := fun q hq => (h.lt q hq).2
  clear h
  go_enter Try.func45, Try.ntmps45
  go_wp2_with (at_builtin; refine wpList_rowsI rfl (.tmp 7) (.tmp 8) rfl w.heap.size b (.slice (some ⟨w.heap.size, 0, none⟩) 0 0) (.slice A zs.length c) [] zs rfl rfl E0.out (O.out.alloc _) ?_ ?_ ?_; (simp only [List.length_nil]; omega); (simp); intro v1 w1 o1 g1 hat; replace o1 : OwnI w1 w.heap.size v1 zs := o1; obtain ⟨B, d, rfl⟩ := o1.slice; have b1 : Below w.heap.size w w1 := ((Below.refl _ _).alloc (Nat.le_refl _) _).grown g1 (by simp) (fun q hq => (E0.out.lt q hq).1); have O1 := Lib.hid o1; have B1 := Lib.hid b1; clear o1 b1 g1 hat)
  cases hok : orderOk zs with
  | false =>
    have R := Lib.hid (swapR_no (k := k) (.inl hok))
    have C1 := Lib.hid (hok ▸ CO.out _ (O.out.below B1.out))
    clear hok
    go_wp2_with (go_at_call 43; refine C1.out.mono ?_; rintro e w2 ⟨rfl, b2⟩)
    go_ret2
    exact ⟨_, by rw [R.out]; rfl, by rw [R.out]; exact O1.out.below b2, B1.out.trans (b2.mono B1.out.size)⟩
  | true =>
  have C1 := Lib.hid (hok ▸ CO.out _ (O.out.below B1.out))
  have HO := Lib.hid (order_iff.1 hok)
  clear CO hok
  cases hin : inB k 0 ((zs.length : Int) - 2) with
  | false =>
    have R := Lib.hid (swapR_no (zs := zs) (.inr hin))
    go_wp2_with (first | (go_at_call 43; refine C1.out.mono ?_; rintro e w2 ⟨rfl, b2⟩) | (go_at_call 48; refine (C0.out _ _ _ _).mono ?_; rintro e w' ⟨rfl, rfl⟩))
    go_ret2
    exact ⟨_, by rw [R.out]; rfl, by rw [R.out]; exact O1.out.below b2, B1.out.trans (b2.mono B1.out.size)⟩
  | true =>
  have hkr : 0 ≤ k ∧ k ≤ (zs.length : Int) - 2 := by simpa [inB] using hin
  obtain ⟨q, rfl⟩ := Int.eq_ofNat_of_zero_le hkr.1
  have hq1 : q + 1 < zs.length := by omega
  have hq : q < zs.length := by omega
  have R := Lib.hid (swapR_yes HO.out hq1)
  have hl7 := HO.out.len
  go_wp2_with fail
  refine C1.out.mono ?_
  rintro e w2 ⟨rfl, b2⟩
  have O2 := Lib.hid (O1.out.below b2)
  have B2 := Lib.hid (B1.out.trans (b2.mono B1.out.size))
  clear b2 C1 O1 B1
  obtain ⟨g, _, f1, _, _, z0, _⟩ := (O.out.below B2.out).spot hq
  simp only [Value.slice.injEq] at f1
  obtain ⟨rfl, em, rfl⟩ := f1
  clear em
  obtain ⟨_, _, f1, _, _, z1, _⟩ := (O.out.below B2.out).spot hq1
  simp only [Value.slice.injEq, Option.some.injEq, Addr.mk.injEq] at f1
  obtain ⟨⟨rfl, -⟩, -⟩ := f1
  obtain ⟨go, _, f2, hgo, _, u0, t0⟩ := O2.out.spot hq
  simp only [Value.slice.injEq] at f2
  obtain ⟨rfl, em, rfl⟩ := f2
  clear em
  obtain ⟨_, _, f2, _, _, u1, t1⟩ := O2.out.spot hq1
  simp only [Value.slice.injEq, Option.some.injEq, Addr.mk.injEq] at f2
  obtain ⟨⟨rfl, -⟩, -⟩ := f2
  have glt := lo g rfl
  have s1 := O2.out.set rfl q (atI zs (q + 1))
  have s2 := s1.1.set (by simp) (q + 1) (atI zs q)
  have FIN := Lib.hid (show OwnI _ w.heap.size _ (swapL zs q) ∧ Below w.heap.size w _ from ⟨s2.1, ((B2.out.grown s1.2 B2.out.size (fun x hx => by have := Option.some.inj hx; omega)).grown s2.2 (by simpa using B2.out.size) (fun x hx => by have := Option.some.inj hx; omega))⟩)
  rw [atI_of hq, atI_of hq1] at FIN
  clear s1 s2
  have hk0 : (0 : Int) ≤ (q : Int) := by omega
  have hk1 : (q : Int) < (zs.length : Int) := by omega
  have hk2 : (0 : Int) ≤ (q : Int) + 1 := by omega
  have hk3 : (q : Int) + 1 < (zs.length : Int) := by omega
  have e2 : IntKind.i64.wrap ((q : Int) + 1) = (q : Int) + 1 := IntWalk.i64_in _ (by omega)
  have n1 : ¬ g = go := by omega
  have n2 : ¬ go = g := by omega
  generalize zs[q] = x at z0 u0 FIN
  generalize zs[q + 1] = y at z1 u1 FIN
  go_wp2_with (go_at_call 48; refine (C0.out _ _ _ _).mono ?_; rintro e w' ⟨rfl, rfl⟩)
  go_ret2
  exact ⟨_, by rw [R.out]; rfl, by rw [R.out]; exact FIN.out.1, FIN.out.2⟩
end Go.Proofs.Ythijfipjfdmoeaa

/- Part of a row of numbers (from a place on) appended behind an own row; a row of one number. Condition: the part's cells can be read. -/
namespace Go.Proofs.Ythijfipjfdmoeaa
set_option linter.unusedVariables false
set_option linter.unusedSimpArgs false
open Go.RowKit

/-- The value x leads to the numbers ys, wherever they begin. -/
def PartI (w : World) (x : Value) (ys : List Int) : Prop := ∃ ad c, x = .slice (some ad) ys.length c ∧ ∀ j u, (ys.map intV)[j]? = some u → w.cell? (ad.add j) = some u
theorem PartI.below {w w' : World} {x : Value} {ys : List Int} (h : PartI w x ys) (hb : Below w.heap.size w w') : PartI w' x ys := by
  obtain ⟨ad, c, e, hc⟩ := h
  exact ⟨ad, c, e, fun j u hu => cell_below (hc j u hu) hb⟩
theorem PartI.kept {w w' : World} {x : Value} {ys : List Int} {row : Option Nat} (h : PartI w x ys) (hg : w.grownBy w' row) (hne : x.ownBlock = none ∨ x.ownBlock ≠ row) : PartI w' x ys := by
  obtain ⟨ad, c, rfl, hc⟩ := h
  refine ⟨ad, c, rfl, fun j u hu => hg.cell (hc j u hu) ?_⟩
  rcases hne with h | h
  · cases h
  · have e : (ad.add j).block = ad.block := by unfold Addr.add; split <;> rfl
    rw [e]
    exact h
theorem addr_shift (g o j : Nat) : ((⟨g, o, none⟩ : Addr).add j) = ⟨g, o + j, none⟩ := by unfold Addr.add; split <;> simp_all
/-- The first k numbers of an own row. -/
theorem part_low {w : World} {base g n c k : Nat} {zs : List Int} (h : OwnI w base (.slice (some ⟨g, 0, none⟩) n c) zs) (hk : k ≤ zs.length) : OwnI w base (.slice (some ⟨g, 0, none⟩) k c) (zs.take k) := by
  obtain ⟨h1, h2⟩ := h
  rcases h2 with ⟨h3, _⟩ | ⟨g', cap, cur, e, hb, hg, hnc, hcm, hcs, htake⟩
  · simp at h3
  · simp only [Value.slice.injEq, Option.some.injEq, Addr.mk.injEq, and_true, true_and] at e
    obtain ⟨rfl, hn, rfl⟩ := e
    have hl : (zs.take k).length = k := by rw [List.length_take]; omega
    refine ⟨by simp, .inr ⟨g, c, cur, by rw [hl], hb, hg, by omega, hcm, hcs, ?_⟩⟩
    rw [hl, List.map_take, ← htake, List.take_take]
    congr 1
    omega
/-- What stands from place k on. -/
theorem part_high {w : World} {base g n c k : Nat} {zs : List Int} {x : Value} (h : OwnI w base (.slice (some ⟨g, 0, none⟩) n c) zs) (hk : k ≤ zs.length) (c' : Nat) (hx : x = .slice (if c = k then some ⟨g, 0, none⟩ else some ⟨g, k, none⟩) (zs.length - k) c') : PartI w x (zs.drop k) := by
  replace hx : x = .slice (some (if c = k then ⟨g, 0, none⟩ else ⟨g, k, none⟩)) (zs.length - k) c' := by rw [hx]; split <;> rfl
  refine ⟨_, c', by rw [hx, List.length_drop], fun j u hu => ?_⟩
  rw [List.map_drop, List.getElem?_drop] at hu
  have hlt : k + j < zs.length := by
    rcases Nat.lt_or_ge (k + j) zs.length with q | q
    · exact q
    · rw [List.getElem?_eq_none (by simpa using q)] at hu; cases hu
  have hc : ¬ c = k := by
    obtain ⟨_, h2⟩ := h
    rcases h2 with ⟨h3, _⟩ | ⟨_, cap, _, e, _, _, hnc, _⟩
    · simp at h3
    · simp only [Value.slice.injEq, Option.some.injEq, Addr.mk.injEq, and_true, true_and] at e
      omega
  obtain ⟨g', _, e, _, _, z, _⟩ := h.spot hlt
  simp only [Value.slice.injEq, Option.some.injEq, Addr.mk.injEq, and_true, true_and] at e
  obtain ⟨rfl, -⟩ := e
  rw [if_neg hc, addr_shift, z]
  rw [List.getElem?_map, List.getElem?_eq_getElem hlt] at hu
  exact hu
theorem oneI (w : World) (base : Nat) (z : Int) (hb : base ≤ w.heap.size) : OwnI (w.alloc (.cells #[.int .i64 z] 3)) base (.slice (some ⟨w.heap.size, 0, none⟩) 1 1) [z] :=
  ⟨rfl, .inr ⟨w.heap.size, 1, #[.int .i64 z], rfl, hb, heap_alloc_new w _, Nat.le_refl _, by simp only [maxLen]; omega, rfl, rfl⟩⟩
theorem madeR {w w1 w2 : World} {base : Nat} {v : Value} {zs : List Int} (hb : Below base w w1) (hs : base ≤ w1.heap.size) (h : OwnI w1 base v zs) (hg : w1.grownBy w2 v.ownBlock) : Below base w w2 := hb.grown hg hs (fun k hk => (h.lt k hk).1)
section
variable {w : World} {o : Oper} {a : Act} {Q : Exit → Act → World → Prop}
theorem step_partI {ops : Array Oper} {K : Act → World → Prop} {E : Prop} (hgd : o.guard = none) (s y : Operand) (ho : o.op = .call { callee := .builtin .append, args := #[s, y], argTypes := #[36, 36] })
    (base : Nat) (v x : Value) (xs ys : List Int) (hs : a.eval s = v) (hy : a.eval y = x) (h1 : OwnI w base v xs) (h2 : PartI w x ys) (hl : xs.length + ys.length ≤ 4000000) (hB : base ≤ w.heap.size)
    (h : ∀ v' w', OwnI w' base v' (xs ++ ys) → w.grownBy w' v.ownBlock → (v'.ownBlock = v.ownBlock ∨ v'.ownBlock = some w.heap.size) → K (a.put o.dst v') w') :
    if Region.wanted o (yielded ops a.tmps) = true then Oper.wp Try.prog o a w K Q else E := by
  have hw : Region.wanted o (yielded ops a.tmps) = true := by simp [Region.wanted, hgd]
  rw [if_pos hw]
  obtain ⟨ad, c, rfl, hc⟩ := h2
  obtain ⟨i, hi, hz, hsz, hb⟩ := info_parts info_int
  obtain ⟨v', w', hrun, own, g1, _, hat⟩ := run_append_own_at (P := Try.prog) (w := w) base 36 o.type 3 i (.int .i64 0) 1 8 Try.underlying36 hi hz hsz hb rfl (by omega) v xs.length (xs.map intV) h1
    ad ys.length c (ys.map intV) (by simp) hc (intV_one ys) (by simp only [maxLen]; omega) (by omega) hB
  have e2 : OwnI w' base v' (xs ++ ys) := by
    unfold OwnI
    rw [List.length_append, List.map_append]
    exact own
  unfold Oper.wp execOp
  simp only [ho, resolve, invoke, builtin, Sem.run_bind, Sem.run_pure, Result.andThen_ok, List.map_toArray, List.map_cons, List.map_nil, hs, hy, hrun]
  exact h v' w' e2 g1 hat
end
end Go.Proofs.Ythijfipjfdmoeaa

/- The contracts of spec.l08Start and OrderAfter. Condition: the crossings lie in a row of their own. -/
namespace Go.Proofs.Ythijfipjfdmoeaa
set_option linter.unusedVariables false
set_option linter.unusedSimpArgs false
open Go.RowKit

set_option maxRecDepth 100000 in
set_option maxHeartbeats 1600000 in
theorem specStart (n : Int) (w : World) (h0 : 1 ≤ n ∧ n ≤ 7) :
    Calls Try.prog 44 #[.int .i64 n] w (IntsPost w (startL n.toNat)) := by
  have E0 := Lib.hid (ownI_empty w w.heap.size w.heap.size #[] rfl (Nat.le_refl _) rfl)
  have B0 := Lib.hid ((Below.refl w.heap.size w).alloc (Nat.le_refl _) (.cells #[] 3))
  go_enter Try.func44, Try.ntmps44
  go_wp2_with fail
  go_loopw [3, 4] (fun ov iv wr => ∃ (k : Nat) (vo : Value), vo = ov ∧ (k : Int) ≤ n ∧ iv = .int .i64 (k : Int) ∧ Hid (OwnI wr w.heap.size vo (startL k)) ∧ Hid (Below w.heap.size w wr)) (fun _ iv _ => (n - intOf iv).toNat)
  case atStart => exact ⟨0, _, rfl, by omega, rfl, E0, B0⟩
  case round =>
    clear E0 B0
    obtain ⟨k, vo, rfl, hk, rfl, OO, BW⟩ := hrel
    by_cases hlt : (k : Int) < n
    rotate_left
    · have F := Lib.hid (show OwnI wr w.heap.size vo (startL n.toNat) by rw [show n.toNat = k by omega]; exact OO.out)
      clear OO
      go_wp2
      go_ret
      exact ⟨_, rfl, F.out, BW.out⟩
    have e1 : IntKind.i64.wrap ((k : Int) + 1) = (k : Int) + 1 := IntWalk.i64_in _ (by omega)
    have hbs := BW.out.size
    have LS := Lib.hid (startL_more k)
    have LN := startL_len k
    have ON := Lib.hid (oneI wr wr.heap.size (k : Int) (Nat.le_refl _))
    go_wp2_with (at_builtin; refine wpList_rowsI rfl (.tmp 11) (.tmp 13) rfl w.heap.size wr.heap.size _ _ (startL k) [(k : Int)] rfl rfl (OO.out.alloc _) ON.out ?_ ?_ ?_; (simp <;> omega); (simp <;> omega); intro v2 w2 o2 g2 hat2)
    have B2 := Lib.hid (madeR (BW.out.alloc hbs _) (by simp; omega) (OO.out.alloc _) g2)
    have O2 : Hid (OwnI w2 w.heap.size v2 (startL (k + 1))) := Lib.hid (LS.out ▸ o2)
    exact ⟨⟨k + 1, v2, rfl, by omega, by go_num, O2, B2⟩, by simp [intOf] <;> omega⟩

set_option maxRecDepth 100000 in
set_option maxHeartbeats 1600000 in
theorem specOrdA (n : Int) (v : Value) (ls : List RCross) (b : Nat) (w : World) (h : OwnCross w b v ls) (hl : ls.length ≤ 2000000) :
    Calls Try.prog 17 #[.int .i64 n, v] w (IntsPost w (ordAfter n ls)) := by
  have CK := Lib.hid (fun W h => specCrOk n v ls b W h hl)
  obtain ⟨A, c, rfl⟩ := h.slice
  have O := Lib.hid h
  clear h
  cases hc : crossOk n ls with
  | false =>
    have R := Lib.hid (show ordAfter n ls = [] by unfold ordAfter; rw [hc]; rfl)
    rw [hc] at CK
    go_enter Try.func17, Try.ntmps17
    go_wp2_with fail
    refine (CK.out _ O.out).mono ?_
    rintro e w1 ⟨rfl, b1⟩
    have B1 := Lib.hid b1
    clear b1
    go_wp2
    go_ret
    exact ⟨_, rfl, by rw [R.out]; exact ownI_empty w1 w.heap.size w1.heap.size #[] rfl B1.out.size rfl, B1.out.alloc B1.out.size _⟩
  | true =>
    have hn := (crossOk_has hc).1
    have hn' : 1 ≤ n ∧ n ≤ 7 := by
      unfold inB at hn
      exact of_decide_eq_true hn
    have R := Lib.hid (show ordAfter n ls = nowAt n ls ls.length by unfold ordAfter; rw [if_pos hc])
    rw [hc] at CK
    have ST := Lib.hid (fun W => specStart n W hn')
    have NL := Lib.hid (fun k => nowAt_len n ls k)
    have NZ := Lib.hid (nowAt_zero n ls)
    clear hn hc
    go_enter Try.func17, Try.ntmps17
    go_wp2_with fail
    refine (CK.out _ O.out).mono ?_
    rintro e w1 ⟨rfl, b1⟩
    have B1 := Lib.hid b1
    clear b1 CK
    go_wp2_with fail
    refine (ST.out _).mono ?_
    rintro e w2 ⟨v0, rfl, o0, b2⟩
    have B2 := Lib.hid (B1.out.trans (b2.mono B1.out.size))
    have O0 := Lib.hid (show OwnI w2 w.heap.size v0 (nowAt n ls 0) by rw [NZ.out]; exact o0.mono B1.out.size)
    clear b2 o0 B1
    go_wp2_with fail
    go_loopw [5, 6] (fun ov iv wr => ∃ (k : Nat) (vo : Value), vo = ov ∧ k ≤ ls.length ∧ iv = .int .i64 (k : Int) ∧ Hid (OwnI wr w.heap.size vo (nowAt n ls k)) ∧ Hid (Below w.heap.size w wr)) (fun _ iv _ => ls.length - (intOf iv).toNat)
    case atStart => exact ⟨0, _, rfl, by omega, rfl, O0, B2⟩
    case round =>
      clear O0 B2
      obtain ⟨k, vo, rfl, hk, rfl, OO, BW⟩ := hrel
      by_cases hlt : k < ls.length
      rotate_left
      · obtain rfl : k = ls.length := by omega
        go_wp2
        go_ret
        exact ⟨_, rfl, by rw [R.out]; exact OO.out, BW.out⟩
      have hk0 : (0 : Int) ≤ (k : Int) := by omega
      have hk1 : (k : Int) < (ls.length : Int) := by omega
      obtain ⟨g, _, f1, _, _, z0, _⟩ := (O.out.below BW.out).spot hlt
      simp only [Value.slice.injEq] at f1
      obtain ⟨rfl, -, rfl⟩ := f1
      have r0 : wr.cell? ⟨g, k * 2, none⟩ = some (.int .i64 ls[k].f0) := z0 0 _ rfl
      have SW := Lib.hid (specSwap vo (nowAt n ls k) ls[k].f0 w.heap.size wr OO.out (by rw [NL.out]; omega))
      have NM := Lib.hid (show nowAt n ls (k + 1) = (swapR (nowAt n ls k) ls[k].f0).1 from nowAt_more n hlt)
      generalize swapR (nowAt n ls k) ls[k].f0 = rr at SW NM
      obtain ⟨zs, rb⟩ := rr
      unfold IntsB at SW
      dsimp only at SW NM
      generalize ls[k].f0 = x at r0 SW
      have hbs := BW.out.size
      clear z0
      go_wp2_with fail
      refine SW.out.mono ?_
      rintro e w3 ⟨v3, rfl, o3, b3⟩
      have B3 := Lib.hid (BW.out.trans (b3.mono BW.out.size))
      have O3 := Lib.hid (show OwnI w3 w.heap.size v3 (nowAt n ls (k + 1)) by rw [NM.out]; exact o3.mono hbs)
      clear b3 o3 OO BW SW
      go_wp2
      exact ⟨⟨k + 1, v3, rfl, by omega, by go_num, O3, B3⟩, by simp [intOf] <;> omega⟩
end Go.Proofs.Ythijfipjfdmoeaa

/- The contract of spec.CountInversions. Condition: the numbers lie in a row of their own. -/
namespace Go.Proofs.Ythijfipjfdmoeaa
set_option linter.unusedVariables false
set_option linter.unusedSimpArgs false
open Go.RowKit

set_option maxRecDepth 100000 in
set_option maxHeartbeats 1600000 in
theorem specInv (v : Value) (zs : List Int) (b : Nat) (w : World) (h : OwnI w b v zs) (hl : zs.length ≤ 2000000) :
    Calls Try.prog 16 #[v] w fun e w' => e = .returned (.int .i64 (if orderOk zs = true then (invs zs : Int) else -1)) ∧ Below w.heap.size w w' := by
  have CO := Lib.hid (specOrder v zs b w h hl)
  obtain ⟨A, c, rfl⟩ := h.slice
  have O := Lib.hid h
  clear h
  cases hok : orderOk zs with
  | false =>
    have R := Lib.hid (show (if (false = true) then (invs zs : Int) else -1) = -1 from rfl)
    rw [hok] at CO
    go_enter Try.func16, Try.ntmps16
    go_wp2_with (go_at_call 43; refine CO.out.mono ?_; rintro e w1 ⟨rfl, b1⟩)
    go_ret
    exact ⟨rfl, b1⟩
  | true =>
  rw [hok] at CO
  rw [if_pos rfl]
  have hl7 := (order_iff.1 hok).len
  clear hok
  go_enter Try.func16, Try.ntmps16
  go_wp2_with fail
  refine CO.out.mono ?_
  rintro e w1 ⟨rfl, b1⟩
  have B1 := Lib.hid b1
  clear b1 CO
  go_wp2_with fail
  go_loopw [3, 4] (fun nv iv wr => ∃ k : Nat, k ≤ zs.length ∧ iv = .int .i64 (k : Int) ∧ nv = .int .i64 (invF (atI zs) k : Int) ∧ Hid (Below w.heap.size w wr)) (fun _ iv _ => zs.length - (intOf iv).toNat)
  case atStart => exact ⟨0, by omega, rfl, rfl, B1⟩
  case round =>
    clear B1
    obtain ⟨k, hk, rfl, rfl, BW⟩ := hrel
    by_cases hlt : k < zs.length
    rotate_left
    · obtain rfl : k = zs.length := by omega
      go_wp2
      go_ret
      exact ⟨rfl, BW.out⟩
    have hk0 : (0 : Int) ≤ (k : Int) := by omega
    have hk1 : (k : Int) < (zs.length : Int) := by omega
    have VL := Lib.hid (inv_le (atI zs) k)
    have STP := Lib.hid (show invF (atI zs) (k + 1) = invF (atI zs) k + above (atI zs) zs[k] k by rw [invF, atI_of hlt])
    have HK := Lib.hid (fun W (hb : Below w.heap.size w W) => (O.out.below hb).spot hlt)
    have AB := Lib.hid (fun i => above_le (atI zs) zs[k] i)
    have AM := Lib.hid (fun i (hi : i < zs.length) => (show above (atI zs) zs[k] (i + 1) = above (atI zs) zs[k] i + if zs[k] < zs[i] then 1 else 0 by rw [above, atI_of hi]))
    generalize zs[k] = x at STP HK AB AM
    have hv : (invF (atI zs) k : Int) ≤ 49 := by
      have h1 := VL.out
      have h2 : k * k ≤ 7 * 7 := Nat.mul_le_mul (by omega) (by omega)
      omega
    generalize hq : invF (atI zs) k = q at STP hv
    have HQ := Lib.hid hq
    clear hq
    go_wp2_with fail
    go_loopw [3, 5] (fun nv jv wr => ∃ i : Nat, i ≤ k ∧ jv = .int .i64 (i : Int) ∧ nv = .int .i64 ((q + above (atI zs) x i : Nat) : Int) ∧ Hid (Below w.heap.size w wr)) (fun _ jv _ => k - (intOf jv).toNat)
    case atStart => exact ⟨0, by omega, rfl, rfl, BW⟩
    case round =>
      clear BW
      obtain ⟨i, hi, rfl, rfl, BW⟩ := hrel
      by_cases hik : i < k
      · have hin : i < zs.length := by omega
        obtain ⟨g, _, f1, _, _, z0, _⟩ := HK.out _ BW.out
        simp only [Value.slice.injEq] at f1
        obtain ⟨rfl, em, rfl⟩ := f1
        clear em
        obtain ⟨_, _, f1, _, _, z1, _⟩ := (O.out.below BW.out).spot hin
        simp only [Value.slice.injEq, Option.some.injEq, Addr.mk.injEq] at f1
        obtain ⟨⟨rfl, _⟩, _⟩ := f1
        have MO := Lib.hid (AM.out i hin)
        have hal := AB.out i
        generalize zs[i] = y at z1 MO
        generalize above (atI zs) x i = t at MO hal
        have hi0 : (0 : Int) ≤ (i : Int) := by omega
        have hi1 : (i : Int) < (zs.length : Int) := by omega
        have hi2 : (i : Int) < (k : Int) := by omega
        by_cases he : x < y
        · have E := Lib.hid (show ((q + t : Nat) : Int) + 1 = ((q + above (atI zs) x (i + 1) : Nat) : Int) by rw [MO.out, if_pos he]; omega)
          have e2 : IntKind.i64.wrap (((q + t : Nat) : Int) + 1) = ((q + t : Nat) : Int) + 1 := IntWalk.i64_in _ (by omega)
          generalize ((q + t : Nat) : Int) = s at E e2
          have dx : decide (x < y) = true := decide_eq_true he
          clear he
          go_wp2
          go_quiet (fail)
          go_wp2
          exact ⟨⟨i + 1, by omega, by go_num, by rw [E.out], Lib.hid (below_drewN BW.out _)⟩, by simp [intOf]; omega⟩
        · have E := Lib.hid (show ((q + t : Nat) : Int) = ((q + above (atI zs) x (i + 1) : Nat) : Int) by rw [MO.out, if_neg he]; omega)
          generalize ((q + t : Nat) : Int) = s at E
          have dx : decide (x < y) = false := decide_eq_false he
          clear he
          go_wp2
          go_quiet (fail)
          go_wp2
          exact ⟨⟨i + 1, by omega, by go_num, by rw [E.out], Lib.hid (below_drewN BW.out _)⟩, by simp [intOf]; omega⟩
      · obtain rfl : i = k := by omega
        have E := Lib.hid (show ((q + above (atI zs) x i : Nat) : Int) = (invF (atI zs) (i + 1) : Int) by rw [STP.out])
        generalize ((q + above (atI zs) x i : Nat) : Int) = s at E
        have hi2 : ¬ (i : Int) < (i : Int) := by omega
        go_wp2
        exact ⟨⟨i + 1, by omega, by go_num, by rw [E.out], BW⟩, by simp [intOf]; omega⟩
end Go.Proofs.Ythijfipjfdmoeaa

/- The contract of spec.SortingSwaps. Condition: the numbers lie in a row of their own. -/
namespace Go.Proofs.Ythijfipjfdmoeaa
set_option linter.unusedVariables false
set_option linter.unusedSimpArgs false
open Go.RowKit

set_option maxRecDepth 100000 in
set_option maxHeartbeats 3200000 in
theorem specSort (v : Value) (zs : List Int) (b : Nat) (w : World) (h : OwnI w b v zs) (hl : zs.length ≤ 2000000) :
    Calls Try.prog 52 #[v] w (IntsPost w (sortSwaps zs)) := by
  obtain ⟨i0, hi0, hz0, hz1, hz2⟩ := info_parts info_int
  have hpos : 0 < 1 := by omega
  have CI := Lib.hid (fun v zs b W h hl => specInv v zs b W h hl)
  have CS := Lib.hid (fun v zs k b W h hl => specSwap v zs k b W h hl)
  obtain ⟨A, c, rfl⟩ := h.slice
  have O := Lib.hid h
  have lo := fun q hq => (h.lt q hq).2
  clear h
  have E0 := Lib.hid (ownI_empty w w.heap.size w.heap.size #[] rfl (Nat.le_refl _) rfl)
  have E1 := Lib.hid (ownI_empty (w.alloc (.cells #[] 3)) (w.heap.size + 1) (w.heap.size + 1) #[] (by simp) (by simp) rfl)
  go_enter Try.func52, Try.ntmps52
  go_wp2_with (at_builtin; refine wpList_rowsI rfl (.tmp 7) (.tmp 8) rfl (w.heap.size + 1) b (.slice (some ⟨w.heap.size + 1, 0, none⟩) 0 0) (.slice A zs.length c) [] zs rfl rfl E1.out ((O.out.alloc _).alloc _) ?_ ?_ ?_; (simp only [List.length_nil]; omega); (simp); intro v1 w1 o1 g1 hat; replace o1 : OwnI w1 (w.heap.size + 1) v1 zs := o1; obtain ⟨B, d, rfl⟩ := o1.slice; have b1 : Below (w.heap.size + 1) (w.alloc (.cells #[] 3)) w1 := ((Below.refl _ _).alloc (by simp) _).grown g1 (by simp) (fun q hq => (E1.out.lt q hq).1); have O1 := Lib.hid o1; have B1 := Lib.hid b1; clear o1 b1 g1 hat)
  have V1 := Lib.hid (E0.out.below (by simpa using B1.out))
  have W1 := Lib.hid (((Below.refl w.heap.size w).alloc (Nat.le_refl _) (.cells #[] 3)).trans (B1.out.mono (by omega)))
  have hs1 := W1.out.size
  cases hok : orderOk zs with
  | false =>
    have R := Lib.hid (show sortSwaps zs = [] by unfold sortSwaps; rw [hok]; rfl)
    have C1 := Lib.hid (CI.out _ zs _ w1 O1.out hl)
    rw [hok] at C1
    clear hok
    go_loopw [3, 4] (fun ov nv wr => ov = .slice (some ⟨w.heap.size, 0, none⟩) 0 0 ∧ nv = .slice B zs.length d ∧ wr = w1) (fun _ _ _ => 0)
    case atStart => exact ⟨rfl, rfl, rfl⟩
    case round =>
      obtain ⟨rfl, rfl, rfl⟩ := hrel
      go_wp2_with (go_at_call 16; refine C1.out.mono ?_; rintro e w2 ⟨rfl, b2⟩)
      go_ret
      exact ⟨_, rfl, by rw [R.out]; exact V1.out.below b2, W1.out.trans (b2.mono hs1)⟩
  | true =>
  have HO := Lib.hid (order_iff.1 hok)
  have R := Lib.hid (show sortSwaps zs = sortS (invs zs) zs by unfold sortSwaps; rw [hok]; rfl)
  have hV := invs_le HO.out
  clear hok
  have AP := Lib.hid (show (Value.slice B zs.length d).ownBlock = none ∨ (Value.slice B zs.length d).ownBlock ≠ (Value.slice (some ⟨w.heap.size, 0, none⟩) 0 0).ownBlock from sep_of fun x h1 h2 => by
    have := (O1.out.lt x h1).1
    have h3 : some w.heap.size = some x := h2
    have := Option.some.inj h3
    omega)
  have O1' := Lib.hid (O1.out.mono (show w.heap.size ≤ w.heap.size + 1 by omega))
  go_loopw [3, 4] (fun ov nv wr => ∃ (cur done : List Int) (vo vn : Value), vo = ov ∧ vn = nv ∧ Hid (OwnI wr w.heap.size vo done) ∧ Hid (OwnI wr w.heap.size vn cur) ∧ Hid (vn.ownBlock = none ∨ vn.ownBlock ≠ vo.ownBlock) ∧ Hid (IsOrd cur) ∧ Hid (done ++ sortS (invs cur) cur = sortSwaps zs) ∧ done.length + invs cur = invs zs ∧ Hid (Below w.heap.size w wr)) (fun ov _ _ => invs zs - lenV ov)
  case atStart => exact ⟨zs, [], _, _, rfl, rfl, V1, O1', AP, HO, Lib.hid (by rw [R.out]; rfl), by simp, W1⟩
  case round =>
    clear V1 O1 O1' AP B1 W1 hs1
    obtain ⟨cur, done, vo, vn, rfl, rfl, OV, ON, SEP, HC, EQ, hlen, BW⟩ := hrel
    obtain ⟨P, c1, rfl⟩ := OV.out.slice
    obtain ⟨Q, c2, rfl⟩ := ON.out.slice
    have hc7 := HC.out.len
    have hcl : cur.length ≤ 2000000 := by omega
    have C1 := Lib.hid (CI.out _ cur _ wr ON.out hcl)
    rw [if_pos (order_iff.2 HC.out)] at C1
    by_cases hz : invs cur = 0
    · have R2 := Lib.hid (show done = sortSwaps zs by have := EQ.out; rw [hz, sortS] at this; simpa using this)
      rw [hz] at C1
      go_wp2_with (go_at_call 16; refine C1.out.mono ?_; rintro e w2 ⟨rfl, b2⟩)
      go_ret
      exact ⟨_, rfl, by rw [← R2.out]; exact OV.out.below b2, BW.out.trans (b2.mono BW.out.size)⟩
    obtain ⟨f1, f2, f3⟩ := first_ok HC.out (by omega)
    obtain ⟨o1, o2, o3⟩ := sort_step HC.out (by omega)
    have F := Lib.hid (And.intro f2 f3)
    have NEXT := Lib.hid (show IsOrd (swapL cur (firstD cur)) ∧ done ++ [((firstD cur : Nat) : Int)] ++ sortS (invs (swapL cur (firstD cur))) (swapL cur (firstD cur)) = sortSwaps zs from ⟨o1, by have := EQ.out; rw [o3] at this; rw [List.append_assoc]; exact this⟩)
    have C2 := Lib.hid (fun v b W h => swapR_yes HC.out f1 ▸ CS.out v cur ((firstD cur : Nat) : Int) b W h hcl)
    have hlen2 : done.length + 1 + invs (swapL cur (firstD cur)) = invs zs := by omega
    have hpi : (0 : Int) < (invs cur : Int) := by omega
    have hdl : done.length ≤ 49 := by omega
    clear f2 f3 o1 o2 o3 hlen
    generalize hfd : firstD cur = q at F NEXT C2 f1 hlen2
    generalize hic : (invs cur : Int) = ic at C1 hpi
    clear hfd hic hz
    go_wp2_with (go_at_call 16; refine C1.out.mono ?_; rintro e w2 ⟨rfl, b2⟩)
    have B2 := Lib.hid (BW.out.trans (b2.mono BW.out.size))
    have OV2 := Lib.hid (OV.out.below b2)
    have ON2 := Lib.hid (ON.out.below b2)
    have hs2 := B2.out.size
    clear b2 C1 BW OV ON
    go_loopw [5] (fun kv wr => ∃ i : Nat, i ≤ q ∧ kv = .int .i64 (i : Int) ∧ Hid (Below w2.heap.size w2 wr)) (fun kv _ => q - (intOf kv).toNat)
    case atStart => exact ⟨0, by omega, rfl, Lib.hid (Below.refl _ _)⟩
    case round =>
      obtain ⟨i, hi, rfl, BI⟩ := hrel
      have h1 : i < cur.length := by omega
      have h2 : i + 1 < cur.length := by omega
      have hq0 : (0 : Int) ≤ (i : Int) := by omega
      have hi1 : (i : Int) < (cur.length : Int) := by omega
      have hi2 : (0 : Int) ≤ (i : Int) + 1 := by omega
      have hi3 : (i : Int) + 1 < (cur.length : Int) := by omega
      have e2 : IntKind.i64.wrap ((i : Int) + 1) = (i : Int) + 1 := IntWalk.i64_in _ (by omega)
      obtain ⟨g, _, e, _, _, z0, _⟩ := (ON2.out.below BI.out).spot h1
      simp only [Value.slice.injEq] at e
      obtain ⟨rfl, em, rfl⟩ := e
      clear em
      obtain ⟨_, _, e, _, _, z1, _⟩ := (ON2.out.below BI.out).spot h2
      simp only [Value.slice.injEq, Option.some.injEq, Addr.mk.injEq] at e
      obtain ⟨⟨rfl, -⟩, -⟩ := e
      by_cases hiq : i < q
      · have hx := F.out.2 i hiq
        rw [atI_of h1, atI_of h2] at hx
        have dx : decide (cur[i] < cur[i + 1]) = true := decide_eq_true hx
        generalize cur[i] = x at z0 dx
        generalize cur[i + 1] = y at z1 dx
        clear hx
        go_wp2
        go_quiet (fail)
        go_wp2
        exact ⟨⟨i + 1, by omega, by go_num, Lib.hid (below_drewN BI.out _)⟩, by simp [intOf]; omega⟩
      · obtain rfl : i = q := by omega
        have hx := F.out.1
        rw [atI_of h1, atI_of h2] at hx
        have dx : decide (cur[i] < cur[i + 1]) = false := decide_eq_false (by omega)
        generalize cur[i] = x at z0 dx
        generalize cur[i + 1] = y at z1 dx
        have C3 := Lib.hid (fun W (hb : Below w2.heap.size w2 W) => C2.out _ _ W (ON2.out.below hb))
        have hmax : done.length + 1 ≤ maxLen := by simp only [maxLen]; omega
        have hbd : (done.length + 1) * 8 ≤ 140737488355328 := by omega
        clear hx
        go_wp2
        go_quiet (fail)
        go_wp2_with fail
        refine (C3.out _ (below_drewN BI.out _)).mono ?_
        rintro e w3 ⟨v3, rfl, o3, b3⟩
        have b23 := (below_drewN BI.out _).trans (b3.mono (below_drewN BI.out _).size)
        have B3 := Lib.hid (B2.out.trans (b23.mono hs2))
        have OV3 := Lib.hid (OV2.out.below b23)
        have o3' := o3.mono (show w2.heap.size ≤ _ from (below_drewN BI.out _).size)
        have O3 := Lib.hid o3'
        have hs3 := B3.out.size
        obtain ⟨D3, d3, rfl⟩ := o3'.slice
        have hown := OV3.out
        have SEP3 := Lib.hid (show (Value.slice D3 (swapL cur i).length d3).ownBlock = none ∨ (Value.slice D3 (swapL cur i).length d3).ownBlock ≠ (Value.slice P done.length c1).ownBlock from sep_of fun x h1 h2 => by
          have := (O3.out.lt x h1).1
          have := (OV2.out.lt x h2).2
          omega)
        clear b3 b23 o3 o3'
        go_wp2_with (at_builtin; refine wpList_append_lies _ rfl (.tmp 31) (.tmp 33) 36 rfl w.heap.size 3 i0 (.int .i64 0) 1 8 Try.underlying36 hi0 hz0 hz1 hz2 rfl hpos (.slice P done.length c1) _ _ rfl (hown.alloc _) ⟨w3.heap.size, 0, none⟩ 1 1 [.int .i64 (i : Int)] rfl rfl (World.news_of_block (heap_alloc_new w3 _)) ?_ hpos hmax hbd ?_ (w3.heap.size + 1) ?_ ?_; (simp [Value.oneCell']); (simp; omega); (simp); intro gg cap w4 hown1 hgrow hat hlt')
        have O4 := Lib.hid (ownI_snoc hown1)
        have B4 := Lib.hid (ints_snoc_below B3.out hs3 hown hgrow)
        have N4 := Lib.hid (((O3.out.alloc _).kept hgrow SEP3.out).mono hs2)
        have S4 := Lib.hid (show (Value.slice D3 (swapL cur i).length d3).ownBlock = none ∨ (Value.slice D3 (swapL cur i).length d3).ownBlock ≠ (Value.slice (some ⟨gg, 0, none⟩) (done.length + 1) cap).ownBlock from sep_of fun x h1 h2 => by
          have h3 : gg = x := Option.some.inj h2
          rcases hat with h | h
          · rcases SEP3.out with s | s
            · rw [s] at h1; cases h1
            · exact s (by rw [h1, h, h3])
          · have := (O3.out.lt x h1).2
            omega)
        exact ⟨⟨swapL cur i, done ++ [(i : Int)], _, _, rfl, rfl, (by simpa using O4), N4, (by simpa using S4), Lib.hid NEXT.out.1, Lib.hid NEXT.out.2, by simp; omega, B4⟩, by simp [lenV]; omega⟩
end Go.Proofs.Ythijfipjfdmoeaa
