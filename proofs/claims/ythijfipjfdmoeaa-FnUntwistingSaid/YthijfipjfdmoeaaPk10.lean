/- Texts of this seat laid together, each with its own first sentence below: TwOS TwdW UnwA UnwI. -/
import Derived.Test.YthijfipjfdmoeaaPk3
import Derived.Test.YthijfipjfdmoeaaPk9
import Derived.Test.YthijfipjfdmoeaaPk4
import Derived.Test.YthijfipjfdmoeaaPk5
import Derived.Test.YthijfipjfdmoeaaPk8
import Derived.BigQuiet
import Derived.Deep.RegionHeld3
/- The contract of spec.TwistOf. Condition: the crossings lie in a row of their own. -/
namespace Go.Proofs.Ythijfipjfdmoeaa
set_option linter.unusedVariables false
set_option linter.unusedSimpArgs false
open Go.RowKit

set_option maxRecDepth 100000 in
set_option maxHeartbeats 1600000 in
theorem specTwO (n : Int) (v : Value) (ls : List RCross) (b : Nat) (w : World) (h : OwnCross w b v ls) (hl : ls.length ≤ 2000000) (i k : Int) :
    Calls Try.prog 50 #[.int .i64 n, v, .int .i64 i, .int .i64 k] w fun e w' => e = .returned (.int .i64 (twistOf n ls i k)) ∧ Below w.heap.size w w' := by
  have CT := Lib.hid (specTab n v ls b w h hl)
  have C0 := Lib.hid (fun v lo hi W => (l01In_any v lo hi W).mono fun e w' h => (show _ ∧ W = w' from ⟨h.1, h.2.symm⟩))
  obtain ⟨A, c, rfl⟩ := h.slice
  obtain ⟨t7, sq, -⟩ := tab_len n ls
  have R := Lib.hid (show twistOf n ls i k = if inB i 0 (((twistTab n ls).length : Int) - 1) = true ∧ inB k 0 (((twistTab n ls).length : Int) - 1) = true then ent (twistTab n ls) i.toNat k.toNat else 0 from rfl)
  have SQ := Lib.hid sq
  clear h sq
  generalize twistTab n ls = t at CT t7 R SQ
  have e1 : IntKind.i64.wrap ((t.length : Int) - 1) = (t.length : Int) - 1 := IntWalk.i64_in _ (by omega)
  go_enter Try.func50, Try.ntmps50
  go_wp2_with fail
  refine CT.out.mono ?_
  rintro e w1 ⟨vt, rfl, o1, b1⟩
  obtain ⟨V, cv, rfl⟩ := o1.slice
  have O1 := Lib.hid o1
  have B1 := Lib.hid b1
  clear o1 b1 CT
  cases hi : inB i 0 ((t.length : Int) - 1) with
  | false =>
    have R2 := Lib.hid (show twistOf n ls i k = 0 by rw [R.out, if_neg (by rw [hi]; simp)])
    go_wp2_with (go_at_call 48; refine (C0.out _ _ _ _).mono ?_; rintro e w' ⟨rfl, rfl⟩)
    go_ret
    exact ⟨by rw [R2.out]; rfl, B1.out⟩
  | true =>
  cases hk : inB k 0 ((t.length : Int) - 1) with
  | false =>
    have R2 := Lib.hid (show twistOf n ls i k = 0 by rw [R.out, if_neg (by rw [hk]; simp)])
    go_wp2_with (go_at_call 48; refine (C0.out _ _ _ _).mono ?_; rintro e w' ⟨rfl, rfl⟩)
    go_ret
    exact ⟨by rw [R2.out]; rfl, B1.out⟩
  | true =>
  have R2 := Lib.hid (show twistOf n ls i k = ent t i.toNat k.toNat by rw [R.out, if_pos ⟨hi, hk⟩])
  have hir : 0 ≤ i ∧ i ≤ (t.length : Int) - 1 := by simpa [inB] using hi
  have hkr : 0 ≤ k ∧ k ≤ (t.length : Int) - 1 := by simpa [inB] using hk
  obtain ⟨p, rfl⟩ := Int.eq_ofNat_of_zero_le hir.1
  obtain ⟨q, rfl⟩ := Int.eq_ofNat_of_zero_le hkr.1
  have hp1 : (p : Int) < (t.length : Int) := by omega
  have hq1 : (q : Int) < (t.length : Int) := by omega
  rw [Int.toNat_natCast, Int.toNat_natCast] at R2
  obtain ⟨g, c1, ga, ca, ev, x0, x1⟩ := O1.out.entryR SQ.out (i := p) (k := q) (by omega) (by omega)
  simp only [Value.slice.injEq] at ev
  obtain ⟨rfl, -, rfl⟩ := ev
  generalize ent t p q = x at x1 R2
  go_wp2_with (go_at_call 48; refine (C0.out _ _ _ _).mono ?_; rintro e w' ⟨rfl, rfl⟩)
  go_ret
  exact ⟨by rw [R2.out]; rfl, B1.out⟩
end Go.Proofs.Ythijfipjfdmoeaa

/- The contracts of spec.WoundPairs and IsUntwisted. Condition: the crossings lie in a row of their own. -/
namespace Go.Proofs.Ythijfipjfdmoeaa
set_option linter.unusedVariables false
set_option linter.unusedSimpArgs false
open Go.RowKit

/-- What lay between two blocks lies there still. -/
def Mid (m1 m2 : Nat) (w2 w : World) : Prop := m2 ≤ w.heap.size ∧ ∀ b, m1 ≤ b → b < m2 → w.heap[b]? = w2.heap[b]?
section
variable {m1 m2 : Nat} {w2 w w' : World} {row : Option Nat}
theorem Mid.cell {p : Addr} {u : Value} (h : Mid m1 m2 w2 w) (hc : w2.cell? p = some u) (h1 : m1 ≤ p.block) (h2 : p.block < m2) : w.cell? p = some u := by
  rw [World.cell?_of_block (h.2 p.block h1 h2)]
  exact hc
theorem Mid.below (h : Mid m1 m2 w2 w) (hb : Below w.heap.size w w') : Mid m1 m2 w2 w' :=
  ⟨Nat.le_trans h.1 hb.size, fun b h1 h2 => (hb.block b (Nat.lt_of_lt_of_le h2 h.1)).trans (h.2 b h1 h2)⟩
theorem Mid.grown (h : Mid m1 m2 w2 w) (hg : w.grownBy w' row) (hr : ∀ q, row = some q → q < m1 ∨ m2 ≤ q) : Mid m1 m2 w2 w' :=
  ⟨Nat.le_trans h.1 hg.size, fun b h1 h2 => (hg.block b (Nat.lt_of_lt_of_le h2 h.1) (fun e => by rcases hr b e.symm with c | c <;> omega)).trans (h.2 b h1 h2)⟩
end
theorem OwnR.entryB {w : World} {base n i k : Nat} {v : Value} {t : List (List Int)} (h : OwnR w base v t) (hs : Square n t) (hi : i < n) (hk : k < n) :
    ∃ g c ga ca, v = .slice (some ⟨g, 0, none⟩) n c ∧ w.cell? ⟨g, i, none⟩ = some (.slice (some ⟨ga, 0, none⟩) n ca) ∧ w.cell? ⟨ga, k, none⟩ = some (.int .i64 (ent t i k)) ∧ (base ≤ g ∧ g < w.heap.size) ∧ base ≤ ga ∧ ga < w.heap.size := by
  have hlt := h.lt
  obtain ⟨vs, h⟩ := h
  obtain ⟨g, c, ga, ca, rfl, _, e3, e4, _, e6, _⟩ := h.entry hs hi hk
  exact ⟨g, c, ga, ca, rfl, e3, e4, hlt g rfl, e6, World.block_lt_of_cell? w _ e4⟩

set_option maxRecDepth 100000 in
set_option maxHeartbeats 3200000 in
theorem specWnd (n : Int) (v : Value) (ls : List RCross) (b : Nat) (w : World) (h : OwnCross w b v ls) (hl : ls.length ≤ 2000000) :
    Calls Try.prog 38 #[.int .i64 n, v] w (RowsPost w (woundPs n ls)) := by
  have CT := Lib.hid (specTab n v ls b (w.alloc (.cells #[] 36)) (h.alloc _) hl)
  obtain ⟨A, c, rfl⟩ := h.slice
  clear h
  have E0 := Lib.hid (emptyR w w.heap.size w.heap.size #[] rfl (Nat.le_refl _) rfl)
  have B0 := Lib.hid ((Below.refl w.heap.size w).alloc (Nat.le_refl _) (.cells #[] 36))
  obtain ⟨t7, sq, -⟩ := tab_len n ls
  have R := Lib.hid (show woundPs n ls = woundI (twistTab n ls) (twistTab n ls).length from rfl)
  generalize twistTab n ls = t at CT R t7 sq
  obtain ⟨N, hN⟩ : ∃ N, t.length = N := ⟨_, rfl⟩
  rw [hN] at sq t7
  have SQ := Lib.hid sq
  have HN := Lib.hid hN
  clear sq
  go_enter Try.func38, Try.ntmps38
  go_wp2_with fail
  refine CT.out.mono ?_
  rintro e w2 ⟨vt, rfl, o2, b2⟩
  obtain ⟨V, cv, rfl⟩ := o2.slice
  rw [hN] at o2 ⊢
  have hbs := b2.size
  simp only [World.size_alloc] at hbs
  have OT := Lib.hid (show OwnR w2 (w.heap.size + 1) (.slice V N cv) t by simpa using o2)
  have OO := Lib.hid (E0.out.below b2)
  have B2 := Lib.hid (B0.out.trans (b2.mono B0.out.size))
  have M2 := Lib.hid (show Mid (w.heap.size + 1) w2.heap.size w2 w2 from ⟨Nat.le_refl _, fun _ _ _ => rfl⟩)
  clear o2 b2 E0 B0 CT hN
  go_wp2_with fail
  go_loopw [5, 7] (fun ov iv wr => ∃ (i : Nat) (vo : Value), vo = ov ∧ i ≤ N ∧ iv = .int .i64 (i : Int) ∧ Hid (OwnR wr w.heap.size vo (woundI t i)) ∧ Hid (∀ q, vo.ownBlock = some q → q < w.heap.size + 1 ∨ w2.heap.size ≤ q) ∧ Hid (Mid (w.heap.size + 1) w2.heap.size w2 wr) ∧ Hid (Below w.heap.size w wr)) (fun _ iv _ => N - (intOf iv).toNat)
  case atStart => exact ⟨0, _, rfl, by omega, rfl, OO, Lib.hid (fun q hq => by have : w.heap.size = q := Option.some.inj hq; omega), M2, B2⟩
  case round =>
    clear OO B2 M2
    obtain ⟨i, vo, rfl, hi, rfl, OO, LQ, MM, BW⟩ := hrel
    by_cases hlt : i < N
    rotate_left
    · obtain rfl : i = N := by omega
      have R2 := Lib.hid (show woundPs n ls = woundI t i by rw [R.out, HN.out])
      go_wp2
      go_ret
      exact ⟨_, rfl, by rw [R2.out]; exact OO.out, BW.out⟩
    have hi0 : (0 : Int) ≤ (i : Int) := by omega
    have hi1 : (i : Int) < (N : Int) := by omega
    have e1 : IntKind.i64.wrap ((i : Int) + 1) = ((i + 1 : Nat) : Int) := by rw [IntWalk.i64_in _ (by omega)]; omega
    have K0 := Lib.hid (show woundI t i ++ woundK t i (i + 1) = woundI t i by rw [woundK_low t i (i + 1) (Nat.le_refl _), List.append_nil])
    have K1 := Lib.hid (show woundI t (i + 1) = woundI t i ++ woundK t i N by rw [woundI, HN.out])
    have KL := Lib.hid (fun k => woundK_len t i k)
    have IL := woundI_len t i
    rw [HN.out] at IL
    have hil : (woundI t i).length ≤ 49 := by
      have : i * N ≤ 7 * 7 := Nat.mul_le_mul (by omega) t7
      omega
    have HL := Lib.hid hil
    clear IL hil
    rw [← K0.out] at OO
    go_wp2_with fail
    go_loopw [5, 8] (fun ov kv wr => ∃ (k : Nat) (vo : Value), vo = ov ∧ i + 1 ≤ k ∧ k ≤ N ∧ kv = .int .i64 (k : Int) ∧ Hid (OwnR wr w.heap.size vo (woundI t i ++ woundK t i k)) ∧ Hid (∀ q, vo.ownBlock = some q → q < w.heap.size + 1 ∨ w2.heap.size ≤ q) ∧ Hid (Mid (w.heap.size + 1) w2.heap.size w2 wr) ∧ Hid (Below w.heap.size w wr)) (fun _ kv _ => N - (intOf kv).toNat)
    case atStart => exact ⟨i + 1, _, rfl, Nat.le_refl _, by omega, by go_num, OO, LQ, MM, BW⟩
    case round =>
      clear OO LQ MM BW K0 e1
      obtain ⟨k, vo, rfl, hk1, hk, rfl, OO, LQ, MM, BW⟩ := hrel
      by_cases hlk : k < N
      rotate_left
      · obtain rfl : k = N := by omega
        go_wp2
        exact ⟨⟨i + 1, _, rfl, by omega, by go_num, Lib.hid (by rw [K1.out]; exact OO.out), LQ, MM, BW⟩, by simp [intOf]; omega⟩
      have hk0 : (0 : Int) ≤ (k : Int) := by omega
      have hk3 : (k : Int) < (N : Int) := by omega
      have KK := Lib.hid (show woundK t i (k + 1) = woundK t i k ++ if ent t i k ≠ 0 then [[(i : Int), (k : Int)]] else [] by rw [woundK]; simp only [show i < k by omega, true_and])
      have hkl := KL.out k
      have hil := HL.out
      obtain ⟨g, c1, ga, ca, ev, y0, y1, gb, gab⟩ := OT.out.entryB SQ.out hlt hlk
      simp only [Value.slice.injEq, true_and] at ev
      obtain ⟨rfl, rfl⟩ := ev
      have x0 := MM.out.cell y0 gb.1 gb.2
      have x1 := MM.out.cell y1 gab.1 gab.2
      have hsz := BW.out.size
      have hll : (woundI t i ++ woundK t i k).length ≤ 4000000 := by rw [List.length_append]; omega
      generalize ent t i k = z at y1 x1 KK
      clear y0 y1 gb gab hkl hil
      by_cases hz : z = 0
      · subst hz
        have K2 := Lib.hid (show woundI t i ++ woundK t i (k + 1) = woundI t i ++ woundK t i k by rw [KK.out, if_neg (by simp), List.append_nil])
        go_wp2
        exact ⟨⟨k + 1, _, rfl, by omega, by omega, by go_num, Lib.hid (by rw [K2.out]; exact OO.out), LQ, MM, BW⟩, by simp [intOf]; omega⟩
      · have K2 := Lib.hid (show woundI t i ++ woundK t i (k + 1) = woundI t i ++ woundK t i k ++ [[(i : Int), (k : Int)]] by rw [KK.out, if_pos hz, List.append_assoc])
        have hzb : (z != 0) = true := by simpa using hz
        have TW := Lib.hid (twoI wr wr.heap.size (i : Int) (k : Int) (Nat.le_refl _))
        have NX := Lib.hid (fun u => (oneRow (wr.alloc (.cells #[.int .i64 (i : Int), .int .i64 (k : Int)] 3)) u wr.heap.size (by simp)))
        have BB := Lib.hid (fun u => (((Below.refl wr.heap.size wr).alloc (Nat.le_refl _) (.cells #[.int .i64 (i : Int), .int .i64 (k : Int)] 3)).alloc (by simp) (.cells #[u] 36)))
        simp only [World.size_alloc] at NX
        have hm2 := MM.out.1
        clear hz KK
        go_wp2_with (at_builtin; refine wpList_rowR rfl (.tmp 35) (.tmp 39) rfl wr w.heap.size wr.heap.size vo (.slice (some ⟨wr.heap.size + 1, 0, none⟩) 1 1) (.slice (some ⟨wr.heap.size, 0, none⟩) 2 2) (woundI t i ++ woundK t i k) [(i : Int), (k : Int)] rfl rfl OO.out (BB.out _) (TW.out.alloc _) hsz (NX.out _) hll ?_; intro v3 w3 o3 g3 hat3; have B3 := Lib.hid (((BW.out.alloc hsz _).alloc (by simp; omega) _).grown g3 (by simp; omega) (fun q hq => (OO.out.lt q hq).1)); have M3 := Lib.hid ((MM.out.below (BB.out _)).grown g3 LQ.out); have O3 := Lib.hid (K2.out ▸ o3); have L3 := Lib.hid (show ∀ q, v3.ownBlock = some q → q < w.heap.size + 1 ∨ w2.heap.size ≤ q from fun q hq => by rcases hat3 with s | s; exact LQ.out q (s ▸ hq); rw [s] at hq; have := Option.some.inj hq; simp at this; omega); clear o3 g3 hat3)
        exact ⟨⟨k + 1, _, rfl, by omega, by omega, by go_num, O3, L3, M3, B3⟩, by simp [intOf]; omega⟩

set_option maxRecDepth 100000 in
set_option maxHeartbeats 1600000 in
theorem specUnt (n : Int) (v : Value) (ls : List RCross) (b : Nat) (w : World) (h : OwnCross w b v ls) (hl : ls.length ≤ 2000000) :
    Calls Try.prog 12 #[.int .i64 n, v] w fun e w' => e = .returned (.bool (untw n ls)) ∧ Below w.heap.size w w' := by
  have CK := Lib.hid (specCrOk n v ls b w h hl)
  have CA := Lib.hid (fun W h => specOrdA n v ls b W h hl)
  have CW := Lib.hid (fun W h => specWnd n v ls b W h hl)
  have CI := Lib.hid (fun v b W h => specInv v (ordAfter n ls) b W h (by have := ordAfter_len n ls; omega))
  obtain ⟨A, c, rfl⟩ := h.slice
  have O := Lib.hid h
  clear h
  have U := Lib.hid (show untw n ls = (crossOk n ls && (decide ((if orderOk (ordAfter n ls) = true then (invs (ordAfter n ls) : Int) else -1) = 0) && decide ((woundPs n ls).length = 0))) from rfl)
  have wl := woundPs_len n ls
  generalize (if orderOk (ordAfter n ls) = true then (invs (ordAfter n ls) : Int) else -1) = x at U CI
  generalize ordAfter n ls = zs at CA CI
  generalize woundPs n ls = ps at CW U wl
  cases hc : crossOk n ls with
  | false =>
    rw [hc] at CK
    have R := Lib.hid (show untw n ls = false by rw [U.out, hc]; rfl)
    go_enter Try.func12, Try.ntmps12
    go_wp2_with (go_at_call 37; refine CK.out.mono ?_; rintro e w1 ⟨rfl, b1⟩; have B1 := Lib.hid b1; clear b1)
    go_ret
    exact ⟨by rw [R.out]; rfl, B1.out⟩
  | true =>
  rw [hc] at CK U
  go_enter Try.func12, Try.ntmps12
  go_wp2_with fail
  refine CK.out.mono ?_
  rintro e w1 ⟨rfl, b1⟩
  have B1 := Lib.hid b1
  clear b1 CK
  go_wp2_with fail
  refine (CA.out _ (O.out.below B1.out)).mono ?_
  rintro e w2 ⟨v2, rfl, o2, b2⟩
  obtain ⟨Z, cz, rfl⟩ := o2.slice
  have O2 := Lib.hid o2
  have B2 := Lib.hid (B1.out.trans (b2.mono B1.out.size))
  clear b2 o2 B1 CA
  go_wp2_with fail
  refine (CI.out _ _ _ O2.out).mono ?_
  rintro e w3 ⟨rfl, b3⟩
  have B3 := Lib.hid (B2.out.trans (b3.mono B2.out.size))
  clear b3 O2 B2 CI
  by_cases hx : x = 0
  · subst hx
    go_wp2_with fail
    refine (CW.out _ (O.out.below B3.out)).mono ?_
    rintro e w4 ⟨v4, rfl, o4, b4⟩
    obtain ⟨P, cp, rfl⟩ := o4.slice
    have B4 := Lib.hid (B3.out.trans (b4.mono B3.out.size))
    clear b4 o4 B3 CW
    by_cases hp : ps.length = 0
    · have R := Lib.hid (show untw n ls = true by rw [U.out, hp]; rfl)
      go_wp2
      go_ret
      exact ⟨by rw [R.out]; rfl, B4.out⟩
    · have R := Lib.hid (show untw n ls = false by rw [U.out, decide_eq_false hp]; rfl)
      have hpb : ((ps.length : Int) == 0) = false := by simp; exact fun e => hp (by rw [e]; rfl)
      go_wp2
      go_ret
      exact ⟨by rw [R.out]; rfl, B4.out⟩
  · have R := Lib.hid (show untw n ls = false by rw [U.out, decide_eq_false hx]; rfl)
    have hxb : (x == 0) = false := by simpa using hx
    go_wp2
    go_ret
    exact ⟨by rw [R.out]; rfl, B3.out⟩
end Go.Proofs.Ythijfipjfdmoeaa

/- The contract of spec.UnwindAll. Condition: the crossings lie in a row of their own. -/
namespace Go.Proofs.Ythijfipjfdmoeaa
set_option linter.unusedVariables false
set_option linter.unusedSimpArgs false
open Go.RowKit

theorem OwnR.pairB {w : World} {base k : Nat} {v : Value} {zss : List (List Int)} (h : OwnR w base v zss) (hk : k < zss.length) (h2 : zss[k].length = 2) :
    ∃ g c gr cr, v = .slice (some ⟨g, 0, none⟩) zss.length c ∧ w.cell? ⟨g, k, none⟩ = some (.slice (some ⟨gr, 0, none⟩) 2 cr) ∧ w.cell? ⟨gr, 0, none⟩ = some (.int .i64 (atI zss[k] 0)) ∧ w.cell? ⟨gr, 1, none⟩ = some (.int .i64 (atI zss[k] 1)) ∧ (base ≤ g ∧ g < w.heap.size) ∧ base ≤ gr ∧ gr < w.heap.size := by
  have hlt := h.lt
  obtain ⟨g, c, A, cr, rfl, e1, _, o⟩ := h.spot hk
  obtain ⟨gr, c2, ev, hb, hs, z0, _⟩ := o.spot (k := 0) (by omega)
  simp only [Value.slice.injEq] at ev
  obtain ⟨rfl, -, rfl⟩ := ev
  obtain ⟨_, _, ev, _, _, z1, _⟩ := o.spot (k := 1) (by omega)
  simp only [Value.slice.injEq, Option.some.injEq, Addr.mk.injEq] at ev
  obtain ⟨⟨rfl, -⟩, -⟩ := ev
  rw [h2] at e1
  exact ⟨g, c, gr, cr, rfl, e1, by rw [atI_of (by omega)]; exact z0, by rw [atI_of (by omega)]; exact z1, hlt g rfl, hb, hs⟩

set_option maxRecDepth 100000 in
set_option maxHeartbeats 3200000 in
theorem specUnw (n : Int) (v : Value) (ls : List RCross) (b : Nat) (w : World) (h : OwnCross w b v ls) (hl : ls.length ≤ 2000000) :
    Calls Try.prog 26 #[.int .i64 n, v] w (CrossB w (unwindAll n ls)) := by
  have CK := Lib.hid (fun W h => specCrOk n v ls b W h hl)
  have CA := Lib.hid (fun W h => specOrdA n v ls b W h hl)
  have CI := Lib.hid (fun v b W h => specInv v (ordAfter n ls) b W h (by have := ordAfter_len n ls; omega))
  have CW := Lib.hid (fun W h => specWnd n v ls b W h hl)
  have CT := Lib.hid (fun W h i k => specTwO n v ls b W h hl i k)
  obtain ⟨A, c, rfl⟩ := h.slice
  have O := Lib.hid h
  clear h
  have E0 := Lib.hid (emptyCross w w.heap.size w.heap.size #[] rfl (Nat.le_refl _) rfl)
  have B0 := Lib.hid ((Below.refl w.heap.size w).alloc (Nat.le_refl _) (.cells #[] 56))
  have OA := Lib.hid (O.out.alloc (.cells #[] 56))
  have HI := Lib.hid (show (if orderOk (ordAfter n ls) = true then (invs (ordAfter n ls) : Int) else -1) = homeInv n ls from rfl)
  rw [HI.out] at CI
  clear HI
  cases hc : crossOk n ls with
  | false =>
    have R := Lib.hid (unwind_no (.inl hc))
    rw [hc] at CK
    go_enter Try.func26, Try.ntmps26
    go_wp2_with (go_at_call 37; refine (CK.out _ OA.out).mono ?_; rintro e w1 ⟨rfl, b1⟩; have E1 := Lib.hid (E0.out.below b1); have B1 := Lib.hid (B0.out.trans (b1.mono B0.out.size)); clear b1)
    go_ret2
    exact ⟨_, by rw [R.out]; rfl, by rw [R.out]; exact E1.out, B1.out⟩
  | true =>
  rw [hc] at CK
  have NO := Lib.hid (fun h => unwind_no (n := n) (ls := ls) (.inr h))
  have YES := Lib.hid (fun h => (show unwindAll n ls = (unwTo n ls (woundPs n ls).length, true) by unfold unwindAll; rw [if_pos ⟨hc, h⟩]))
  have W2 := Lib.hid (show ∀ k (h : k < (woundPs n ls).length), (woundPs n ls)[k].length = 2 from fun k h => woundI_two _ _ _ (List.getElem_mem h))
  have UT := Lib.hid (show ∀ k (h : k < (woundPs n ls).length), unwTo n ls (k + 1) = unwTo n ls k ++ unwAt n ls (woundPs n ls)[k] from fun k h => by rw [unwTo, getD_row h])
  have UL := Lib.hid (fun k => unwTo_len n ls k)
  have U0 := Lib.hid (show unwTo n ls 0 = [] from rfl)
  have wl := woundPs_len n ls
  generalize woundPs n ls = ps at CW YES W2 UT wl
  generalize ordAfter n ls = zs at CA CI
  generalize homeInv n ls = inv at CI NO YES
  clear hc
  go_enter Try.func26, Try.ntmps26
  go_wp2_with fail
  refine (CK.out _ OA.out).mono ?_
  rintro e w1 ⟨rfl, b1⟩
  have hb1 := b1.size
  simp only [World.size_alloc] at hb1
  have E1 := Lib.hid (E0.out.below b1)
  have B1 := Lib.hid (B0.out.trans (b1.mono B0.out.size))
  clear b1 CK E0 B0 OA
  go_wp2_with fail
  refine (CA.out _ (O.out.below B1.out)).mono ?_
  rintro e w2 ⟨v2, rfl, o2, b2⟩
  obtain ⟨Z, cz, rfl⟩ := o2.slice
  have hb2 := b2.size
  have O2 := Lib.hid o2
  have E2 := Lib.hid (E1.out.below b2)
  have B2 := Lib.hid (B1.out.trans (b2.mono B1.out.size))
  clear b2 o2 E1 B1 CA
  go_wp2_with fail
  refine (CI.out _ _ _ O2.out).mono ?_
  rintro e w3 ⟨rfl, b3⟩
  have hb3 := b3.size
  have E3 := Lib.hid (E2.out.below b3)
  have B3 := Lib.hid (B2.out.trans (b3.mono B2.out.size))
  clear b3 E2 B2 O2 CI
  by_cases hx : inv = 0
  rotate_left
  · have R := Lib.hid (NO.out hx)
    have hxb : (inv != 0) = true := by simpa using hx
    go_wp2
    go_ret2
    exact ⟨_, by rw [R.out]; rfl, by rw [R.out]; exact E3.out, B3.out⟩
  have R := Lib.hid (YES.out hx)
  subst hx
  clear NO YES
  go_wp2_with fail
  refine (CW.out _ (O.out.below B3.out)).mono ?_
  rintro e w4 ⟨vp, rfl, p4, b4⟩
  obtain ⟨P, cp, rfl⟩ := p4.slice
  have P4 := Lib.hid p4
  have E4 := Lib.hid (E3.out.below b4)
  have B4 := Lib.hid (B3.out.trans (b4.mono B3.out.size))
  have Q4 := Lib.hid (show ∀ q, (Value.slice (some ⟨w.heap.size, 0, none⟩) 0 0).ownBlock = some q → q < w3.heap.size ∨ w4.heap.size ≤ q from fun q hq => by have : w.heap.size = q := Option.some.inj hq; omega)
  have M4 := Lib.hid (show Mid w3.heap.size w4.heap.size w4 w4 from ⟨Nat.le_refl _, fun _ _ _ => rfl⟩)
  clear b4 p4 E3 B3 CW
  go_wp2_with fail
  go_loopw [6, 8] (fun ov iv wr => ∃ (k : Nat) (vo : Value), vo = ov ∧ k ≤ ps.length ∧ iv = .int .i64 (k : Int) ∧ Hid (OwnCross wr w.heap.size vo (unwTo n ls k)) ∧ Hid (∀ q, vo.ownBlock = some q → q < w3.heap.size ∨ w4.heap.size ≤ q) ∧ Hid (Mid w3.heap.size w4.heap.size w4 wr) ∧ Hid (Below w.heap.size w wr)) (fun _ iv _ => ps.length - (intOf iv).toNat)
  case atStart => exact ⟨0, _, rfl, by omega, rfl, Lib.hid (by rw [U0.out]; exact E4.out), Q4, M4, B4⟩
  case round =>
    clear E4 Q4 M4 B4
    obtain ⟨k, vo, rfl, hk, rfl, OO, QQ, MM, BW⟩ := hrel
    by_cases hlt : k < ps.length
    rotate_left
    · obtain rfl : k = ps.length := by omega
      go_wp2
      go_ret2
      exact ⟨_, by rw [R.out]; rfl, by rw [R.out]; exact OO.out, BW.out⟩
    have hk0 : (0 : Int) ≤ (k : Int) := by omega
    have hk1 : (k : Int) < (ps.length : Int) := by omega
    have ul := UL.out k
    have UA := Lib.hid (UT.out k hlt)
    obtain ⟨g, c2, gr, cr, ev, y0, y1, y2, gb, grb⟩ := P4.out.pairB hlt (W2.out k hlt)
    simp only [Value.slice.injEq, true_and] at ev
    obtain ⟨rfl, rfl⟩ := ev
    have UA2 := Lib.hid (show unwAt n ls ps[k] = repL (fullTurn n (atI ps[k] 0) (atI ps[k] 1) (decide (twistOf n ls (atI ps[k] 0) (atI ps[k] 1) < 0))).1 (halfOf (twistOf n ls (atI ps[k] 0) (atI ps[k] 1))) from rfl)
    rw [UA2.out] at UA
    generalize atI ps[k] 0 = i at y1 UA
    generalize atI ps[k] 1 = j at y2 UA
    have CT1 := Lib.hid (fun W h => CT.out W h i j)
    have tsm := twistOf_small n ls i j
    generalize twistOf n ls i j = t at CT1 UA tsm
    have CF := Lib.hid (fun W => specFull n i j (decide (t < 0)) W)
    have fl := fullTurn_len n i j (decide (t < 0))
    generalize fullTurn n i j (decide (t < 0)) = r at CF UA fl
    obtain ⟨xs, rb⟩ := r
    have X0 := Lib.hid (show ∀ W, Below wr.heap.size wr W → W.cell? ⟨g, k, none⟩ = some (.slice (some ⟨gr, 0, none⟩) 2 cr) ∧ W.cell? ⟨gr, 0, none⟩ = some (.int .i64 i) ∧ W.cell? ⟨gr, 1, none⟩ = some (.int .i64 j) from fun W hb =>
      ⟨(MM.out.below hb).cell y0 gb.1 gb.2, (MM.out.below hb).cell y1 grb.1 grb.2, (MM.out.below hb).cell y2 grb.1 grb.2⟩)
    have X1 := Lib.hid (X0.out wr (Below.refl _ _))
    have hsz := BW.out.size
    have L1 := Lib.hid (show ∀ W, Below wr.heap.size wr W → OwnCross W b (.slice A ls.length c) ls from fun W hb => O.out.below (BW.out.trans (hb.mono hsz)))
    clear y0 y1 y2 gb grb UA2
    unfold CrossB at CF
    dsimp only at CF UA fl
    go_wp2_with fail
    go_region_held3 (fun W => W.cell? ⟨g, k, none⟩ = some (.slice (some ⟨gr, 0, none⟩) 2 cr) ∧ W.cell? ⟨gr, 0, none⟩ = some (.int .i64 i) ∧ W.cell? ⟨gr, 1, none⟩ = some (.int .i64 j))
      (first | exact X1.out | exact F8.out)
      (first | (go_at_call 50; (refine (CT1.out _ (L1.out _ (Below.refl _ _).drew)).mono ?_); rintro e w8 ⟨rfl, b8⟩; replace b8 := undrew b8; have F8 := Lib.hid (X0.out _ b8); have B8 := Lib.hid b8; clear b8))
    have hs8 := B8.out.size
    have B9 := Lib.hid (BW.out.trans (B8.out.mono hsz))
    have O8 := Lib.hid (OO.out.below B8.out)
    have M8 := Lib.hid (MM.out.below B8.out)
    have X2 := Lib.hid (show ∀ W, Below w8.heap.size w8 W → W.cell? ⟨g, k, none⟩ = some (.slice (some ⟨gr, 0, none⟩) 2 cr) ∧ W.cell? ⟨gr, 0, none⟩ = some (.int .i64 i) ∧ W.cell? ⟨gr, 1, none⟩ = some (.int .i64 j) from fun W hb => X0.out W (B8.out.trans (hb.mono hs8)))
    clear X0 X1 L1 CT1 OO MM F8 BW hsz
    have X3 := Lib.hid (X2.out w8 (Below.refl _ _))
    obtain ⟨t2, ht2⟩ : ∃ t2, decide (t < 0) = t2 := ⟨_, rfl⟩
    rw [ht2] at CF
    go_wp2_with fail
    go_region_held3 (fun W => W.cell? ⟨g, k, none⟩ = some (.slice (some ⟨gr, 0, none⟩) 2 cr) ∧ W.cell? ⟨gr, 0, none⟩ = some (.int .i64 i) ∧ W.cell? ⟨gr, 1, none⟩ = some (.int .i64 j))
      (first | exact X3.out | exact F9.out)
      (first | (go_at_call 21; (refine (CF.out _).mono ?_); rintro e w9 ⟨vx, rfl, o9, b9⟩; replace b9 := undrew b9; have F9 := Lib.hid (X2.out _ b9); have D9 := Lib.hid b9; have XR := Lib.hid o9; clear b9 o9))
    have hs9 := D9.out.size
    have D9' := Lib.hid (show Below w8.heap.size w8 w9 from D9.out)
    have XR' := Lib.hid (show OwnCross w9 w8.heap.size vx xs from XR.out)
    have O9 := Lib.hid (O8.out.below D9'.out)
    have M9 := Lib.hid (M8.out.below D9'.out)
    have BB := Lib.hid (B9.out.trans (D9'.out.mono B9.out.size))
    have hs89 := B9.out.size
    have SX := Lib.hid (show vx.ownBlock = none ∨ vx.ownBlock ≠ vo.ownBlock from sep_of fun x h1 h2 => by
      have := (XR'.out.lt x h1).1
      have := (O8.out.lt x h2).2
      omega)
    have XO := Lib.hid (XR'.out.mono hs89)
    have e1 : IntKind.i64.wrap (-t) = -t := IntWalk.i64_in _ (by omega)
    obtain ⟨H, hH⟩ : ∃ H, halfOf t = H := ⟨_, rfl⟩
    have h20 : H ≤ 20 := by rw [← hH]; exact half_small tsm
    have eq1 : Int.tdiv (if t < -t then -t else t) 2 = (H : Int) := by
      rw [← hH]
      unfold halfOf absI
      split <;> split <;> rw [Int.tdiv_eq_ediv_of_nonneg (by omega)] <;> omega
    have hul : (unwTo n ls k).length ≤ 13720 := by omega
    rw [hH] at UA
    have U1 := Lib.hid (show unwTo n ls k ++ repL xs 0 = unwTo n ls k from List.append_nil _)
    have UM := Lib.hid (show ∀ m, unwTo n ls k ++ repL xs (m + 1) = unwTo n ls k ++ repL xs m ++ xs from fun m => by rw [repL, List.append_assoc])
    have ULN := Lib.hid (show ∀ m, m ≤ 20 → (unwTo n ls k ++ repL xs m).length ≤ 14000 from fun m hm => by
      rw [List.length_append, repL_len]
      have := Nat.mul_le_mul hm fl
      omega)
    rw [← U1.out] at O9
    clear hH ht2 XR D9 XR' D9' O8 M8 B9 X2 X3 F9 ul hul tsm hs8 hs9 hs89 B8 CF
    go_wp2_with fail
    all_goals
      go_loopw [6, 12] (fun ov iv wr => ∃ (m q : Nat) (vo : Value), vo = ov ∧ m + q = H ∧ iv = .int .i64 (q : Int) ∧ Hid (OwnCross wr w.heap.size vo (unwTo n ls k ++ repL xs m)) ∧ Hid (OwnCross wr w.heap.size vx xs) ∧ Hid (vx.ownBlock = none ∨ vx.ownBlock ≠ vo.ownBlock) ∧ Hid (∀ q, vo.ownBlock = some q → q < w3.heap.size ∨ w4.heap.size ≤ q) ∧ Hid (Mid w3.heap.size w4.heap.size w4 wr) ∧ Hid (Below w.heap.size w wr)) (fun _ iv _ => (intOf iv).toNat)
      case atStart => exact ⟨0, H, _, rfl, by omega, rfl, O9, XO, SX, QQ, M9, BB⟩
      case round =>
        clear O9 XO SX QQ M9 BB
        obtain ⟨m, q, vo, rfl, hmq, rfl, OO, XO, SX, QQ, MM, BW⟩ := hrel
        by_cases hq : q = 0
        · subst hq
          obtain rfl : m = H := by omega
          go_wp2
          exact ⟨⟨k + 1, _, rfl, by omega, by go_num, Lib.hid (by rw [UA.out]; exact OO.out), QQ, MM, BW⟩, by simp [intOf]; omega⟩
        · have hq0 : (0 : Int) < (q : Int) := by omega
          have ew : IntKind.i64.wrap ((q : Int) - 1) = ((q - 1 : Nat) : Int) := by rw [IntWalk.i64_in _ (by omega)]; omega
          have hsz := BW.out.size
          have hm4 := MM.out.1
          have UMM := Lib.hid (UM.out m)
          have hln := ULN.out m (by omega)
          have LX := Lib.hid (fun x hx => (XO.out.lt x hx).2)
          have HLN := Lib.hid hln
          generalize unwTo n ls k ++ repL xs m = zs' at OO UMM HLN
          clear hln
          go_wp2_with (at_builtin; refine wpList_rowsCross rfl (.tmp 78) (.tmp 79) rfl w.heap.size w.heap.size vo vx zs' xs rfl rfl OO.out XO.out ?_ ?_ ?_; (have := HLN.out; omega); (exact hsz); intro v3 w5 o3 g3 hat3; have B3 := Lib.hid (mineCross BW.out hsz OO.out g3); have M3 := Lib.hid (MM.out.grown g3 QQ.out); have X3 := Lib.hid (XO.out.kept g3 SX.out); have O3 := Lib.hid (show OwnCross w5 w.heap.size v3 (unwTo n ls k ++ repL xs (m + 1)) by rw [UMM.out]; exact o3); have Q3 := Lib.hid (show ∀ q, v3.ownBlock = some q → q < w3.heap.size ∨ w4.heap.size ≤ q from fun q hq => by
              rcases hat3 with s_ | s_
              · exact QQ.out q (s_ ▸ hq)
              · rw [s_] at hq; have := Option.some.inj hq; omega); have S3 := Lib.hid (show vx.ownBlock = none ∨ vx.ownBlock ≠ v3.ownBlock from by
              rcases hat3 with s_ | s_ <;> rw [s_]
              · exact SX.out
              · exact sep_of fun x h1 h2 => by have := LX.out x h1; have := Option.some.inj h2; omega); clear o3 g3 hat3)
          first | exact ⟨⟨_, _, _, ⟨m + 1, q - 1, _, rfl, by omega, rfl, O3, X3, S3, Q3, M3, B3⟩, rfl, rfl, rfl⟩, by simp [intOf]; omega⟩ | exact ⟨⟨_, _, ⟨m + 1, q - 1, _, rfl, by omega, rfl, O3, X3, S3, Q3, M3, B3⟩, rfl, rfl⟩, by simp [intOf]; omega⟩ | exact ⟨⟨m + 1, q - 1, _, rfl, by omega, rfl, O3, X3, S3, Q3, M3, B3⟩, by simp [intOf]; omega⟩ | exact ⟨⟨_, _, _, _, ⟨m + 1, q - 1, _, rfl, by omega, rfl, O3, X3, S3, Q3, M3, B3⟩, rfl, rfl, rfl, rfl⟩, by simp [intOf]; omega⟩
end Go.Proofs.Ythijfipjfdmoeaa

/- The contract of the program's UnwindAll (FullTurn, JoinCrosses: XFulI; BringHome: XHomI). Condition: the crossings lie in a row of their own. -/
namespace Go.Proofs.Ythijfipjfdmoeaa
set_option linter.unusedVariables false
set_option linter.unusedSimpArgs false
open Go.RowKit

theorem wound_turn {N : Nat} {ls : List RCross} (hok : crossOk (N : Int) ls = true) {k : Nat} (hk : k < (woundPs (N : Int) ls).length) (f : Bool) : 1 ≤ (fullTurn (N : Int) (atI (woundPs (N : Int) ls)[k] 0) (atI (woundPs (N : Int) ls)[k] 1) f).1.length := by
  obtain ⟨h1, _⟩ := ok_fits hok
  rw [Int.toNat_natCast] at h1
  have tl : (twistTab (N : Int) ls).length = N := by
    have := (tab_square hok ls.length (Nat.le_refl _)).len
    unfold twistTab
    rw [if_pos hok, this, Int.toNat_natCast]
  have hm : (woundPs (N : Int) ls)[k] ∈ woundI (twistTab (N : Int) ls) (twistTab (N : Int) ls).length := List.getElem_mem hk
  obtain ⟨p, q, _, hpq, hq, _, e⟩ := (woundI_mem _ _ _).1 hm
  rw [tl] at hq
  rw [e]
  have e0 : atI [(p : Int), (q : Int)] 0 = (p : Int) := rfl
  have e1 : atI [(p : Int), (q : Int)] 1 = (q : Int) := rfl
  rw [e0, e1]
  unfold fullTurn
  rw [if_pos ⟨by unfold inB; exact decide_eq_true (by omega), by unfold inB; exact decide_eq_true (by omega), by unfold inB; exact decide_eq_true (by omega)⟩]
  simp only [turnL, List.length_append, List.length_cons, List.length_nil]
  omega

set_option maxRecDepth 100000 in
set_option maxHeartbeats 3200000 in
theorem implUnw (n : Int) (v : Value) (ls : List RCross) (b : Nat) (w : World) (h : OwnCross w b v ls) (hl : ls.length ≤ 2000000) :
    Calls Try.prog 10 #[.int .i64 n, v] w (CrossB w (unwindAll n ls)) := by
  have CK := Lib.hid (fun W h => implCrOk n v ls b W h hl)
  cases hc : crossOk n ls with
  | false =>
    obtain ⟨A, c, rfl⟩ := h.slice
    have O := Lib.hid h
    clear h
    have R := Lib.hid (unwind_no (.inl hc))
    rw [hc] at CK
    go_enter Try.func10, Try.ntmps10
    go_wp2_with (go_at_call 32; refine (CK.out _ O.out).mono ?_; rintro e w1 ⟨rfl, b1⟩; have B1 := Lib.hid b1; clear b1)
    go_ret2
    exact ⟨_, by rw [R.out]; rfl, by rw [R.out]; exact ownCross_none _ _, B1.out⟩
  | true =>
  obtain ⟨hn7, hnn, h40, -⟩ := ok_fits hc
  obtain ⟨N, hN⟩ : ∃ N : Nat, n = (N : Int) := ⟨n.toNat, hnn.symm⟩
  subst hN
  rw [hc] at CK
  have CE := Lib.hid (fun W h => implEnd N v ls b W h hc)
  have CW := Lib.hid (fun W h => implWnd (N : Int) v ls b W h hl)
  have CP := Lib.hid (fun W h i k h1 => pairU (N : Int) v ls b W h hl i k h1)
  have FX := Lib.hid (fun v1 v2 xs ys b1 b2 W h1 h2 hx hy => followX v1 v2 xs ys b1 b2 W h1 h2 hx hy)
  have WT := Lib.hid (fun k (hk : k < (woundPs (N : Int) ls).length) f => wound_turn hc hk f)
  obtain ⟨A, c, rfl⟩ := h.slice
  have O := Lib.hid h
  clear h
  have NO := Lib.hid (fun h => unwind_no (n := (N : Int)) (ls := ls) (.inr h))
  have YES := Lib.hid (fun h => (show unwindAll (N : Int) ls = (unwTo (N : Int) ls (woundPs (N : Int) ls).length, true) by unfold unwindAll; rw [if_pos ⟨hc, h⟩]))
  have W2 := Lib.hid (show ∀ k (h : k < (woundPs (N : Int) ls).length), (woundPs (N : Int) ls)[k].length = 2 from fun k h => woundI_two _ _ _ (List.getElem_mem h))
  have UT := Lib.hid (show ∀ k (h : k < (woundPs (N : Int) ls).length), unwTo (N : Int) ls (k + 1) = unwTo (N : Int) ls k ++ unwAt (N : Int) ls (woundPs (N : Int) ls)[k] from fun k h => by rw [unwTo, getD_row h])
  have UL := Lib.hid (fun k => unwTo_len (N : Int) ls k)
  have AL := Lib.hid (fun z => unwAt_len (N : Int) ls z)
  have U0 := Lib.hid (show unwTo (N : Int) ls 0 = [] from rfl)
  have wl := woundPs_len (N : Int) ls
  generalize woundPs (N : Int) ls = ps at CW YES W2 UT wl WT
  generalize homeInv (N : Int) ls = inv at CE NO YES
  clear hc hnn hn7 h40
  by_cases hx : inv = 0
  rotate_left
  · have R := Lib.hid (NO.out hx)
    rw [decide_eq_false hx] at CE
    go_enter Try.func10, Try.ntmps10
    go_wp2_with (first
      | (go_at_call 32; refine (CK.out _ O.out).mono ?_; rintro e w1 ⟨rfl, b1⟩; have B1 := Lib.hid b1; clear b1)
      | (go_at_call 33; refine (CE.out _ (O.out.below B1.out)).mono ?_; rintro e w2 ⟨rfl, b2⟩; have B2 := Lib.hid (B1.out.trans (b2.mono B1.out.size)); clear b2))
    go_ret2
    exact ⟨_, by rw [R.out]; rfl, by rw [R.out]; exact ownCross_none _ _, B2.out⟩
  have R := Lib.hid (YES.out hx)
  rw [decide_eq_true hx] at CE
  clear NO YES hx
  go_enter Try.func10, Try.ntmps10
  go_wp2_with (first
    | (go_at_call 32; refine (CK.out _ O.out).mono ?_; rintro e w1 ⟨rfl, b1⟩; have B1 := Lib.hid b1; clear b1)
    | (go_at_call 33; refine (CE.out _ (O.out.below B1.out)).mono ?_; rintro e w2 ⟨rfl, b2⟩; have B2 := Lib.hid (B1.out.trans (b2.mono B1.out.size)); clear b2)
    | (go_at_call 34; refine (CW.out _ (O.out.below B2.out)).mono ?_; rintro e w4 ⟨vp, rfl, p4, b4⟩; obtain ⟨P, cp, rfl⟩ := p4.slice; have P4 := Lib.hid p4; have B4 := Lib.hid (B2.out.trans (b4.mono B2.out.size)); clear b4 p4))
  have L4 := Lib.hid (show Below w4.heap.size w4 w4 from Below.refl _ _)
  clear B1 B2 CK CE CW
  go_loopw [6, 23] (fun ov iv wr => ∃ (k : Nat) (vo : Value), vo = ov ∧ k ≤ ps.length ∧ iv = .int .i64 (k : Int) ∧ Hid (OwnCross wr w.heap.size vo (unwTo (N : Int) ls k)) ∧ Hid (Below w4.heap.size w4 wr) ∧ Hid (Below w.heap.size w wr)) (fun _ iv _ => ps.length - (intOf iv).toNat)
  case atStart => exact ⟨0, _, rfl, by omega, rfl, Lib.hid (by rw [U0.out]; exact ownCross_none _ _), L4, B4⟩
  case round =>
    clear L4 B4
    obtain ⟨k, vo, rfl, hk, rfl, OO, LW, BW⟩ := hrel
    by_cases hlt : k < ps.length
    rotate_left
    · obtain rfl : k = ps.length := by omega
      go_wp2
      go_ret2
      exact ⟨_, by rw [R.out]; rfl, by rw [R.out]; exact OO.out, BW.out⟩
    have hk0 : (0 : Int) ≤ (k : Int) := by omega
    have hk1 : (k : Int) < (ps.length : Int) := by omega
    have ul := UL.out k
    have al := AL.out ps[k]
    have UA := Lib.hid (UT.out k hlt)
    obtain ⟨g, c2, gr, cr, ev, y0, y1, y2, gb, grb⟩ := (P4.out.below LW.out).pairB hlt (W2.out k hlt)
    simp only [Value.slice.injEq, true_and] at ev
    obtain ⟨rfl, rfl⟩ := ev
    have UA2 := Lib.hid (show unwAt (N : Int) ls ps[k] = repL (fullTurn (N : Int) (atI ps[k] 0) (atI ps[k] 1) (decide (twistOf (N : Int) ls (atI ps[k] 0) (atI ps[k] 1) < 0))).1 (halfOf (twistOf (N : Int) ls (atI ps[k] 0) (atI ps[k] 1))) from rfl)
    have CP1 := Lib.hid (fun W h => CP.out W h (atI ps[k] 0) (atI ps[k] 1) (fun f => WT.out k hlt f))
    rw [← UA2.out] at CP1
    generalize atI ps[k] 0 = i at y1 CP1
    generalize atI ps[k] 1 = j at y2 CP1
    generalize unwAt (N : Int) ls ps[k] = ys at CP1 UA al
    have hsz := BW.out.size
    have hsl := LW.out.size
    have X1 := Lib.hid (And.intro y0 (And.intro y1 y2))
    have L1 := Lib.hid (show ∀ W, Below wr.heap.size wr W → OwnCross W b (.slice A ls.length c) ls from fun W hb => O.out.below (BW.out.trans (hb.mono hsz)))
    have hul : (unwTo (N : Int) ls k).length ≤ 13720 := by omega
    have FX1 := Lib.hid (fun v1 v2 b1 b2 W h1 h2 => FX.out v1 v2 (unwTo (N : Int) ls k) ys b1 b2 W h1 h2 (by omega) (by omega))
    rw [← UA.out] at FX1
    generalize unwTo (N : Int) ls k = us at OO FX1
    have X2 := Lib.hid (And.intro y1 y2)
    have X0 := Lib.hid (show ∀ W, Below wr.heap.size wr W → W.cell? ⟨gr, 0, none⟩ = some (.int .i64 i) ∧ W.cell? ⟨gr, 1, none⟩ = some (.int .i64 j) from fun W hb => ⟨(hb.cell grb.2).trans y1, (hb.cell grb.2).trans y2⟩)
    have DR := Lib.hid (Below.refl wr.heap.size wr).drew
    clear UA2 UA ul al hul gb grb
    go_wp2_with fail
    go_region_held3 (fun W => W.cell? ⟨gr, 0, none⟩ = some (.int .i64 i) ∧ W.cell? ⟨gr, 1, none⟩ = some (.int .i64 j))
      (first | exact X2.out | exact F8.out | exact F9.out)
      (first
        | (go_at_call 36; (refine (CP1.out _ (L1.out _ DR.out)).mono ?_); rintro e w8 ⟨v8, rfl, o8, b8⟩; replace b8 := undrew b8; have D8 := Lib.hid b8; have F8 := Lib.hid (X0.out _ b8); have O8 := Lib.hid o8; have Q8 := Lib.hid (OO.out.below b8); clear b8 o8)
        | (go_at_call 35; (refine (FX1.out _ _ _ _ _ Q8.out O8.out).mono ?_); rintro e w9 ⟨v9, rfl, o9, b9⟩; have D9 := Lib.hid b9; have F9 := Lib.hid (X0.out _ (D8.out.trans (b9.mono D8.out.size))); have O9 := Lib.hid o9; clear b9 o9))
    have hs8 := D8.out.size
    have hs9 := D9.out.size
    have B9 := Lib.hid ((BW.out.trans (D8.out.mono hsz)).trans (D9.out.mono (by omega)))
    have L9 := Lib.hid ((LW.out.trans (D8.out.mono hsl)).trans (D9.out.mono (by omega)))
    have U9 := Lib.hid (O9.out.mono (b := w.heap.size) (by omega))
    clear O9 D8 D9 Q8 O8 OO LW BW CP1 FX1
    go_wp2
    exact ⟨⟨k + 1, _, rfl, by omega, by go_num, U9, L9, B9⟩, by simp [intOf]; omega⟩
end Go.Proofs.Ythijfipjfdmoeaa
