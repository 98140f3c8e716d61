/- The contracts of spec.WoundPairs and IsUntwisted. Condition: the crossings lie in a row of their own. -/
import Derived.Test.YtokgcchcjaimhaaTwdM
import Derived.Test.YtokgcchcjaimhaaTwsS
import Derived.Test.YtokgcchcjaimhaaOrAS
import Derived.Test.YtokgcchcjaimhaaOrdS
namespace Go.Proofs.Ytokgcchcjaimhaa
set_option linter.unusedVariables false
set_option linter.unusedSimpArgs false
open Go.RowKit

/-- What lay between two blocks lies there still. -/
def Mid (m1 m2 : Nat) (w2 w : World) : Prop := m2 ≤ w.heap.size ∧ ∀ b, m1 ≤ b → b < m2 → w.heap[b]? = w2.heap[b]?
section
variable {m1 m2 : Nat} {w2 w w' : World} {row : Option Nat}
theorem Mid.cell {p : Addr} {u : Value} (h : Mid m1 m2 w2 w) (hc : w2.cell? p = some u) (h1 : m1 ≤ p.block) (h2 : p.block < m2) : w.cell? p = some u := by
  rw [World.cell?_of_block (h.2 p.block h1 h2)]
  exact hc
theorem Mid.below (h : Mid m1 m2 w2 w) (hb : Below w.heap.size w w') : Mid m1 m2 w2 w' :=
  ⟨Nat.le_trans h.1 hb.size, fun b h1 h2 => (hb.block b (Nat.lt_of_lt_of_le h2 h.1)).trans (h.2 b h1 h2)⟩
theorem Mid.grown (h : Mid m1 m2 w2 w) (hg : w.grownBy w' row) (hr : ∀ q, row = some q → q < m1 ∨ m2 ≤ q) : Mid m1 m2 w2 w' :=
  ⟨Nat.le_trans h.1 hg.size, fun b h1 h2 => (hg.block b (Nat.lt_of_lt_of_le h2 h.1) (fun e => by rcases hr b e.symm with c | c <;> omega)).trans (h.2 b h1 h2)⟩
end
theorem OwnR.entryB {w : World} {base n i k : Nat} {v : Value} {t : List (List Int)} (h : OwnR w base v t) (hs : Square n t) (hi : i < n) (hk : k < n) :
    ∃ g c ga ca, v = .slice (some ⟨g, 0, none⟩) n c ∧ w.cell? ⟨g, i, none⟩ = some (.slice (some ⟨ga, 0, none⟩) n ca) ∧ w.cell? ⟨ga, k, none⟩ = some (.int .i64 (ent t i k)) ∧ (base ≤ g ∧ g < w.heap.size) ∧ base ≤ ga ∧ ga < w.heap.size := by
  have hlt := h.lt
  obtain ⟨vs, h⟩ := h
  obtain ⟨g, c, ga, ca, rfl, _, e3, e4, _, e6, _⟩ := h.entry hs hi hk
  exact ⟨g, c, ga, ca, rfl, e3, e4, hlt g rfl, e6, World.block_lt_of_cell? w _ e4⟩

set_option maxRecDepth 100000 in
set_option maxHeartbeats 3200000 in
theorem specWnd (n : Int) (v : Value) (ls : List RCross) (b : Nat) (w : World) (h : OwnCross w b v ls) (hl : ls.length ≤ 2000000) :
    Calls Try.prog 35 #[.int .i64 n, v] w (RowsPost w (woundPs n ls)) := by
  have CT := Lib.hid (specTab n v ls b (w.alloc (.cells #[] 29)) (h.alloc _) hl)
  obtain ⟨A, c, rfl⟩ := h.slice
  clear h
  have E0 := Lib.hid (emptyR w w.heap.size w.heap.size #[] rfl (Nat.le_refl _) rfl)
  have B0 := Lib.hid ((Below.refl w.heap.size w).alloc (Nat.le_refl _) (.cells #[] 29))
  obtain ⟨t7, sq, -⟩ := tab_len n ls
  have R := Lib.hid (show woundPs n ls = woundI (twistTab n ls) (twistTab n ls).length from rfl)
  generalize twistTab n ls = t at CT R t7 sq
  obtain ⟨N, hN⟩ : ∃ N, t.length = N := ⟨_, rfl⟩
  rw [hN] at sq t7
  have SQ := Lib.hid sq
  have HN := Lib.hid hN
  clear sq
  go_enter Try.func35, Try.ntmps35
  go_wp2_with fail
  refine CT.out.mono ?_
  rintro e w2 ⟨vt, rfl, o2, b2⟩
  obtain ⟨V, cv, rfl⟩ := o2.slice
  rw [hN] at o2 ⊢
  have hbs := b2.size
  simp only [World.size_alloc] at hbs
  have OT := Lib.hid (show OwnR w2 (w.heap.size + 1) (.slice V N cv) t by simpa using o2)
  have OO := Lib.hid (E0.out.below b2)
  have B2 := Lib.hid (B0.out.trans (b2.mono B0.out.size))
  have M2 := Lib.hid (show Mid (w.heap.size + 1) w2.heap.size w2 w2 from ⟨Nat.le_refl _, fun _ _ _ => rfl⟩)
  clear o2 b2 E0 B0 CT hN
  go_wp2_with fail
  go_loopw [5, 7] (fun ov iv wr => ∃ (i : Nat) (vo : Value), vo = ov ∧ i ≤ N ∧ iv = .int .i64 (i : Int) ∧ Hid (OwnR wr w.heap.size vo (woundI t i)) ∧ Hid (∀ q, vo.ownBlock = some q → q < w.heap.size + 1 ∨ w2.heap.size ≤ q) ∧ Hid (Mid (w.heap.size + 1) w2.heap.size w2 wr) ∧ Hid (Below w.heap.size w wr)) (fun _ iv _ => N - (intOf iv).toNat)
  case atStart => exact ⟨0, _, rfl, by omega, rfl, OO, Lib.hid (fun q hq => by have : w.heap.size = q := Option.some.inj hq; omega), M2, B2⟩
  case round =>
    clear OO B2 M2
    obtain ⟨i, vo, rfl, hi, rfl, OO, LQ, MM, BW⟩ := hrel
    by_cases hlt : i < N
    rotate_left
    · obtain rfl : i = N := by omega
      have R2 := Lib.hid (show woundPs n ls = woundI t i by rw [R.out, HN.out])
      go_wp2
      go_ret
      exact ⟨_, rfl, by rw [R2.out]; exact OO.out, BW.out⟩
    have hi0 : (0 : Int) ≤ (i : Int) := by omega
    have hi1 : (i : Int) < (N : Int) := by omega
    have e1 : IntKind.i64.wrap ((i : Int) + 1) = ((i + 1 : Nat) : Int) := by rw [IntWalk.i64_in _ (by omega)]; omega
    have K0 := Lib.hid (show woundI t i ++ woundK t i (i + 1) = woundI t i by rw [woundK_low t i (i + 1) (Nat.le_refl _), List.append_nil])
    have K1 := Lib.hid (show woundI t (i + 1) = woundI t i ++ woundK t i N by rw [woundI, HN.out])
    have KL := Lib.hid (fun k => woundK_len t i k)
    have IL := woundI_len t i
    rw [HN.out] at IL
    have hil : (woundI t i).length ≤ 49 := by
      have : i * N ≤ 7 * 7 := Nat.mul_le_mul (by omega) t7
      omega
    have HL := Lib.hid hil
    clear IL hil
    rw [← K0.out] at OO
    go_wp2_with fail
    go_loopw [5, 8] (fun ov kv wr => ∃ (k : Nat) (vo : Value), vo = ov ∧ i + 1 ≤ k ∧ k ≤ N ∧ kv = .int .i64 (k : Int) ∧ Hid (OwnR wr w.heap.size vo (woundI t i ++ woundK t i k)) ∧ Hid (∀ q, vo.ownBlock = some q → q < w.heap.size + 1 ∨ w2.heap.size ≤ q) ∧ Hid (Mid (w.heap.size + 1) w2.heap.size w2 wr) ∧ Hid (Below w.heap.size w wr)) (fun _ kv _ => N - (intOf kv).toNat)
    case atStart => exact ⟨i + 1, _, rfl, Nat.le_refl _, by omega, by go_num, OO, LQ, MM, BW⟩
    case round =>
      clear OO LQ MM BW K0 e1
      obtain ⟨k, vo, rfl, hk1, hk, rfl, OO, LQ, MM, BW⟩ := hrel
      by_cases hlk : k < N
      rotate_left
      · obtain rfl : k = N := by omega
        go_wp2
        exact ⟨⟨i + 1, _, rfl, by omega, by go_num, Lib.hid (by rw [K1.out]; exact OO.out), LQ, MM, BW⟩, by simp [intOf]; omega⟩
      have hk0 : (0 : Int) ≤ (k : Int) := by omega
      have hk3 : (k : Int) < (N : Int) := by omega
      have KK := Lib.hid (show woundK t i (k + 1) = woundK t i k ++ if ent t i k ≠ 0 then [[(i : Int), (k : Int)]] else [] by rw [woundK]; simp only [show i < k by omega, true_and])
      have hkl := KL.out k
      have hil := HL.out
      obtain ⟨g, c1, ga, ca, ev, y0, y1, gb, gab⟩ := OT.out.entryB SQ.out hlt hlk
      simp only [Value.slice.injEq, true_and] at ev
      obtain ⟨rfl, rfl⟩ := ev
      have x0 := MM.out.cell y0 gb.1 gb.2
      have x1 := MM.out.cell y1 gab.1 gab.2
      have hsz := BW.out.size
      have hll : (woundI t i ++ woundK t i k).length ≤ 4000000 := by rw [List.length_append]; omega
      generalize ent t i k = z at y1 x1 KK
      clear y0 y1 gb gab hkl hil
      by_cases hz : z = 0
      · subst hz
        have K2 := Lib.hid (show woundI t i ++ woundK t i (k + 1) = woundI t i ++ woundK t i k by rw [KK.out, if_neg (by simp), List.append_nil])
        go_wp2
        exact ⟨⟨k + 1, _, rfl, by omega, by omega, by go_num, Lib.hid (by rw [K2.out]; exact OO.out), LQ, MM, BW⟩, by simp [intOf]; omega⟩
      · have K2 := Lib.hid (show woundI t i ++ woundK t i (k + 1) = woundI t i ++ woundK t i k ++ [[(i : Int), (k : Int)]] by rw [KK.out, if_pos hz, List.append_assoc])
        have hzb : (z != 0) = true := by simpa using hz
        have TW := Lib.hid (twoI wr wr.heap.size (i : Int) (k : Int) (Nat.le_refl _))
        have NX := Lib.hid (fun u => (oneRow (wr.alloc (.cells #[.int .i64 (i : Int), .int .i64 (k : Int)] 3)) u wr.heap.size (by simp)))
        have BB := Lib.hid (fun u => (((Below.refl wr.heap.size wr).alloc (Nat.le_refl _) (.cells #[.int .i64 (i : Int), .int .i64 (k : Int)] 3)).alloc (by simp) (.cells #[u] 29)))
        simp only [World.size_alloc] at NX
        have hm2 := MM.out.1
        clear hz KK
        go_wp2_with (at_builtin; refine wpList_rowR rfl (.tmp 35) (.tmp 39) rfl wr w.heap.size wr.heap.size vo (.slice (some ⟨wr.heap.size + 1, 0, none⟩) 1 1) (.slice (some ⟨wr.heap.size, 0, none⟩) 2 2) (woundI t i ++ woundK t i k) [(i : Int), (k : Int)] rfl rfl OO.out (BB.out _) (TW.out.alloc _) hsz (NX.out _) hll ?_; intro v3 w3 o3 g3 hat3; have B3 := Lib.hid (((BW.out.alloc hsz _).alloc (by simp; omega) _).grown g3 (by simp; omega) (fun q hq => (OO.out.lt q hq).1)); have M3 := Lib.hid ((MM.out.below (BB.out _)).grown g3 LQ.out); have O3 := Lib.hid (K2.out ▸ o3); have L3 := Lib.hid (show ∀ q, v3.ownBlock = some q → q < w.heap.size + 1 ∨ w2.heap.size ≤ q from fun q hq => by rcases hat3 with s | s; exact LQ.out q (s ▸ hq); rw [s] at hq; have := Option.some.inj hq; simp at this; omega); clear o3 g3 hat3)
        exact ⟨⟨k + 1, _, rfl, by omega, by omega, by go_num, O3, L3, M3, B3⟩, by simp [intOf]; omega⟩

set_option maxRecDepth 100000 in
set_option maxHeartbeats 1600000 in
theorem specUnt (n : Int) (v : Value) (ls : List RCross) (b : Nat) (w : World) (h : OwnCross w b v ls) (hl : ls.length ≤ 2000000) :
    Calls Try.prog 34 #[.int .i64 n, v] w fun e w' => e = .returned (.bool (untw n ls)) ∧ Below w.heap.size w w' := by
  have CK := Lib.hid (specCrOk n v ls b w h hl)
  have CA := Lib.hid (fun W h => specOrdA n v ls b W h hl)
  have CW := Lib.hid (fun W h => specWnd n v ls b W h hl)
  have CI := Lib.hid (fun v b W h => specInv v (ordAfter n ls) b W h (by have := ordAfter_len n ls; omega))
  obtain ⟨A, c, rfl⟩ := h.slice
  have O := Lib.hid h
  clear h
  have U := Lib.hid (show untw n ls = (crossOk n ls && (decide ((if orderOk (ordAfter n ls) = true then (invs (ordAfter n ls) : Int) else -1) = 0) && decide ((woundPs n ls).length = 0))) from rfl)
  have wl := woundPs_len n ls
  generalize (if orderOk (ordAfter n ls) = true then (invs (ordAfter n ls) : Int) else -1) = x at U CI
  generalize ordAfter n ls = zs at CA CI
  generalize woundPs n ls = ps at CW U wl
  cases hc : crossOk n ls with
  | false =>
    rw [hc] at CK
    have R := Lib.hid (show untw n ls = false by rw [U.out, hc]; rfl)
    go_enter Try.func34, Try.ntmps34
    go_wp2_with (go_at_call 42; refine CK.out.mono ?_; rintro e w1 ⟨rfl, b1⟩; have B1 := Lib.hid b1; clear b1)
    go_ret
    exact ⟨by rw [R.out]; rfl, B1.out⟩
  | true =>
  rw [hc] at CK U
  go_enter Try.func34, Try.ntmps34
  go_wp2_with fail
  refine CK.out.mono ?_
  rintro e w1 ⟨rfl, b1⟩
  have B1 := Lib.hid b1
  clear b1 CK
  go_wp2_with fail
  refine (CA.out _ (O.out.below B1.out)).mono ?_
  rintro e w2 ⟨v2, rfl, o2, b2⟩
  obtain ⟨Z, cz, rfl⟩ := o2.slice
  have O2 := Lib.hid o2
  have B2 := Lib.hid (B1.out.trans (b2.mono B1.out.size))
  clear b2 o2 B1 CA
  go_wp2_with fail
  refine (CI.out _ _ _ O2.out).mono ?_
  rintro e w3 ⟨rfl, b3⟩
  have B3 := Lib.hid (B2.out.trans (b3.mono B2.out.size))
  clear b3 O2 B2 CI
  by_cases hx : x = 0
  · subst hx
    go_wp2_with fail
    refine (CW.out _ (O.out.below B3.out)).mono ?_
    rintro e w4 ⟨v4, rfl, o4, b4⟩
    obtain ⟨P, cp, rfl⟩ := o4.slice
    have B4 := Lib.hid (B3.out.trans (b4.mono B3.out.size))
    clear b4 o4 B3 CW
    by_cases hp : ps.length = 0
    · have R := Lib.hid (show untw n ls = true by rw [U.out, hp]; rfl)
      go_wp2
      go_ret
      exact ⟨by rw [R.out]; rfl, B4.out⟩
    · have R := Lib.hid (show untw n ls = false by rw [U.out, decide_eq_false hp]; rfl)
      have hpb : ((ps.length : Int) == 0) = false := by simp; exact fun e => hp (by rw [e]; rfl)
      go_wp2
      go_ret
      exact ⟨by rw [R.out]; rfl, B4.out⟩
  · have R := Lib.hid (show untw n ls = false by rw [U.out, decide_eq_false hx]; rfl)
    have hxb : (x == 0) = false := by simpa using hx
    go_wp2
    go_ret
    exact ⟨by rw [R.out]; rfl, B3.out⟩
end Go.Proofs.Ytokgcchcjaimhaa
