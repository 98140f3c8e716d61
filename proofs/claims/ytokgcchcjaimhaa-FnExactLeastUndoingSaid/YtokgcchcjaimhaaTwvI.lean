/- The contracts of impl.WoundPairs and IsUntwisted. Condition: the crossings lie in a row of their own. -/
import Derived.Test.YtokgcchcjaimhaaTwbM
import Derived.Test.YtokgcchcjaimhaaTwbA
import Derived.Test.YtokgcchcjaimhaaTwdM
namespace Go.Proofs.Ytokgcchcjaimhaa
set_option linter.unusedVariables false
set_option linter.unusedSimpArgs false
open Go.RowKit

set_option maxRecDepth 100000 in
set_option maxHeartbeats 3200000 in
theorem implWnd (n : Int) (v : Value) (ls : List RCross) (b : Nat) (w : World) (h : OwnCross w b v ls) (hl : ls.length ≤ 2000000) :
    Calls Try.prog 21 #[.int .i64 n, v] w (RowsPost w (woundPs n ls)) := by
  have CK := Lib.hid (fun W h => implCrOk n v ls b W h hl)
  have CA := Lib.hid (fun W h => implAft n v ls b W h hl)
  obtain ⟨A, c, rfl⟩ := h.slice
  have O := Lib.hid h
  clear h
  cases hc : crossOk n ls with
  | false =>
    have R := Lib.hid (show woundPs n ls = [] by
      have e : twistTab n ls = [] := by unfold twistTab; rw [hc]; rfl
      unfold woundPs
      rw [e]
      rfl)
    rw [hc] at CK
    go_enter Try.func21, Try.ntmps21
    go_wp2_with (go_at_call 39; refine (CK.out _ O.out).mono ?_; rintro e w1 ⟨rfl, b1⟩; have B1 := Lib.hid b1; clear b1)
    go_ret
    exact ⟨_, rfl, by rw [R.out]; exact ⟨[], ⟨rfl, .inl ⟨rfl, rfl⟩⟩, rfl, fun k hk => absurd hk (by simp), fun k hk => absurd hk (by simp), fun i j hi => absurd hi (by simp)⟩, B1.out⟩
  | true =>
    obtain ⟨hn7, hnn, h40, -⟩ := ok_fits hc
    obtain ⟨N, hN⟩ : ∃ N : Nat, n = (N : Int) := ⟨n.toNat, hnn.symm⟩
    subst hN
    rw [Int.toNat_natCast] at hn7
    have CA := Lib.hid (fun W h => CA.out W h hc)
    have te : twistTab (N : Int) ls = tabTo (N : Int) ls ls.length := by unfold twistTab; rw [if_pos hc]
    have EN := Lib.hid (show ∀ p q, p < N → q < N → atI (aftTo (N : Int) ls ls.length) (p * 7 + q) = ent (twistTab (N : Int) ls) p q from fun p q hp hq => by rw [te]; exact aft_ent hc (by rw [Int.toNat_natCast]; exact hp) (by rw [Int.toNat_natCast]; exact hq) ls.length (Nat.le_refl _))
    have tl : (twistTab (N : Int) ls).length = N := by
      have := (tab_square hc ls.length (Nat.le_refl _)).len
      rw [te, this, Int.toNat_natCast]
    have al := aft_len (N : Int) ls ls.length
    have R := Lib.hid (show woundPs (N : Int) ls = woundI (twistTab (N : Int) ls) (twistTab (N : Int) ls).length from rfl)
    rw [hc] at CK
    clear te
    generalize twistTab (N : Int) ls = t at R EN tl
    generalize aftTo (N : Int) ls ls.length = T at CA EN al
    obtain ⟨hci, hca⟩ := arrT_cells T al
    have hcs : (49 : Nat) = (T.map intV).toArray.size := by simp [al]
    have HN := Lib.hid tl
    have AL := Lib.hid al
    clear hc hnn tl al
    go_enter Try.func21, Try.ntmps21
    go_wp2_with (first
      | (go_at_call 39; refine (CK.out _ O.out).mono ?_; rintro e w1 ⟨rfl, b1⟩; have B1 := Lib.hid b1; clear b1)
      | (go_at_call 40; refine (CA.out _ (O.out.below B1.out)).mono ?_; rintro e w2 ⟨rfl, b2⟩; have B2 := Lib.hid (B1.out.trans (b2.mono B1.out.size)); clear b2)
      | (refine wpList_store_new rfl 53 53 _ _ rfl _ ((T.map intV).toArray) rfl rfl hci hcs hca ?_))
    have A3 := Lib.hid (arrT_one w2 w.heap.size T AL.out B2.out.size)
    have B3 := Lib.hid (B2.out.alloc B2.out.size (.cells (T.map intV).toArray 53))
    have E3 := Lib.hid (show OwnR (w2.alloc (.cells (T.map intV).toArray 53)) (w2.heap.size + 1) (.slice none 0 0) [] from ⟨[], ⟨rfl, .inl ⟨rfl, rfl⟩⟩, rfl, fun k hk => absurd hk (by simp), fun k hk => absurd hk (by simp), fun i j hi => absurd hi (by simp)⟩)
    have hs0 := B2.out.size
    clear B1 B2 CK CA hci hca hcs
    generalize hW : w2.alloc (.cells (T.map intV).toArray 53) = w3 at A3 B3 E3 ⊢
    clear hW
    generalize w2.heap.size = g at *
    go_loopw [6, 17] (fun ov iv wr => ∃ (i : Nat) (vo : Value), vo = ov ∧ i ≤ N ∧ iv = .int .i64 (i : Int) ∧ Hid (ArrT wr w.heap.size g T) ∧ Hid (OwnR wr (g + 1) vo (woundI t i)) ∧ Hid (Below w.heap.size w wr)) (fun _ iv _ => N - (intOf iv).toNat)
    case atStart => exact ⟨0, _, rfl, by omega, rfl, A3, E3, B3⟩
    case round =>
      clear A3 E3 B3
      obtain ⟨i, vo, rfl, hi, rfl, AT, OO, BW⟩ := hrel
      by_cases hlt : i < N
      rotate_left
      · obtain rfl : i = N := by omega
        have R2 := Lib.hid (show woundPs (i : Int) ls = woundI t i by rw [R.out, HN.out])
        go_wp2
        go_ret
        exact ⟨_, rfl, by rw [R2.out]; exact OO.out.mono (by omega), BW.out⟩
      have hi0 : (0 : Int) ≤ (i : Int) := by omega
      have hi1 : (i : Int) < (N : Int) := by omega
      have hi7 : (i : Int) < 7 := by omega
      have e1 : IntKind.i64.wrap ((i : Int) + 1) = ((i + 1 : Nat) : Int) := by rw [IntWalk.i64_in _ (by omega)]; omega
      have K0 := Lib.hid (show woundI t i ++ woundK t i (i + 1) = woundI t i by rw [woundK_low t i (i + 1) (Nat.le_refl _), List.append_nil])
      have K1 := Lib.hid (show woundI t (i + 1) = woundI t i ++ woundK t i N by rw [woundI, HN.out])
      have KL := Lib.hid (fun k => woundK_len t i k)
      have IL := woundI_len t i
      rw [HN.out] at IL
      have hil : (woundI t i).length ≤ 49 := by
        have : i * N ≤ 7 * 7 := Nat.mul_le_mul (by omega) hn7.2
        omega
      have HL := Lib.hid hil
      clear IL hil
      rw [← K0.out] at OO
      go_wp2_with fail
      go_loopw [6, 8] (fun ov kv wr => ∃ (k : Nat) (vo : Value), vo = ov ∧ i + 1 ≤ k ∧ k ≤ N ∧ kv = .int .i64 (k : Int) ∧ Hid (ArrT wr w.heap.size g T) ∧ Hid (OwnR wr (g + 1) vo (woundI t i ++ woundK t i k)) ∧ Hid (Below w.heap.size w wr)) (fun _ kv _ => N - (intOf kv).toNat)
      case atStart => exact ⟨i + 1, _, rfl, Nat.le_refl _, by omega, by go_num, AT, OO, BW⟩
      case round =>
        clear OO AT BW K0 e1
        obtain ⟨k, vo, rfl, hk1, hk, rfl, AT, OO, BW⟩ := hrel
        by_cases hlk : k < N
        rotate_left
        · obtain rfl : k = N := by omega
          go_wp2
          exact ⟨⟨i + 1, _, rfl, by omega, by go_num, AT, Lib.hid (by rw [K1.out]; exact OO.out), BW⟩, by simp [intOf]; omega⟩
        have hk0 : (0 : Int) ≤ (k : Int) := by omega
        have hk3 : (k : Int) < (N : Int) := by omega
        have hk7 : (k : Int) < 7 := by omega
        have KK := Lib.hid (show woundK t i (k + 1) = woundK t i k ++ if ent t i k ≠ 0 then [[(i : Int), (k : Int)]] else [] by rw [woundK]; simp only [show i < k by omega, true_and])
        have hkl := KL.out k
        have hil := HL.out
        have x0 := (AT.out.spot (k := i * 7 + k) (by omega)).1
        rw [EN.out i k hlt hlk] at x0
        have hsz := BW.out.size
        have hgs := AT.out.lt.2
        have hll : (woundI t i ++ woundK t i k).length ≤ 4000000 := by rw [List.length_append]; omega
        generalize ent t i k = z at x0 KK
        clear hkl hil
        by_cases hz : z = 0
        · subst hz
          have K2 := Lib.hid (show woundI t i ++ woundK t i (k + 1) = woundI t i ++ woundK t i k by rw [KK.out, if_neg (by simp), List.append_nil])
          go_wp2
          exact ⟨⟨k + 1, _, rfl, by omega, by omega, by go_num, AT, Lib.hid (by rw [K2.out]; exact OO.out), BW⟩, by simp [intOf]; omega⟩
        · have K2 := Lib.hid (show woundI t i ++ woundK t i (k + 1) = woundI t i ++ woundK t i k ++ [[(i : Int), (k : Int)]] by rw [KK.out, if_pos hz, List.append_assoc])
          have hzb : (z != 0) = true := by simpa using hz
          have TW := Lib.hid (twoI wr wr.heap.size (i : Int) (k : Int) (Nat.le_refl _))
          have NX := Lib.hid (fun u => (oneRow (wr.alloc (.cells #[.int .i64 (i : Int), .int .i64 (k : Int)] 3)) u wr.heap.size (by simp)))
          have BB := Lib.hid (fun u => (((Below.refl wr.heap.size wr).alloc (Nat.le_refl _) (.cells #[.int .i64 (i : Int), .int .i64 (k : Int)] 3)).alloc (by simp) (.cells #[u] 29)))
          simp only [World.size_alloc] at NX
          clear hz KK
          go_wp2_with (at_builtin; refine wpList_rowR rfl (.tmp 33) (.tmp 37) rfl wr (g + 1) wr.heap.size vo (.slice (some ⟨wr.heap.size + 1, 0, none⟩) 1 1) (.slice (some ⟨wr.heap.size, 0, none⟩) 2 2) (woundI t i ++ woundK t i k) [(i : Int), (k : Int)] rfl rfl OO.out (BB.out _) (TW.out.alloc _) hgs (NX.out _) hll ?_; intro v3 w3 o3 g3 hat3; have B3 := Lib.hid (((BW.out.alloc hsz _).alloc (by simp; omega) _).grown g3 (by simp; omega) (fun q hq => by have := (OO.out.lt q hq).1; omega)); have M3 := Lib.hid ((AT.out.below (BB.out _)).kept g3 (fun e => by have := (OO.out.lt g e.symm).1; omega)); have O3 := Lib.hid (K2.out ▸ o3); clear o3 g3 hat3)
          exact ⟨⟨k + 1, _, rfl, by omega, by omega, by go_num, M3, O3, B3⟩, by simp [intOf]; omega⟩

set_option maxRecDepth 100000 in
set_option maxHeartbeats 1600000 in
theorem implUnt (n : Int) (v : Value) (ls : List RCross) (b : Nat) (w : World) (h : OwnCross w b v ls) (hl : ls.length ≤ 2000000) :
    Calls Try.prog 22 #[.int .i64 n, v] w fun e w' => e = .returned (.bool (untw n ls)) ∧ Below w.heap.size w w' := by
  have CK := Lib.hid (implCrOk n v ls b w h hl)
  have CW := Lib.hid (fun W h => implWnd n v ls b W h hl)
  obtain ⟨A, c, rfl⟩ := h.slice
  have O := Lib.hid h
  clear h
  have U := Lib.hid (untw_wound n ls)
  have wl := woundPs_len n ls
  generalize woundPs n ls = ps at CW U wl
  cases hc : crossOk n ls with
  | false =>
    rw [hc] at CK
    have R := Lib.hid (show untw n ls = false by rw [U.out, hc]; rfl)
    go_enter Try.func22, Try.ntmps22
    go_wp2_with (go_at_call 39; refine CK.out.mono ?_; rintro e w1 ⟨rfl, b1⟩; have B1 := Lib.hid b1; clear b1)
    go_ret
    exact ⟨by rw [R.out]; rfl, B1.out⟩
  | true =>
  rw [hc] at CK U
  go_enter Try.func22, Try.ntmps22
  go_wp2_with fail
  refine CK.out.mono ?_
  rintro e w1 ⟨rfl, b1⟩
  have B1 := Lib.hid b1
  clear b1 CK
  go_wp2_with fail
  refine (CW.out _ (O.out.below B1.out)).mono ?_
  rintro e w4 ⟨v4, rfl, o4, b4⟩
  obtain ⟨P, cp, rfl⟩ := o4.slice
  have B4 := Lib.hid (B1.out.trans (b4.mono B1.out.size))
  clear b4 o4 B1 CW
  by_cases hp : ps.length = 0
  · have R := Lib.hid (show untw n ls = true by rw [U.out, hp]; rfl)
    go_wp2
    go_ret
    exact ⟨by rw [R.out]; rfl, B4.out⟩
  · have R := Lib.hid (show untw n ls = false by rw [U.out, decide_eq_false hp]; rfl)
    have hpb : ((ps.length : Int) == 0) = false := by simp; exact fun e => hp (by rw [e]; rfl)
    go_wp2
    go_ret
    exact ⟨by rw [R.out]; rfl, B4.out⟩
end Go.Proofs.Ytokgcchcjaimhaa
