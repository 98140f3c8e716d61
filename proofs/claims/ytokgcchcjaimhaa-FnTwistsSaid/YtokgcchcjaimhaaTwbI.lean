/- The contract of impl.TwistTable. Condition: the crossings lie in a row of their own. -/
import Derived.Test.YtokgcchcjaimhaaTwbM
import Derived.Test.YtokgcchcjaimhaaTwbA
import Derived.Test.YtokgcchcjaimhaaTwdM
namespace Go.Proofs.Ytokgcchcjaimhaa
set_option linter.unusedVariables false
set_option linter.unusedSimpArgs false
open Go.RowKit

set_option maxRecDepth 100000 in
set_option maxHeartbeats 3200000 in
theorem implTab (n : Int) (v : Value) (ls : List RCross) (b : Nat) (w : World) (h : OwnCross w b v ls) (hl : ls.length ≤ 2000000) :
    Calls Try.prog 12 #[.int .i64 n, v] w (RowsPost w (twistTab n ls)) := by
  have CK := Lib.hid (fun W h => implCrOk n v ls b W h hl)
  have CA := Lib.hid (fun W h => implAft n v ls b W h hl)
  obtain ⟨A, c, rfl⟩ := h.slice
  have O := Lib.hid h
  clear h
  cases hc : crossOk n ls with
  | false =>
    have R := Lib.hid (show twistTab n ls = [] by unfold twistTab; rw [hc]; rfl)
    rw [hc] at CK
    go_enter Try.func12, Try.ntmps12
    go_wp2_with (go_at_call 39; refine (CK.out _ O.out).mono ?_; rintro e w1 ⟨rfl, b1⟩; have B1 := Lib.hid b1; clear b1)
    go_ret
    exact ⟨_, rfl, by rw [R.out]; exact ⟨[], ⟨rfl, .inl ⟨rfl, rfl⟩⟩, rfl, fun k hk => absurd hk (by simp), fun k hk => absurd hk (by simp), fun i j hi => absurd hi (by simp)⟩, B1.out⟩
  | true =>
    obtain ⟨i, hi, hz, hs, hb⟩ := info_parts info_ints
    obtain ⟨hn7, hnn, h40, -⟩ := ok_fits hc
    obtain ⟨N, hN⟩ : ∃ N : Nat, n = (N : Int) := ⟨n.toNat, hnn.symm⟩
    subst hN
    rw [Int.toNat_natCast] at hn7
    have CA := Lib.hid (fun W h => CA.out W h hc)
    have RW := Lib.hid (show ∀ i, i < N → ((aftTo (N : Int) ls ls.length).drop (i * 7)).take N = (twistTab (N : Int) ls).getD i [] from fun i hi => by have := aft_row hc (i := i) (by rw [Int.toNat_natCast]; exact hi); rwa [Int.toNat_natCast] at this)
    have tl : (twistTab (N : Int) ls).length = N := by
      have := (tab_square hc ls.length (Nat.le_refl _)).len
      unfold twistTab
      rw [if_pos hc, this, Int.toNat_natCast]
    have al := aft_len (N : Int) ls ls.length
    rw [hc] at CK
    generalize twistTab (N : Int) ls = t at RW tl ⊢
    generalize aftTo (N : Int) ls ls.length = T at CA RW al
    obtain ⟨hci, hca⟩ := arrT_cells T al
    have hcs : (49 : Nat) = (T.map intV).toArray.size := by simp [al]
    have TL := Lib.hid tl
    have AL := Lib.hid al
    clear hc hnn tl al
    go_enter Try.func12, Try.ntmps12
    go_wp2_with (first
      | (go_at_call 39; refine (CK.out _ O.out).mono ?_; rintro e w1 ⟨rfl, b1⟩; have B1 := Lib.hid b1; clear b1)
      | (go_at_call 40; refine (CA.out _ (O.out.below B1.out)).mono ?_; rintro e w2 ⟨rfl, b2⟩; have B2 := Lib.hid (B1.out.trans (b2.mono B1.out.size)); clear b2)
      | (refine wpList_store_new rfl 53 53 _ _ rfl _ ((T.map intV).toArray) rfl rfl hci hcs hca ?_)
      | (refine wpList_make_full _ rfl _ _ 27 rfl (w2.heap.size + 1) 29 i (.slice none 0 0) 1 Try.underlying27 hi hz hs .i64 .i64 _ _ N rfl rfl rfl rfl (by rw [hb]; omega) (by simp only [maxLen]; omega) (by simp) ?_; intro w3 own3 grown3))
    have P3 := Lib.hid (show OwnR w3 (w2.heap.size + 1) (.slice (some ⟨w2.heap.size + 1, 0, none⟩) N N) (t.take 0 ++ List.replicate (N - 0) []) by
      have e : (madeCells (Value.slice none 0 0).cells (N * 1)).toList = List.replicate N (.slice none 0 0) := by
        simp only [Value.cells, Nat.mul_one, toList_madeCells_one]
      rw [e] at own3
      simpa using ownR_made own3)
    have g3 := below_of_grown grown3
    have A3 := Lib.hid ((arrT_one w2 w.heap.size T AL.out B2.out.size).below g3)
    have B3 := Lib.hid ((B2.out.alloc B2.out.size (.cells (T.map intV).toArray 53)).trans (g3.mono (by have := B2.out.size; simp; omega)))
    have hs0 := B2.out.size
    clear B1 B2 CK CA own3 grown3 g3
    generalize w2.heap.size = g at *
    go_loopw [19] (fun iv wr => ∃ k : Nat, k ≤ N ∧ iv = .int .i64 (k : Int) ∧ Hid (ArrT wr w.heap.size g T) ∧ Hid (OwnR wr (g + 1) (.slice (some ⟨g + 1, 0, none⟩) N N) (t.take k ++ List.replicate (N - k) [])) ∧ Hid (Below w.heap.size w wr)) (fun iv _ => N - (intOf iv).toNat)
    case atStart => exact ⟨0, by omega, rfl, A3, P3, B3⟩
    case round =>
      clear A3 P3 B3
      obtain ⟨k, hk, rfl, AT, OP, BW⟩ := hrel
      have htl := TL.out
      by_cases hlt : k < N
      rotate_left
      · obtain rfl : k = N := by omega
        have F := Lib.hid (show OwnR wr w.heap.size (.slice (some ⟨g + 1, 0, none⟩) k k) t by have := OP.out; rw [List.take_of_length_le (by omega), Nat.sub_self, List.replicate_zero, List.append_nil] at this; exact this.mono (by omega))
        clear htl
        go_wp2
        go_ret
        exact ⟨_, rfl, F.out, BW.out⟩
      have hk0 : (0 : Int) ≤ (k : Int) := by omega
      have hk1 : (k : Int) < 7 := by omega
      have hk2 : (k : Int) < (N : Int) := by omega
      have hN0 : (0 : Int) ≤ (N : Int) := by omega
      have hN7 : (N : Int) ≤ 7 := by omega
      have PT := Lib.hid (show PartI wr (.slice (some ⟨g, k * 7, none⟩) N 7) (t.getD k []) by rw [← RW.out k hlt]; exact AT.out.part (by omega))
      have pl : (t.getD k []).length = N := by
        rw [← RW.out k hlt, List.length_take, List.length_drop, AL.out]
        omega
      have HLen := Lib.hid (show (t.take k ++ List.replicate (N - k) []).length = N by rw [List.length_append, List.length_replicate, List.length_take]; omega)
      have PUT := Lib.hid (show (t.take k ++ List.replicate (N - k) []).set k (t.getD k []) = t.take (k + 1) ++ List.replicate (N - (k + 1)) [] by
        rw [put_step [] _ _ N k (by rw [List.length_take]; omega) hlt, List.take_succ_eq_append_getElem (by omega), getD_row (by omega)])
      have CL := Lib.hid (cloneP_any _ _ wr PT.out (by omega))
      have hbs := BW.out.size
      have htop := (OP.out.lt _ rfl).2
      generalize t.getD k [] = ys at PT pl PUT CL
      have PL := Lib.hid pl
      clear pl htl PT
      go_wp2_with fail
      refine CL.out.mono ?_
      rintro e w4 ⟨u, rfl, o4, b4⟩
      obtain ⟨U, cu, rfl⟩ := o4.slice
      have ST := OwnR.set (k := k) (g := g + 1) (c := N) (base := g + 1) (zss := t.take k ++ List.replicate (N - k) []) (w := w4) (u := .slice U ys.length cu) (by rw [HLen.out]; exact OP.out) b4 o4 (by omega) (by rw [HLen.out]; exact hlt)
      rw [PUT.out, HLen.out] at ST
      obtain ⟨_, _, A', c', e2, xc, xf, _⟩ := (OP.out.below b4).spot (k := k) (by rw [HLen.out]; exact hlt)
      simp only [Value.slice.injEq, Option.some.injEq, Addr.mk.injEq] at e2
      obtain ⟨⟨rfl, _⟩, -, -⟩ := e2
      obtain ⟨tt, ht⟩ : ∃ tt, w4.cell? ⟨g + 1, k, none⟩ = some tt := ⟨_, xc⟩
      have A4 := Lib.hid ((AT.out.below b4).kept ST.2 (by simp))
      have B4 := Lib.hid ((BW.out.trans (b4.mono hbs)).grown ST.2 (Nat.le_trans hbs b4.size) (fun q hq => by have := Option.some.inj hq; omega))
      have S4 := Lib.hid ST.1
      rw [PL.out] at S4 ⊢
      rw [PL.out] at A4 B4
      clear xc ST o4 b4 OP AT BW
      go_wp2
      exact ⟨⟨k + 1, by omega, by go_num, A4, S4, B4⟩, by simp [intOf]; omega⟩
end Go.Proofs.Ytokgcchcjaimhaa
