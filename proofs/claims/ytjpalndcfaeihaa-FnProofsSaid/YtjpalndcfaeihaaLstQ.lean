/- The contracts of spec.l13List and spec.DrawPlayers: what they draw are valid players, five at most, and rising puppets. Condition: the bytes can be read. -/
import Derived.Test.YtjpalndcfaeihaaPlrK
import Derived.Test.YtjpalndcfaeihaaPlayerA
import Derived.Test.YtjpalndcfaeihaaOnce
import Derived.Test.YtjpalndcfaeihaaStO
import Derived.Test.YtjpalndcfaeihaaPkI
import Derived.Test.YtjpalndcfaeihaaParI
import Derived.Test.YtjpalndcfaeihaaAscM
import Derived.Deep.RegionHeld3
import Derived.BigQuiet
namespace Go.Proofs.Ytjpalndcfaeihaa
set_option linter.unusedVariables false
set_option linter.unusedSimpArgs false
open Go.RowKit

set_option maxRecDepth 100000 in
set_option maxHeartbeats 3200000 in
theorem players_any (w0 : World) (a : Option Addr) (n cap : Nat) (z : List Int) (hr : IsRow .u8 w0 a n cap z) (w : World) (b : Nat) (hs : St w0 a n cap w b) :
    Calls Try.prog 33 #[.pointer (some ⟨b, 0, none⟩)] w (PlsPost w0 a n cap w b) := by
  have BE := Lib.hid (fun m W h => below_any w0 a n cap z hr W b h m)
  have PK := Lib.hid (fun W h => pickInt_any w0 a n cap z hr W b h)
  have ON := Lib.hid (fun m W h => once_any w0 a n cap z hr W b h m)
  have hsz := hs.below.size
  have hlt := hs.cur.lt
  have K0 := Lib.hid (show PlsK w0 a n cap w b (.slice (some ⟨w.heap.size, 0, none⟩) 0 0) [] (w.alloc (.cells #[] 57)) from
    ⟨emptyPlayer w w.heap.size w.heap.size #[] rfl (by omega) rfl, hs.alloc _, grown_of_below ((Below.refl w.heap.size w).alloc (Nat.le_refl _) _) _, hsz, hlt⟩)
  clear hr hs
  go_enter Try.func33, Try.ntmps33
  go_wp2_with fail
  refine (BE.out 5 _ K0.out.st).mono ?_
  rintro e w1 ⟨q, rfl, ⟨hq0, hq1, -⟩, st1, g1⟩
  have hq4 := hq1 (by omega)
  obtain ⟨q, rfl⟩ := Int.eq_ofNat_of_zero_le hq0
  have K1 := Lib.hid (K0.out.draw st1 g1)
  clear st1 g1 hq1 K0
  obtain ⟨N, hN⟩ : ∃ N : Nat, N = 1 + q := ⟨_, rfl⟩
  have e1 : IntKind.i64.wrap (1 + (q : Int)) = (N : Int) := by rw [IntWalk.i64_in _ (by omega)]; omega
  have hN7 : 1 ≤ N ∧ N ≤ 5 := by omega
  clear hq0 hq4 hN hsz hlt
  go_wp2_with fail
  go_loopw [3, 5] (fun ov kv wr => ∃ (ls : List RPlayer) (v : Value), v = ov ∧ ls.length ≤ N ∧ kv = .int .i64 (ls.length : Int) ∧ Hid (∀ l ∈ ls, GoodPlayer l) ∧ Hid (PlsK w0 a n cap w b v ls wr)) (fun _ kv _ => N - (intOf kv).toNat)
  case atStart => exact ⟨[], _, rfl, by simp, rfl, Lib.hid (fun k hk => absurd hk (by simp)), K1⟩
  case round =>
    clear K1
    obtain ⟨ls, v, rfl, hj, rfl, HG, HK⟩ := hrel
    by_cases hlt : ls.length < N
    rotate_left
    · obtain rfl : N = ls.length := by omega
      obtain ⟨V, c, rfl⟩ := HK.out.out.slice
      go_wp2
      go_ret
      exact ⟨_, ls, rfl, hN7, HG.out, HK.out⟩
    have hk1 : (ls.length : Int) < (N : Int) := by omega
    obtain ⟨V, c, rfl⟩ := HK.out.out.slice
    have KA := Lib.hid (HK.out.alloc (.cells #[.int .i64 0, .int .i64 1, .int .i64 1, .int .i64 2, .int .i64 2] 3))
    have hbn : wr.heap.size ≠ b := by have := HK.out.cu; have := HK.out.gr.size; omega
    clear HK
    go_wp2_with fail
    refine (PK.out _ KA.out.st wr.heap.size [0, 1, 1, 2, 2] (by decide) (by decide) hbn (heap_alloc_new wr _)).mono ?_
    rintro e w2 ⟨y, rfl, hy, st2, g2⟩
    have hy2 : 0 ≤ y ∧ y ≤ 2 := by simp at hy; omega
    have HK2 := Lib.hid (KA.out.draw st2 g2)
    clear st2 g2 hy KA hbn
    have R2 := Lib.hid (HK2.out.born y)
    have X2 := Lib.hid (boxPlayer w2 y w2.heap.size (Nat.le_refl _))
    go_wp2_with fail
    go_loopw [7] (fun jv wx => ∃ (j : Nat) (l : RPlayer), j ≤ 6 ∧ jv = .int .i64 (j : Int) ∧ Hid (l.f1 = y ∧ Asc (j : Int) l.f0) ∧ Hid (PlrK w0 a n cap w b (.slice V ls.length c) ls w2.heap.size wx) ∧ Hid (OwnPlayer wx w2.heap.size (.slice (some ⟨w2.heap.size, 0, none⟩) 1 1) [l])) (fun jv _ => 6 - (intOf jv).toNat)
    case atStart => exact ⟨0, ⟨[], y⟩, by omega, rfl, Lib.hid ⟨rfl, asc_nil _⟩, R2, X2⟩
    case round =>
      clear R2 X2
      obtain ⟨j, l, hj, rfl, HF, HR, HX⟩ := hrel
      by_cases hjl : j < 6
      rotate_left
      · obtain rfl : j = 6 := by omega
        obtain ⟨A1, c1, ⟨x0, x1⟩, o1, hg0, hg1⟩ := boxedPl HX.out
        have GL := Lib.hid (show GoodPlayer l from ⟨by have := HF.out.1; omega, HF.out.2⟩)
        have O1 := Lib.hid o1
        have hs3 := HR.out.sz
        have hb3 := HR.out.bs
        have OR := Lib.hid (onePlayerRow wr l.f1 (.slice A1 l.f0.length c1) wr.heap.size (Nat.le_refl _))
        clear o1 HF HX
        go_wp2_with (
          at_builtin
          refine wpList_onePlayer rfl (.tmp 33) (.tmp 35) rfl w.heap.size w2.heap.size wr.heap.size _ _ _ ls l rfl rfl (HR.out.alloc _).out hb3 ?_ (O1.out.alloc _) OR.out ?_ ?_
          (simp; omega)
          (omega)
          intro v4 w4 o4 g4 hat4
          have K4 := Lib.hid ((HR.out.alloc _).done o4 g4)
          clear o4 g4 hat4)
        exact ⟨⟨ls ++ [l], _, rfl, by (rw [List.length_append]; exact hlt), by simp, Lib.hid (good_one HG.out GL.out), K4⟩, by simp [intOf]; omega⟩
      have hj1 : (j : Int) < 6 := by omega
      go_wp2_with fail
      refine (ON.out 2 _ HR.out.st).mono ?_
      rintro e w3 ⟨t, rfl, st3, g3⟩
      have R3 := Lib.hid (HR.out.draw st3 g3)
      have X3 := Lib.hid (HX.out.older g3 (fun k hk => by have := Option.some.inj hk; have := HR.out.cu; have := HR.out.bs; omega))
      clear st3 g3 HR HX
      cases t with
      | false =>
        go_wp2
        exact ⟨⟨j + 1, l, by omega, by go_num, Lib.hid ⟨HF.out.1, asc_more HF.out.2⟩, R3, X3⟩, by simp [intOf]; omega⟩
      | true =>
        obtain ⟨A1, c1, ⟨x0, x1⟩, o1, hg0, hg1⟩ := boxedPl X3.out
        have hl1 := asc_len HF.out.2
        have O1 := Lib.hid o1
        have NW := Lib.hid (oneI w3 w3.heap.size (j : Int) (Nat.le_refl _))
        have hs3 := R3.out.sz
        clear x1 o1
        go_wp2_with (
          at_builtin
          refine wpList_rowsI rfl (.tmp 28) (.tmp 30) rfl w2.heap.size w3.heap.size _ _ l.f0 [(j : Int)] rfl rfl (O1.out.alloc _) NW.out ?_ ?_ ?_
          (simp; omega)
          (simp; omega)
          intro v4 w4 o4 g4 hat4
          obtain ⟨A4, c4, rfl⟩ := o4.slice
          obtain ⟨s4, h4, x4, f4⟩ := swapPl X3.out x0 ((Below.refl _ _).alloc (Nat.le_refl _) _) g4 o4 hat4
          have R4 := Lib.hid (((R3.out.alloc _).step g4 (fun k hk => (O1.out.lt k hk).1)).step h4 (fun k hk => by have := Option.some.inj hk; omega))
          have X4 := Lib.hid s4
          have e4 : (l.f0 ++ [(j : Int)]).length = l.f0.length + 1 := by simp
          rw [e4] at R4 X4
          clear s4 h4 g4 o4 hat4 x0 e4)
        exact ⟨⟨j + 1, { l with f0 := l.f0 ++ [(j : Int)] }, by omega, by go_num, Lib.hid ⟨HF.out.1, asc_snoc HF.out.2 (by omega)⟩, R4, X4⟩, by simp [intOf]; omega⟩
end Go.Proofs.Ytjpalndcfaeihaa
