/- The contract of spec.DrawPlayers. No condition. -/
import Derived.Test.YtjpalndcfaeihaaPupS
namespace Go.Proofs.Ytjpalndcfaeihaa
set_option linter.unusedVariables false
set_option linter.unusedSimpArgs false
open Go.RowKit

set_option maxRecDepth 100000 in
set_option maxHeartbeats 3200000 in
theorem drawPlayers_any (a : Option Addr) (n cap : Nat) (z : List Int) (w : World) (hr : IsRow .u8 w a n cap z) (hn : n ≤ 1048576) :
    Calls Try.prog 10 #[.slice a n cap] w fun e w' => ∃ (v u : Value) (ls : List RPlayer) (ps : List Int), e = .returned (.tuple #[v, u]) ∧ OwnPlayer w' w.heap.size v ls ∧ OwnI w' w.heap.size u ps ∧ (1 ≤ ls.length ∧ ls.length ≤ 5) ∧ (∀ l ∈ ls, GoodPlayer l) ∧ Asc 6 ps ∧ Below w.heap.size w w' := by
  have C1 := Lib.hid (new_any w a n cap z hr hn)
  have C2 := Lib.hid (fun w' b h => players_any w a n cap z hr w' b h)
  have ON := Lib.hid (fun m W b h => once_any w a n cap z hr W b h m)
  clear hr
  go_enter Try.func10, Try.ntmps10
  go_wp2_with fail
  refine C1.out.mono ?_
  rintro e w1 ⟨b, rfl, s1⟩
  have S1 := Lib.hid s1
  clear s1
  go_wp2_with fail
  refine (C2.out _ _ S1.out).mono ?_
  rintro e w2 ⟨v, ls, rfl, hl, hg, k2⟩
  obtain ⟨V, c, rfl⟩ := k2.out.slice
  have HG := Lib.hid hg
  have U0 := Lib.hid (show PupK w w1 (.slice V ls.length c) ls n cap a b w2.heap.size (.slice (some ⟨w2.heap.size, 0, none⟩) 0 0) [] (w2.alloc (.cells #[] 3)) from
    ⟨(held_of k2.out).below ((Below.refl _ _).alloc (Nat.le_refl _) _), ownI_empty w2 w2.heap.size w2.heap.size #[] rfl (Nat.le_refl _) rfl, k2.st.alloc _, k2.cu, k2.gr.size, by simp, k2.le⟩)
  clear k2 hg S1 C1 C2 hn
  go_wp2_with fail
  go_loopw [6, 7] (fun uv jv wr => ∃ (j : Nat) (u : Value) (zs : List Int), j ≤ 6 ∧ u = uv ∧ jv = .int .i64 (j : Int) ∧ Hid (Asc (j : Int) zs) ∧ Hid (PupK w w1 (.slice V ls.length c) ls n cap a b w2.heap.size u zs wr)) (fun _ jv _ => 6 - (intOf jv).toNat)
  case atStart => exact ⟨0, _, [], by omega, rfl, rfl, Lib.hid (asc_nil _), U0⟩
  case round =>
    clear U0
    obtain ⟨j, u, zs, hj, rfl, rfl, HA, HK⟩ := hrel
    obtain ⟨U, d, rfl⟩ := HK.out.out.slice
    by_cases hlj : j < 6
    rotate_left
    · obtain rfl : j = 6 := by omega
      have F := Lib.hid (show OwnPlayer wr w.heap.size (.slice V ls.length c) ls ∧ OwnI wr w.heap.size (.slice U zs.length d) zs ∧ Below w.heap.size w wr from
        ⟨OwnPlayer.mono (show OwnPlayer wr w1.heap.size _ ls from HK.out.pl.own) HK.out.le, HK.out.out.mono (Nat.le_trans HK.out.le HK.out.bs), HK.out.st.below⟩)
      clear HK
      go_wp2
      go_ret2
      exact ⟨_, _, ls, zs, rfl, F.out.1, F.out.2.1, hl, HG.out, HA.out, F.out.2.2⟩
    have hj1 : (j : Int) < 6 := by omega
    go_wp2_with fail
    refine (ON.out 3 _ _ HK.out.st).mono ?_
    rintro e w3 ⟨t, rfl, st3, g3⟩
    have K3 := Lib.hid (HK.out.draw st3 g3)
    clear st3 g3 HK
    cases t with
    | false =>
      go_wp2
      exact ⟨⟨j + 1, _, zs, by omega, rfl, by go_num, Lib.hid (asc_more HA.out), K3⟩, by simp [intOf]; omega⟩
    | true =>
      have hl1 := asc_len HA.out
      have O1 := Lib.hid K3.out.out
      have NW := Lib.hid (oneI w3 w3.heap.size (j : Int) (Nat.le_refl _))
      have hs3 := K3.out.sz
      go_wp2_with (
        at_builtin
        refine wpList_rowsI rfl (.tmp 19) (.tmp 21) rfl w2.heap.size w3.heap.size _ _ zs [(j : Int)] rfl rfl (O1.out.alloc _) NW.out ?_ ?_ ?_
        (simp; omega)
        (simp; omega)
        intro v4 w4 o4 g4 hat4
        have K4 := Lib.hid (K3.out.more _ o4 g4)
        clear o4 g4 hat4)
      exact ⟨⟨j + 1, _, zs ++ [(j : Int)], by omega, rfl, by go_num, Lib.hid (asc_snoc HA.out (by omega)), K4⟩, by simp [intOf]; omega⟩
end Go.Proofs.Ytjpalndcfaeihaa
