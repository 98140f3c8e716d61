/- The contracts of spec.PlayersOk, HandsFree, l13Knows, WhoKnows and LoadOf. Condition: the players and the numbers lie in rows of their own. -/
import Derived.Test.YtbgogcobkiaejaaHanM
import Derived.Test.YtbgogcobkiaejaaRisS
import Derived.Test.YtbgogcobkiaejaaRowI
import Derived.Test.YtbgogcobkiaejaaParI
import Derived.BigQuiet
import Derived.Test.YtbgogcobkiaejaaPokS
namespace Go.Proofs.Ytbgogcobkiaejaa
set_option linter.unusedVariables false
set_option linter.unusedSimpArgs false
open Go.RowKit

set_option maxRecDepth 100000 in
set_option maxHeartbeats 1600000 in
theorem specHfr (v : Value) (ls : List RPlayer) (b : Nat) (w : World) (h : OwnPlayer w b v ls) (hl : ls.length ≤ 2000000) (hr : ∀ k (hk : k < ls.length), ls[k].f0.length ≤ 2000000) :
    Calls Try.prog 23 #[v] w fun e w' => e = .returned (.int .i64 (handsFree ls)) ∧ Below w.heap.size w w' := by
  have CK := Lib.hid (specPOk v ls b w h hl hr)
  obtain ⟨A, c, rfl⟩ := h.slice
  have O := Lib.hid h
  clear h hr
  cases hok : playersOk ls with
  | false =>
    have R := Lib.hid (show handsFree ls = -1 by unfold handsFree; rw [hok]; rfl)
    rw [hok] at CK
    go_enter Try.func23, Try.ntmps23
    go_wp2_with (go_at_call 20; refine CK.out.mono ?_; rintro e w1 ⟨rfl, b1⟩; have B1 := Lib.hid b1; clear b1)
    go_ret
    exact ⟨by rw [R.out]; rfl, B1.out⟩
  | true =>
    have hn := (playersOk_has hok).1
    have R := Lib.hid (show handsFree ls = handsTo ls ls.length by unfold handsFree; rw [if_pos hok])
    have SM := Lib.hid (hands_small hok)
    have FN := Lib.hid (fun k (hk : k < ls.length) => (player_fine ((playersOk_has hok).2 k hk)).2)
    rw [hok] at CK
    clear hok
    go_enter Try.func23, Try.ntmps23
    go_wp2_with (go_at_call 20; refine CK.out.mono ?_; rintro e w1 ⟨rfl, b1⟩; have B1 := Lib.hid b1; clear b1)
    go_loopw [3, 4] (fun nv kv wr => ∃ k : Nat, k ≤ ls.length ∧ nv = .int .i64 (handsTo ls k) ∧ kv = .int .i64 (k : Int) ∧ Hid (Below w.heap.size w wr)) (fun _ kv _ => ls.length - (intOf kv).toNat)
    case atStart => exact ⟨0, by omega, rfl, rfl, B1⟩
    case round =>
      clear B1
      obtain ⟨k, hk, rfl, rfl, BW⟩ := hrel
      by_cases hlt : k < ls.length
      rotate_left
      · obtain rfl : k = ls.length := by omega
        go_wp2
        go_ret
        exact ⟨by rw [R.out]; rfl, BW.out⟩
      have hk0 : (0 : Int) ≤ (k : Int) := by omega
      have hk1 : (k : Int) < (ls.length : Int) := by omega
      obtain ⟨g, _, A1, c1, f1, -, ⟨x0, x1⟩, -, -⟩ := (O.out.below BW.out).spot hlt
      simp only [Value.slice.injEq] at f1
      obtain ⟨rfl, -, rfl⟩ := f1
      have sm := SM.out k hk
      have fn := FN.out k hlt
      have NX := Lib.hid (show handsTo ls (k + 1) = handsTo ls k + ls[k].f1 by rw [handsTo, getP hlt])
      generalize ls[k].f1 = t at x1 fn NX
      generalize handsTo ls k = s at sm NX ⊢
      have ew : IntKind.i64.wrap (s + t) = s + t := IntWalk.i64_in _ (by omega)
      go_wp2
      exact ⟨⟨k + 1, by omega, by rw [NX.out], by go_num, BW⟩, by simp [intOf]; omega⟩

set_option maxRecDepth 100000 in
set_option maxHeartbeats 1600000 in
theorem specWho (v : Value) (ls : List RPlayer) (b : Nat) (w : World) (h : OwnPlayer w b v ls) (hl : ls.length ≤ 2000000) (hr : ∀ k (hk : k < ls.length), ls[k].f0.length ≤ 2000000) (x : Int) :
    Calls Try.prog 24 #[v, .int .i64 x] w (IntsPost w (whoKnows ls x)) := by
  have CK := Lib.hid (fun W h => specPOk v ls b W h hl hr)
  obtain ⟨A, c, rfl⟩ := h.slice
  have O := Lib.hid h
  have HR := Lib.hid hr
  clear h hr
  have O0 := Lib.hid (ownI_empty w w.heap.size w.heap.size #[] rfl (Nat.le_refl _) rfl)
  have B0 := Lib.hid ((Below.refl w.heap.size w).alloc (Nat.le_refl _) (.cells #[] 3))
  cases hok : playersOk ls with
  | false =>
    have R := Lib.hid (show whoKnows ls x = [] by unfold whoKnows; rw [hok]; rfl)
    rw [hok] at CK
    go_enter Try.func24, Try.ntmps24
    go_wp2_with fail
    go_loopw [5, 6] (fun ov iv wr => ov = .slice (some ⟨w.heap.size, 0, none⟩) 0 0 ∧ iv = .int .i64 0 ∧ Hid (OwnI wr w.heap.size (.slice (some ⟨w.heap.size, 0, none⟩) 0 0) []) ∧ Hid (Below w.heap.size w wr)) (fun _ _ _ => 0)
    case atStart => exact ⟨rfl, rfl, O0, B0⟩
    case round =>
      clear O0 B0
      obtain ⟨rfl, rfl, OO, BW⟩ := hrel
      by_cases hlt : 0 < ls.length
      · have hk1 : (0 : Int) < (ls.length : Int) := by omega
        go_wp2_with (go_at_call 20; refine (CK.out _ (O.out.below BW.out)).mono ?_; rintro e w2 ⟨rfl, b2⟩; have B2 := Lib.hid (BW.out.trans (b2.mono BW.out.size)); have O2 := Lib.hid (OO.out.below b2); clear b2)
        go_ret
        exact ⟨_, rfl, by rw [R.out]; exact O2.out, B2.out⟩
      · have hk1 : ¬ (0 : Int) < (ls.length : Int) := by omega
        go_wp2
        go_ret
        exact ⟨_, rfl, by rw [R.out]; exact OO.out, BW.out⟩
  | true =>
    have hn := (playersOk_has hok).1
    have R := Lib.hid (show whoKnows ls x = whoTo ls x ls.length by unfold whoKnows; rw [if_pos hok])
    rw [hok] at CK
    clear hok
    go_enter Try.func24, Try.ntmps24
    go_wp2_with fail
    go_loopw [5, 6] (fun ov kv wr => ∃ (k : Nat) (vo : Value), vo = ov ∧ k ≤ ls.length ∧ kv = .int .i64 (k : Int) ∧ Hid (OwnI wr w.heap.size vo (whoTo ls x k)) ∧ Hid (Below w.heap.size w wr)) (fun _ kv _ => ls.length - (intOf kv).toNat)
    case atStart => exact ⟨0, _, rfl, by omega, rfl, O0, B0⟩
    case round =>
      clear O0 B0
      obtain ⟨k, vo, rfl, hk, rfl, OO, BW⟩ := hrel
      by_cases hlt : k < ls.length
      rotate_left
      · obtain rfl : k = ls.length := by omega
        rw [← R.out] at OO
        go_wp2
        go_ret
        exact ⟨_, rfl, OO.out, BW.out⟩
      have hk0 : (0 : Int) ≤ (k : Int) := by omega
      have hk1 : (k : Int) < (ls.length : Int) := by omega
      have hbs := BW.out.size
      obtain ⟨g, _, A1, c1, f1, -, ⟨x0, x1⟩, o1, -⟩ := (O.out.below BW.out).spot hlt
      simp only [Value.slice.injEq] at f1
      obtain ⟨rfl, -, rfl⟩ := f1
      have XC := Lib.hid (fun W (hb : Below wr.heap.size wr W) => And.intro (cell_below x0 hb) (cell_below x1 hb))
      have KN := Lib.hid (fun W (hb : Below wr.heap.size wr W) => specKno ls[k] (.slice A1 ls[k].f0.length c1) x b W (o1.below hb) (HR.out k hlt))
      have NX := Lib.hid (show whoTo ls x (k + 1) = if knowsB ls[k] x = true then whoTo ls x k ++ [(k : Int)] else whoTo ls x k by rw [whoTo, getP hlt])
      have wl := who_len ls x k
      clear o1 x0 x1
      generalize ls[k].f0.length = n1 at XC KN
      generalize ls[k].f1 = t1 at XC KN
      cases hkb : knowsB ls[k] x with
      | false =>
        rw [hkb] at KN
        rw [hkb, if_neg (by simp)] at NX
        go_wp2_with fail
        refine (CK.out _ (O.out.below BW.out)).mono ?_
        rintro e w2 ⟨rfl, b2⟩
        obtain ⟨x0, x1⟩ := XC.out _ b2
        have B2 := Lib.hid b2
        clear b2
        go_wp2_with fail
        refine (KN.out _ B2.out).mono ?_
        rintro e w3 ⟨rfl, b3⟩
        have B3 := Lib.hid (B2.out.trans (b3.mono B2.out.size))
        have O3 := Lib.hid (show OwnI w3 w.heap.size vo (whoTo ls x (k + 1)) by rw [NX.out]; exact OO.out.below B3.out)
        have B4 := Lib.hid (BW.out.trans (B3.out.mono hbs))
        clear b3 KN CK NX x0 x1 B2 B3 OO BW
        go_wp2
        exact ⟨⟨k + 1, _, rfl, by omega, by go_num, O3, B4⟩, by simp [intOf]; omega⟩
      | true =>
        rw [hkb] at KN
        rw [hkb, if_pos rfl] at NX
        go_wp2_with fail
        refine (CK.out _ (O.out.below BW.out)).mono ?_
        rintro e w2 ⟨rfl, b2⟩
        obtain ⟨x0, x1⟩ := XC.out _ b2
        have B2 := Lib.hid b2
        clear b2
        go_wp2_with fail
        refine (KN.out _ B2.out).mono ?_
        rintro e w3 ⟨rfl, b3⟩
        have B3 := Lib.hid (B2.out.trans (b3.mono B2.out.size))
        have O3 := Lib.hid (OO.out.below B3.out)
        have B4 := Lib.hid (BW.out.trans (B3.out.mono hbs))
        have hs4 := B4.out.size
        have ON := Lib.hid (oneI w3 w3.heap.size (k : Int) (Nat.le_refl _))
        clear b3 KN CK x0 x1 B2 B3 OO BW
        go_wp2_with (at_builtin; refine wpList_rowsI rfl (.tmp 24) (.tmp 26) rfl w.heap.size w3.heap.size _ _ (whoTo ls x k) [(k : Int)] rfl rfl (O3.out.alloc _) ON.out ?_ ?_ ?_; (simp <;> omega); (simp <;> omega); intro v4 w4 o4 g4 hat4)
        have B5 := Lib.hid (madeR (B4.out.alloc hs4 _) (by simp; omega) (O3.out.alloc _) g4)
        have O5 : Hid (OwnI w4 w.heap.size v4 (whoTo ls x (k + 1))) := Lib.hid (NX.out ▸ o4)
        exact ⟨⟨k + 1, _, rfl, by omega, by go_num, O5, B5⟩, by simp [intOf] <;> omega⟩
end Go.Proofs.Ytbgogcobkiaejaa
