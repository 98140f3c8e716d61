/- The contracts of the program's PlayersOk and WhoKnows. Condition: the players lie in a row of their own. -/
import Derived.Test.YtanlfkkmnnjpeaaHanM
import Derived.Test.YtanlfkkmnnjpeaaRsjI
import Derived.Test.YtanlfkkmnnjpeaaConN
import Derived.Test.YtanlfkkmnnjpeaaRowI
import Derived.Test.YtanlfkkmnnjpeaaParI
import Derived.BigQuiet
namespace Go.Proofs.Ytanlfkkmnnjpeaa
set_option linter.unusedVariables false
set_option linter.unusedSimpArgs false
open Go.RowKit

set_option maxRecDepth 100000 in
set_option maxHeartbeats 1600000 in
theorem implPOk (v : Value) (ls : List RPlayer) (b : Nat) (w : World) (h : OwnPlayer w b v ls) (hl : ls.length ≤ 2000000) (hr : ∀ k (hk : k < ls.length), ls[k].f0.length ≤ 2000000) :
    Calls Try.prog 51 #[v] w fun e w' => e = .returned (.bool (playersOk ls)) ∧ Below w.heap.size w w' := by
  have C0 := Lib.hid (fun v lo hi W => (inRange_any v lo hi W).mono fun e w' h => (show _ ∧ W = w' from ⟨h.1, h.2.symm⟩))
  obtain ⟨A, c, rfl⟩ := h.slice
  have O := Lib.hid h
  have HR := Lib.hid hr
  have R0 := Lib.hid (fun k (hk : k < ls.length) h => playersOk_bad hk h)
  have C1 := Lib.hid (C0.out (ls.length : Int) 1 6 w)
  clear h hr
  cases hin : inB (ls.length : Int) 1 6 with
  | false =>
    have R := Lib.hid (show playersOk ls = false by unfold playersOk; rw [hin, Bool.and_false])
    rw [hin] at C1
    clear hin
    go_enter Try.func51, Try.ntmps51
    go_wp2_with (go_at_call 52; refine C1.out.mono ?_; rintro e w' ⟨rfl, rfl⟩)
    go_ret
    exact ⟨by rw [R.out]; rfl, Below.refl _ _⟩
  | true =>
    have R1 := Lib.hid (fun (h : ∀ k (hk : k < ls.length), playerFine ls[k] = true) => (playersOk_all h).trans hin)
    rw [hin] at C1
    clear hin
    go_enter Try.func51, Try.ntmps51
    go_wp2_with (go_at_call 52; refine C1.out.mono ?_; rintro e w' ⟨rfl, rfl⟩)
    go_loopw [11] (fun iv wr => ∃ k : Nat, k ≤ ls.length ∧ iv = .int .i64 (k : Int) ∧ Hid (∀ i (hi : i < ls.length), i < k → playerFine ls[i] = true) ∧ Hid (Below w.heap.size w wr)) (fun iv _ => ls.length - (intOf iv).toNat)
    case atStart => exact ⟨0, by omega, rfl, Lib.hid (fun i hi h => absurd h (by omega)), Lib.hid (Below.refl _ _)⟩
    case round =>
      obtain ⟨k, hk, rfl, HN, BW⟩ := hrel
      by_cases hlt : k < ls.length
      rotate_left
      · obtain rfl : k = ls.length := by omega
        have R := Lib.hid (R1.out (fun i hi => HN.out i hi hi))
        go_wp2
        go_ret
        exact ⟨by rw [R.out]; rfl, BW.out⟩
      have hk0 : (0 : Int) ≤ (k : Int) := by omega
      have hk1 : (k : Int) < (ls.length : Int) := by omega
      obtain ⟨g, _, A1, c1, f1, -, ⟨x0, x1⟩, o1, -⟩ := (O.out.below BW.out).spot hlt
      simp only [Value.slice.injEq] at f1
      obtain ⟨rfl, -, rfl⟩ := f1
      have NX := Lib.hid (show playerFine ls[k] = true → ∀ i (hi : i < ls.length), i < k + 1 → playerFine ls[i] = true from fun h i hi hik => by
        rcases (by omega : i < k ∨ i = k) with q | rfl
        · exact HN.out i hi q
        · exact h)
      have RX := Lib.hid (R0.out k hlt)
      have AT := Lib.hid (show playerFine ls[k] = (rising ls[k].f0 6 && inB ls[k].f1 0 2) from rfl)
      have hbs := BW.out.size
      have hrk := HR.out k hlt
      generalize ls[k].f1 = t at x1 AT
      generalize ls[k].f0 = zs at x0 o1 AT hrk
      generalize playerFine ls[k] = pf at NX RX AT
      have BA := Lib.hid (BW.out.alloc hbs (.cells #[.slice A1 zs.length c1, .int .i64 t] 71))
      have CP := Lib.hid (implPup (.slice A1 zs.length c1) zs b (wr.alloc (.cells #[.slice A1 zs.length c1, .int .i64 t] 71)) (o1.alloc _) hrk)
      have C2 := Lib.hid (fun W => C0.out t 0 2 W)
      cases hris : rising zs 6 with
      | false =>
        have R := Lib.hid (RX.out (by rw [AT.out, hris]; rfl))
        rw [hris] at CP
        clear hris NX AT o1
        go_wp2_with (go_at_call 53; refine CP.out.mono ?_; rintro e w' ⟨rfl, rfl⟩)
        go_ret
        exact ⟨by rw [R.out]; rfl, BA.out⟩
      | true =>
        rw [hris] at CP
        cases hin : inB t 0 2 with
        | false =>
          have R := Lib.hid (RX.out (by rw [AT.out, hris, hin]; rfl))
          rw [hin] at C2
          clear hris hin NX AT o1
          go_wp2_with (first | (go_at_call 53; refine CP.out.mono ?_; rintro e w' ⟨rfl, rfl⟩) | (go_at_call 52; refine (C2.out _).mono ?_; rintro e w' ⟨rfl, rfl⟩))
          go_ret
          exact ⟨by rw [R.out]; rfl, BA.out⟩
        | true =>
          have N2 := Lib.hid (NX.out (by rw [AT.out, hris, hin]; rfl))
          rw [hin] at C2
          clear hris hin NX AT o1
          go_wp2_with (first | (go_at_call 53; refine CP.out.mono ?_; rintro e w' ⟨rfl, rfl⟩) | (go_at_call 52; refine (C2.out _).mono ?_; rintro e w' ⟨rfl, rfl⟩))
          exact ⟨⟨k + 1, by omega, by go_num, N2, BA⟩, by simp [intOf]; omega⟩

theorem knows_has (l : RPlayer) (x : Int) : hasZ l.f0 x = knowsB l x := rfl

set_option maxRecDepth 100000 in
set_option maxHeartbeats 1600000 in
theorem implWho (v : Value) (ls : List RPlayer) (b : Nat) (w : World) (h : OwnPlayer w b v ls) (hl : ls.length ≤ 2000000) (hr : ∀ k (hk : k < ls.length), ls[k].f0.length ≤ 2000000) (x : Int) :
    Calls Try.prog 73 #[v, .int .i64 x] w (IntsPost w (whoKnows ls x)) := by
  have CK := Lib.hid (implPOk v ls b w h hl hr)
  obtain ⟨A, c, rfl⟩ := h.slice
  have O := Lib.hid h
  have HR := Lib.hid hr
  clear h hr
  cases hok : playersOk ls with
  | false =>
    have R := Lib.hid (show whoKnows ls x = [] by unfold whoKnows; rw [hok]; rfl)
    rw [hok] at CK
    go_enter Try.func73, Try.ntmps73
    go_wp2_with (go_at_call 51; refine CK.out.mono ?_; rintro e w1 ⟨rfl, b1⟩; have B1 := Lib.hid b1; clear b1)
    go_ret
    exact ⟨_, rfl, by rw [R.out]; exact ⟨rfl, .inl ⟨rfl, rfl⟩⟩, B1.out⟩
  | true =>
    have hn := (playersOk_has hok).1
    have R := Lib.hid (show whoKnows ls x = whoTo ls x ls.length by unfold whoKnows; rw [if_pos hok])
    rw [hok] at CK
    clear hok
    go_enter Try.func73, Try.ntmps73
    go_wp2_with (go_at_call 51; refine CK.out.mono ?_; rintro e w1 ⟨rfl, b1⟩; have B1 := Lib.hid b1; clear b1)
    go_loopw [5, 13] (fun ov kv wr => ∃ (k : Nat) (vo : Value), vo = ov ∧ k ≤ ls.length ∧ kv = .int .i64 (k : Int) ∧ Hid (OwnI wr w.heap.size vo (whoTo ls x k)) ∧ Hid (Below w.heap.size w wr)) (fun _ kv _ => ls.length - (intOf kv).toNat)
    case atStart => exact ⟨0, _, rfl, by omega, rfl, Lib.hid ⟨rfl, .inl ⟨rfl, rfl⟩⟩, B1⟩
    case round =>
      clear B1
      obtain ⟨k, vo, rfl, hk, rfl, OO, BW⟩ := hrel
      by_cases hlt : k < ls.length
      rotate_left
      · obtain rfl : k = ls.length := by omega
        rw [← R.out] at OO
        go_wp2
        go_ret
        exact ⟨_, rfl, OO.out, BW.out⟩
      have hk0 : (0 : Int) ≤ (k : Int) := by omega
      have hk1 : (k : Int) < (ls.length : Int) := by omega
      have hbs := BW.out.size
      obtain ⟨g, _, A1, c1, f1, -, ⟨x0, x1⟩, o1, -⟩ := (O.out.below BW.out).spot hlt
      simp only [Value.slice.injEq] at f1
      obtain ⟨rfl, -, rfl⟩ := f1
      have NX := Lib.hid (show whoTo ls x (k + 1) = if knowsB ls[k] x = true then whoTo ls x k ++ [(k : Int)] else whoTo ls x k by rw [whoTo, getP hlt])
      have wl := who_len ls x k
      have CH := Lib.hid (contains_any (.slice A1 ls[k].f0.length c1) ls[k].f0 b (wr.alloc (.cells #[.slice A1 ls[k].f0.length c1, .int .i64 ls[k].f1] 71)) (o1.alloc _) (HR.out k hlt) x)
      rw [knows_has] at CH
      have BA := Lib.hid (BW.out.alloc hbs (.cells #[.slice A1 ls[k].f0.length c1, .int .i64 ls[k].f1] 71))
      have OA := Lib.hid (OO.out.alloc (.cells #[.slice A1 ls[k].f0.length c1, .int .i64 ls[k].f1] 71))
      clear o1
      generalize ls[k].f0.length = n1 at x0 CH BA OA
      generalize ls[k].f1 = t1 at x1 CH BA OA
      cases hkb : knowsB ls[k] x with
      | false =>
        rw [hkb] at CH
        rw [hkb, if_neg (by simp)] at NX
        rw [← NX.out] at OA
        clear hkb OO BW
        go_wp2_with (go_at_call 72; refine CH.out.mono ?_; rintro e w' ⟨rfl, rfl⟩)
        exact ⟨⟨k + 1, _, rfl, by omega, by go_num, OA, BA⟩, by simp [intOf]; omega⟩
      | true =>
        rw [hkb] at CH
        rw [hkb, if_pos rfl] at NX
        obtain ⟨w3, hw3⟩ : ∃ w3, w3 = wr.alloc (.cells #[.slice A1 n1 c1, .int .i64 t1] 71) := ⟨_, rfl⟩
        rw [← hw3] at BA OA
        have HW := Lib.hid hw3
        clear hw3
        have hs3 := BA.out.size
        have ON := Lib.hid (oneI w3 w3.heap.size (k : Int) (Nat.le_refl _))
        clear hkb OO BW
        go_wp2_with (first | (go_at_call 72; refine CH.out.mono ?_; rintro e w' ⟨rfl, rfl⟩; rw [← HW.out]) | (at_builtin; refine wpList_rowsI rfl (.tmp 22) (.tmp 24) rfl w.heap.size w3.heap.size _ _ (whoTo ls x k) [(k : Int)] rfl rfl (OA.out.alloc _) ON.out ?_ ?_ ?_; (simp <;> omega); (simp <;> omega); intro v4 w4 o4 g4 hat4))
        have B5 := Lib.hid (madeR (BA.out.alloc hs3 _) (by simp; omega) (OA.out.alloc _) g4)
        have O5 : Hid (OwnI w4 w.heap.size v4 (whoTo ls x (k + 1))) := Lib.hid (NX.out ▸ o4)
        exact ⟨⟨k + 1, _, rfl, by omega, by go_num, O5, B5⟩, by simp [intOf] <;> omega⟩
end Go.Proofs.Ytanlfkkmnnjpeaa
