/- The contract of spec.LoadOf. Condition: the players and the cast lie in rows of their own. -/
import Derived.Test.YtbgogcobkiaejaaPokS
namespace Go.Proofs.Ytbgogcobkiaejaa
set_option linter.unusedVariables false
set_option linter.unusedSimpArgs false
open Go.RowKit

set_option maxRecDepth 100000 in
set_option maxHeartbeats 1600000 in
theorem specLoa (v : Value) (ls : List RPlayer) (b : Nat) (w : World) (h : OwnPlayer w b v ls) (hl : ls.length ≤ 2000000) (hr : ∀ k (hk : k < ls.length), ls[k].f0.length ≤ 2000000) (u : Value) (zs : List Int) (b2 : Nat) (h2 : OwnI w b2 u zs) (hz : zs.length ≤ 2000000) :
    Calls Try.prog 32 #[v, u] w (IntsPost w (loadOf ls zs)) := by
  have CK := Lib.hid (specPOk v ls b (w.alloc (.cells #[] 3)) (h.alloc _) hl hr)
  obtain ⟨A, c, rfl⟩ := h.slice
  obtain ⟨D, d, rfl⟩ := h2.slice
  have Z := Lib.hid h2
  clear h hr h2
  have O0 := Lib.hid (ownI_empty w w.heap.size w.heap.size #[] rfl (Nat.le_refl _) rfl)
  have B0 := Lib.hid ((Below.refl w.heap.size w).alloc (Nat.le_refl _) (.cells #[] 3))
  cases hok : playersOk ls with
  | false =>
    have R := Lib.hid (show loadOf ls zs = [] by unfold loadOf; rw [hok]; rfl)
    rw [hok] at CK
    go_enter Try.func32, Try.ntmps32
    go_wp2_with fail
    refine CK.out.mono ?_
    rintro e w1 ⟨rfl, b1⟩
    have B1 := Lib.hid (B0.out.trans (b1.mono B0.out.size))
    have O1 := Lib.hid (O0.out.below b1)
    clear b1
    go_wp2
    go_ret
    exact ⟨_, rfl, by rw [R.out]; exact O1.out, B1.out⟩
  | true =>
    have hn := (playersOk_has hok).1
    have R := Lib.hid (show loadOf ls zs = loadTo zs ls.length by unfold loadOf; rw [if_pos hok])
    rw [hok] at CK
    clear hok
    go_enter Try.func32, Try.ntmps32
    go_wp2_with fail
    refine CK.out.mono ?_
    rintro e w1 ⟨rfl, b1⟩
    have B1 := Lib.hid (B0.out.trans (b1.mono B0.out.size))
    have O1 := Lib.hid (O0.out.below b1)
    clear b1 CK O0 B0
    go_wp2_with fail
    go_loopw [5, 6] (fun ov kv wr => ∃ (k : Nat) (vo : Value), vo = ov ∧ k ≤ ls.length ∧ kv = .int .i64 (k : Int) ∧ Hid (OwnI wr w.heap.size vo (loadTo zs k)) ∧ Hid (Below w.heap.size w wr)) (fun _ kv _ => ls.length - (intOf kv).toNat)
    case atStart => exact ⟨0, _, rfl, by omega, rfl, O1, B1⟩
    case round =>
      clear O1 B1
      obtain ⟨k, vo, rfl, hk, rfl, OO, BW⟩ := hrel
      by_cases hlt : k < ls.length
      rotate_left
      · obtain rfl : k = ls.length := by omega
        rw [← R.out] at OO
        go_wp2
        go_ret
        exact ⟨_, rfl, OO.out, BW.out⟩
      have hk0 : (0 : Int) ≤ (k : Int) := by omega
      have hk1 : (k : Int) < (ls.length : Int) := by omega
      have hbs := BW.out.size
      have SM := Lib.hid (cntI_small zs (k : Int))
      have NX := Lib.hid (show loadTo zs (k + 1) = loadTo zs k ++ [cntI zs (k : Int) zs.length] from rfl)
      have ll := load_len zs k
      have ON := Lib.hid (fun z => oneI wr wr.heap.size z (Nat.le_refl _))
      have Z1 := Lib.hid (Z.out.below BW.out)
      go_wp2_with fail
      go_loopw [7, 8] (fun nv iv wq => wq = wr ∧ ∃ i : Nat, i ≤ zs.length ∧ nv = .int .i64 (cntI zs (k : Int) i) ∧ iv = .int .i64 (i : Int)) (fun _ iv _ => zs.length - (intOf iv).toNat)
      case atStart => exact ⟨rfl, 0, by omega, rfl, rfl⟩
      case round =>
        obtain ⟨hw, i, hi, rfl, rfl⟩ := hrel
        subst hw
        by_cases hli : i < zs.length
        rotate_left
        · obtain rfl : i = zs.length := by omega
          generalize cntI zs (k : Int) zs.length = z at NX
          clear SM
          have LL := Lib.hid ll
          clear ll
          go_wp2_with (at_builtin; refine wpList_rowsI rfl (.tmp 34) (.tmp 36) rfl w.heap.size _ _ _ (loadTo zs k) [z] rfl rfl (OO.out.alloc _) (ON.out z) ?_ ?_ ?_; (have := LL.out; simp <;> omega); (simp <;> omega); intro v4 w4 o4 g4 hat4)
          have B5 := Lib.hid (madeR (BW.out.alloc hbs _) (by simp; omega) (OO.out.alloc _) g4)
          have O5 : Hid (OwnI w4 w.heap.size v4 (loadTo zs (k + 1))) := Lib.hid (NX.out ▸ o4)
          exact ⟨⟨k + 1, _, rfl, by omega, by go_num, O5, B5⟩, by simp [intOf] <;> omega⟩
        have hi0 : (0 : Int) ≤ (i : Int) := by omega
        have hi1 : (i : Int) < (zs.length : Int) := by omega
        obtain ⟨g, _, f1, _, _, z0, _⟩ := Z1.out.spot hli
        simp only [Value.slice.injEq] at f1
        obtain ⟨rfl, -, -⟩ := f1
        have sm := SM.out i
        have NC := Lib.hid (show cntI zs (k : Int) (i + 1) = cntI zs (k : Int) i + if zs[i] = (k : Int) then 1 else 0 by rw [cntI, List.getD_eq_getElem?_getD, List.getElem?_eq_getElem hli]; rfl)
        generalize zs[i] = y at z0 NC
        generalize cntI zs (k : Int) i = m at sm NC ⊢
        have ew : IntKind.i64.wrap (m + 1) = m + 1 := IntWalk.i64_in _ (by omega)
        by_cases e : y = (k : Int)
        · have eb : (y == (k : Int)) = true := by simpa using e
          rw [if_pos e] at NC
          clear e
          go_wp2
          exact ⟨⟨trivial, i + 1, by omega, by rw [NC.out], by go_num⟩, by simp [intOf]; omega⟩
        · have eb : (y == (k : Int)) = false := by simpa using e
          rw [if_neg e, Int.add_zero] at NC
          clear e ew
          go_wp2
          exact ⟨⟨trivial, i + 1, by omega, by rw [NC.out], by go_num⟩, by simp [intOf]; omega⟩
end Go.Proofs.Ytbgogcobkiaejaa
