/- The contract of impl.countReached: by induction on how many joints are not marked yet. Condition: the joints lie as a net. -/
import Derived.Test.YtblbmppbbhibeaaNet
namespace Go.Proofs.Ytblbmppbbhibeaa
set_option linter.unusedVariables false
set_option linter.unusedSimpArgs false
open Go.RowKit

def ReachPost (w : World) (base m : Nat) (pb : Nat → Nat) (vl vb : Nat → Value) (I : Nat → List Int) (N : Nat → List Nat) (R : Nat → Bool) (i : Nat) (e : Ending) (w' : World) : Prop :=
  ∃ (n : Nat) (R' : Nat → Bool), e = .returned (.int .i64 (n : Int)) ∧ NetOk w' base m pb vl vb I N R' ∧ Walked m N R i n R' ∧ Below base w w'

set_option maxRecDepth 100000 in
set_option maxHeartbeats 800000 in
theorem reach_any (base m : Nat) (pb : Nat → Nat) (vl vb : Nat → Value) (I : Nat → List Int) (N : Nat → List Nat) (hm : m ≤ 1000) (hN : ∀ x, x < m → ∀ y ∈ N x, y < m) (hL : ∀ x, x < m → (N x).length ≤ 100000) (d : Nat) :
    ∀ (R : Nat → Bool) (i : Nat) (w : World), m ≤ held R m + d → NetOk w base m pb vl vb I N R → i < m →
      Calls Try.prog 55 #[.pointer (some ⟨pb i, 0, none⟩)] w (ReachPost w base m pb vl vb I N R i) := by
  induction d with
  | zero =>
    intro R i w hd h hi
    have hR : R i = true := (held_all (p := R) (m := m)).1 (by have := held_le R m; omega) i hi
    have c2 := h.cell2 hi
    rw [hR] at c2
    have H := Lib.hid h
    have HR := Lib.hid hR
    clear h hR hd hN hL
    go_enter Try.func55, Try.ntmps55
    go_wp2
    go_ret
    exact ⟨0, R, rfl, H.out, walked_none HR.out, Below.refl _ _⟩
  | succ d ih =>
    intro R i w hd h hi
    cases hR : R i with
    | true =>
      have c2 := h.cell2 hi
      rw [hR] at c2
      have H := Lib.hid h
      have HR := Lib.hid hR
      clear h hR hd hN hL ih
      go_enter Try.func55, Try.ntmps55
      go_wp2
      go_ret
      exact ⟨0, R, rfl, H.out, walked_none HR.out, Below.refl _ _⟩
    | false =>
      have c2 := h.cell2 hi
      rw [hR] at c2
      have c1 := h.cell1 hi
      have f2 := h.free hi 2
      obtain ⟨A, c, ev⟩ := (h.ptrs i hi).slice
      rw [List.length_map] at ev
      rw [ev] at c1
      have H1 := Lib.hid (h.mark hi true)
      have hlt := (h.lt i 0 _ hi (by omega) rfl)
      have W1 := Lib.hid (walking_start (N := N) hi hR)
      have HD := Lib.hid hd
      have HN := Lib.hid hN
      have EV := Lib.hid ev
      have hl := hL i hi
      have IH := Lib.hid ih
      clear h hR hd hN hL ih ev
      go_enter Try.func55, Try.ntmps55
      go_wp2
      go_loopw [3, 18] (fun cv iv wr => ∃ (q n : Nat) (R1 : Nat → Bool), q ≤ (N i).length ∧ 1 ≤ n ∧ n ≤ 1000 ∧ iv = .int .i64 (q : Int) ∧ cv = .int .i64 (n : Int) ∧ NetOk wr base m pb vl vb I N R1 ∧ Hid (Walking m N R i q n R1) ∧ Below base w wr) (fun _ iv _ => (N i).length - (intOf iv).toNat)
      case atStart => exact ⟨0, 1, _, by omega, by omega, by omega, rfl, rfl, H1.out, W1.out, (Below.refl base w).setCell hlt.1 _⟩
      case round =>
        obtain ⟨q, n, R1, hq, hn1, hn2, rfl, rfl, hnet, hwk, hb⟩ := hrel
        by_cases hlt' : q < (N i).length
        · have HNET := Lib.hid hnet
          obtain ⟨g, c', e1, _, lg, rg⟩ := (hnet.ptrs i hi).spot (k := q) (by rw [List.length_map]; exact hlt')
          rw [EV.out] at e1
          simp only [Value.slice.injEq] at e1
          obtain ⟨rfl, hloop, rfl⟩ := e1
          clear hloop
          rw [List.getElem_map] at rg
          have hy : (N i)[q] < m := HN.out i hi _ (List.getElem_mem hlt')
          have hdd : m ≤ held R1 m + d := by
            have := hwk.out.1
            have := HD.out
            omega
          have C := Lib.hid (IH.out R1 (N i)[q] wr hdd hnet hy)
          have hq0 : (0 : Int) ≤ (q : Int) := by omega
          have hq1 : (q : Int) < ((N i).length : Int) := by omega
          have HS := Lib.hid (fun n' R2 (h' : Walked m N R1 (N i)[q] n' R2) => walking_step HN.out hi hlt' hwk.out h')
          have HDD := Lib.hid hdd
          clear hnet hwk hdd
          generalize (N i)[q] = y at *
          go_wp2_with fail
          refine C.out.mono ?_
          rintro e w2 ⟨n', R2, rfl, hnet2, hw2, hb2⟩
          have hn' : n' ≤ 1000 := by
            have := hw2.1
            have := held_le R2 m
            omega
          have WS := HS.out n' R2 hw2
          have hnn : n + n' ≤ 1000 := by
            have := WS.1
            have := held_le R2 m
            omega
          have HW := Lib.hid WS
          clear WS hw2
          go_wp2
          exact ⟨⟨q + 1, n + n', R2, by omega, by omega, by omega, by go_num, by go_num, hnet2, HW.out, hb.trans hb2⟩, by simp [intOf]; omega⟩
        · obtain rfl : q = (N i).length := by omega
          go_wp2
          go_ret
          exact ⟨n, R1, rfl, hnet, walking_end hwk.out, hb⟩
end Go.Proofs.Ytblbmppbbhibeaa
