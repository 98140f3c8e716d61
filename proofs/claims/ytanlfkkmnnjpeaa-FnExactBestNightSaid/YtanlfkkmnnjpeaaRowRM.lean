/- The contracts of laws.markIntSS and heldIntSS. Condition: the rows are the call's own. -/
import Derived.Test.YtanlfkkmnnjpeaaPk7
import Derived.Test.YtanlfkkmnnjpeaaPk6
namespace Go.Proofs.Ytanlfkkmnnjpeaa
set_option linter.unusedVariables false
set_option linter.unusedSimpArgs false
open Go.RowKit

/-- The first k rows marked from number u on. -/
def markRR (u : Nat) (zss : List (List Int)) : Nat → List (List Int)
  | 0 => zss
  | k + 1 => (markRR u zss k).set k (marksI (u + upTo zss k) (zss.getD k []).length)
theorem markRR_len (u : Nat) (zss : List (List Int)) (k : Nat) : (markRR u zss k).length = zss.length := by
  induction k with
  | zero => rfl
  | succ k ih => rw [markRR, List.length_set, ih]
theorem markRR_old (u : Nat) (zss : List (List Int)) (k r : Nat) (h : k ≤ r) (hr : r < zss.length) : (markRR u zss k)[r]'(by rw [markRR_len]; exact hr) = zss[r] := by
  induction k with
  | zero => rfl
  | succ k ih =>
    simp only [markRR]
    rw [List.getElem_set_ne (by omega)]
    exact ih (by omega)
theorem markRR_new (u : Nat) (zss : List (List Int)) (k r : Nat) (h : r < k) (hr : r < zss.length) : (markRR u zss k)[r]'(by rw [markRR_len]; exact hr) = marksI (u + upTo zss r) zss[r].length := by
  induction k with
  | zero => omega
  | succ k ih =>
    simp only [markRR]
    by_cases e : k = r
    · subst e
      rw [List.getElem_set_self, List.getD_eq_getElem?_getD, List.getElem?_eq_getElem hr]
      rfl
    · rw [List.getElem_set_ne e]
      exact ih (by omega)
set_option maxRecDepth 100000 in
set_option maxHeartbeats 1600000 in
theorem markIntSS_at (v : Value) (zss : List (List Int)) (base : Nat) (w : World) (hown : OwnR w base v zss) (hbs : base ≤ w.heap.size) (hl : zss.length ≤ 2000000) (u : Nat) (k : Int) (hk : k = (u : Int)) (h1 : u + upTo zss zss.length ≤ 2000000) :
    Calls Try.prog 33 #[v, .int .i64 k] w fun e w' => e = .returned (.int .i64 ((u + upTo zss zss.length : Nat) : Int)) ∧ OwnR w' base v (markRR u zss zss.length) ∧ Below base w w' := by
  subst hk
  obtain ⟨A, c, rfl⟩ := hown.slice
  have HH := Lib.hid hown
  clear hown
  go_enter Try.func33, Try.ntmps33
  go_wp2
  go_loopw [1, 5] (fun kv i wr => ∃ k : Nat, k ≤ zss.length ∧ i = .int .i64 k ∧ kv = .int .i64 ((u + upTo zss k : Nat) : Int) ∧ Hid (OwnR wr base (.slice A zss.length c) (markRR u zss k)) ∧ Hid (Below base w wr)) (fun _ i _ => zss.length - (intOf i).toNat)
  case atStart => exact ⟨0, by omega, rfl, rfl, HH, Lib.hid (Below.refl _ _)⟩
  case round =>
    obtain ⟨k, hk, rfl, rfl, OO, BW⟩ := hrel
    by_cases hlt : k < zss.length
    rotate_left
    · obtain rfl : k = zss.length := by omega
      go_wp2
      go_ret
      exact ⟨rfl, OO.out, BW.out⟩
    have hk0 : (0 : Int) ≤ (k : Int) := by omega
    have hk1 : (k : Int) < (zss.length : Int) := by omega
    have ML := Lib.hid (markRR_len u zss k)
    obtain ⟨vs, hr⟩ := OO.out
    have hv : k < vs.length := by rw [hr.len, ML.out]; exact hlt
    have hm : k < (markRR u zss k).length := by rw [ML.out]; exact hlt
    have RO := hr.each k hv hm
    obtain ⟨g, c', A', c2, f1, rc, _, ro⟩ := OwnR.spot ⟨vs, hr⟩ hm
    have hc : vs[k] = .slice A' (markRR u zss k)[k].length c2 := by
      rcases hr.row.2 with ⟨h3, hn⟩ | ⟨g3, cap, cur, e3, _⟩
      · omega
      · have e4 := e3.symm.trans f1
        simp only [Value.slice.injEq, Option.some.injEq, Addr.mk.injEq, and_true, true_and] at e4
        have hrow := hr.row
        rw [e3] at hrow
        have e5 := World.ownsRow.cellAt hrow k (by omega)
        rw [← e4.1] at rc
        have e6 := e5.symm.trans rc
        rw [List.getElem?_eq_getElem hv] at e6
        exact Option.some.inj e6
    rw [ML.out] at f1
    simp only [Value.slice.injEq] at f1
    obtain ⟨rfl, -, rfl⟩ := f1
    have hle := upTo_mono zss (j := k + 1) (k := zss.length) (by omega)
    have hmo := upTo_more hlt
    rw [markRR_old u zss k k (Nat.le_refl _) hlt] at rc RO hc
    have MK := Lib.hid (markIntS_at vs[k] zss[k] base wr RO (by omega) (u + upTo zss k) _ rfl (by omega))
    have TU := Lib.hid (fun w3 (o3 : OwnI w3 base vs[k] (marksI (u + upTo zss k) zss[k].length)) (g3 : wr.grownBy w3 vs[k].ownBlock) => (show OwnR w3 base (.slice (some ⟨g, 0, none⟩) zss.length c) (markRR u zss (k + 1)) ∧ Below base w w3 from ⟨⟨vs, by
      have := hr.turn hv o3 g3
      rw [markRR, List.getD_eq_getElem?_getD, List.getElem?_eq_getElem hlt]
      exact this⟩, BW.out.grown g3 (Nat.le_trans hbs BW.out.size) (fun b e => (RO.lt b e).1)⟩))
    rw [hc] at MK TU
    have UM := Lib.hid hmo
    clear hmo hle ro RO hc hr OO
    generalize zss[k].length = t at rc MK TU UM
    go_wp2_with fail
    refine MK.out.mono ?_
    rintro e w3 ⟨rfl, o3, g3⟩
    obtain ⟨o4, b4⟩ := TU.out w3 o3 g3
    have O4 := Lib.hid o4
    have B4 := Lib.hid b4
    clear o3 g3 o4 b4 TU MK
    go_wp2
    exact ⟨⟨k + 1, by omega, by go_num, by rw [UM.out]; first | rfl | (congr 1; omega) | go_num, O4, B4⟩, by simp [intOf]; omega⟩

set_option maxRecDepth 100000 in
set_option maxHeartbeats 1600000 in
theorem heldIntSS_any (v : Value) (zss : List (List Int)) (base : Nat) (w : World) (u : Nat) (hown : OwnR w base v (markRR u zss zss.length)) (hl : zss.length ≤ 2000000) (h1 : u + upTo zss zss.length ≤ 2000000) :
    Calls Try.prog 34 #[v, .int .i64 (u : Int)] w fun e w' => e = .returned (.int .i64 ((u + upTo zss zss.length : Nat) : Int)) ∧ Below w.heap.size w w' := by
  obtain ⟨A, c, e⟩ := hown.slice
  rw [markRR_len] at e
  subst e
  have HH := Lib.hid hown
  clear hown
  go_enter Try.func34, Try.ntmps34
  go_wp2
  go_loopw [1, 5] (fun kv i wr => ∃ k : Nat, k ≤ zss.length ∧ i = .int .i64 k ∧ kv = .int .i64 ((u + upTo zss k : Nat) : Int) ∧ Hid (Below w.heap.size w wr)) (fun _ i _ => zss.length - (intOf i).toNat)
  case atStart => exact ⟨0, by omega, rfl, rfl, Lib.hid (Below.refl _ _)⟩
  case round =>
    obtain ⟨k, hk, rfl, rfl, BW⟩ := hrel
    by_cases hlt : k < zss.length
    rotate_left
    · obtain rfl : k = zss.length := by omega
      go_wp2
      go_ret
      exact ⟨rfl, BW.out⟩
    have hk0 : (0 : Int) ≤ (k : Int) := by omega
    have hk1 : (k : Int) < (zss.length : Int) := by omega
    have ML := Lib.hid (markRR_len u zss zss.length)
    obtain ⟨g, _, A', c2, f1, rc, _, ro⟩ := (HH.out.below BW.out).spot (k := k) (by rw [ML.out]; exact hlt)
    rw [ML.out] at f1
    simp only [Value.slice.injEq] at f1
    obtain ⟨rfl, -, rfl⟩ := f1
    rw [markRR_new u zss zss.length k hlt hlt] at rc ro
    rw [marksI_len] at rc ro
    have hle := upTo_mono zss (j := k + 1) (k := zss.length) (by omega)
    have hmo := upTo_more hlt
    have HK := Lib.hid (heldIntS_any _ zss[k].length base wr (u + upTo zss k) ro (by omega) (by omega))
    have UM := Lib.hid (show u + upTo zss (k + 1) = u + upTo zss k + zss[k].length by omega)
    clear hmo hle ro ML
    generalize zss[k].length = t at rc HK UM
    have hnn : ¬ (((u + upTo zss k + t : Nat) : Int) < 0) := by omega
    generalize hT : u + upTo zss k + t = T at HK UM hnn
    clear hT
    go_wp2_with fail
    refine HK.out.mono ?_
    rintro e w3 ⟨rfl, b3⟩
    have B3 := Lib.hid (BW.out.trans (b3.mono BW.out.size))
    clear b3 HK
    go_wp2
    exact ⟨⟨k + 1, by omega, by go_num, by rw [UM.out], B3⟩, by simp [intOf]; omega⟩
end Go.Proofs.Ytanlfkkmnnjpeaa
