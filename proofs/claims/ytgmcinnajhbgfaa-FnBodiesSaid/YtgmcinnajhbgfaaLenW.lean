/- The contracts of the two functions LengthOf. Condition: the limbs lie in a row of their own. -/
import Derived.Test.YtgmcinnajhbgfaaImpOk
namespace Go.Proofs.Ytgmcinnajhbgfaa
open Go.RowKit

def sumTo (ls : List Lb) : Nat → Int
  | 0 => 0
  | k + 1 => sumTo ls k + (limbAt ls k).n
theorem sumTo_succ {ls : List Lb} {k : Nat} (h : k < ls.length) : sumTo ls (k + 1) = sumTo ls k + ls[k].n := by
  show sumTo ls k + (limbAt ls k).n = _
  rw [limbAt_lt h]
theorem sumTo_bd {J : Int} {ls : List Lb} (hf : Fits J ls) {k : Nat} (hk : k ≤ ls.length) : 0 ≤ sumTo ls k ∧ sumTo ls k ≤ 100 * (k : Int) := by
  induction k with
  | zero => exact ⟨by simp [sumTo], by simp [sumTo]⟩
  | succ k ih =>
    have h := ih (by omega)
    rw [sumTo_succ (by omega)]
    have := (hf ls[k] (List.getElem_mem _)).2.2.2
    omega
def lengthOf (J : Int) (ls : List Lb) : Int := if bodyOk J ls = true then sumTo ls ls.length else -1
theorem ok_fits {J : Int} {ls : List Lb} (h : bodyOk J ls = true) : Fits J ls := by
  obtain ⟨_, _, P, hP⟩ := bodyOk_true h
  exact run_fits hP
theorem ok_len {J : Int} {ls : List Lb} (h : bodyOk J ls = true) : ls.length ≤ 11 ∧ (ls.length : Int) = J - 1 ∧ 1 ≤ J ∧ J ≤ 12 := by
  obtain ⟨h1, h2, _⟩ := bodyOk_true h
  omega

set_option maxRecDepth 100000 in
set_option maxHeartbeats 800000 in
theorem specLen (J : Int) (v : Value) (ls : List Lb) (base : Nat) (w : World) (hown : OwnL w base v ls) (_ : ls.length ≤ 2000000) :
    Calls Try.prog 30 #[bodyV J v] w fun e w' => e = .returned (.int .i64 (lengthOf J ls)) ∧ Below w.heap.size w w' := by
  have CS := Lib.hid (fun W h => specOk J v ls base W h)
  obtain ⟨A, c, e⟩ := hown.slice
  subst e
  have BX := Lib.hid (box_facts (J := J) hown)
  have OWN := Lib.hid hown
  clear hown
  unfold bodyV at CS ⊢
  cases hok : bodyOk J ls with
  | false =>
    rw [hok] at CS
    have HL := Lib.hid (show lengthOf J ls = -1 by simp [lengthOf, hok])
    clear hok
    go_enter Try.func30, Try.ntmps30
    go_wp2_with fail
    refine (CS.out _ (OWN.out.alloc _)).mono ?_
    rintro e w1 ⟨rfl, b1⟩
    have B1 : Below w.heap.size w w1 := ((Below.refl _ _).alloc (Nat.le_refl _) _).trans (b1.mono (by simp))
    go_wp2
    go_ret
    exact ⟨ret_int HL.out.symm, B1⟩
  | true =>
    rw [hok] at CS
    have HL := Lib.hid (show lengthOf J ls = sumTo ls ls.length by simp [lengthOf, hok])
    have HF := Lib.hid (ok_fits hok)
    have hll := (ok_len hok).1
    clear hok
    go_enter Try.func30, Try.ntmps30
    go_wp2_with fail
    refine (CS.out _ (OWN.out.alloc _)).mono ?_
    rintro e w1 ⟨rfl, b1⟩
    simp only [World.size_alloc] at b1
    go_wp2
    go_loopw [3, 4] (fun nv iv wr => ∃ k : Nat, k ≤ ls.length ∧ iv = .int .i64 (k : Int) ∧ nv = .int .i64 (sumTo ls k) ∧ Below (w.heap.size + 1) (w.alloc (.cells #[.int .i64 J, .slice A ls.length c] 26)) wr) (fun _ iv _ => ls.length - (intOf iv).toNat)
    case atStart => exact ⟨0, by omega, rfl, rfl, b1⟩
    case round =>
      clear b1
      obtain ⟨k, hk, rfl, rfl, hbel⟩ := hrel
      obtain ⟨x0, x1, ol, bw⟩ := BX.out wr hbel
      obtain ⟨s0, s1⟩ := sumTo_bd HF.out hk
      by_cases hlt : k < ls.length
      · obtain ⟨g, c', e1, _, lg, rg, _⟩ := ol.spot hlt
        simp only [Value.slice.injEq] at e1
        obtain ⟨rfl, hloop, rfl⟩ := e1
        clear hloop
        have r2 : wr.cell? ⟨g, k * 3 + 2, none⟩ = some (.int .i64 ls[k].n) := rg 2 _ rfl
        have hn := (HF.out ls[k] (List.getElem_mem hlt)).2.2.2
        have SS := Lib.hid (sumTo_succ hlt)
        have hk0 : (0 : Int) ≤ (k : Int) := by omega
        have hk1 : (k : Int) < (ls.length : Int) := by omega
        have HB := Lib.hid hbel
        clear rg ol hbel bw
        generalize ls[k].n = z at r2 hn SS
        obtain ⟨hn0, hn1⟩ := hn
        generalize sumTo ls k = t at s0 s1 SS
        go_wp2
        exact ⟨⟨k + 1, by omega, by go_num, (by rw [SS.out]), HB.out⟩, by simp [intOf]; omega⟩
      · obtain rfl : k = ls.length := by omega
        generalize sumTo ls ls.length = t at *
        go_wp2
        go_ret
        exact ⟨ret_int HL.out.symm, bw⟩

set_option maxRecDepth 100000 in
set_option maxHeartbeats 800000 in
theorem implLen (J : Int) (v : Value) (ls : List Lb) (base : Nat) (w : World) (hown : OwnL w base v ls) (hl : ls.length ≤ 2000000) :
    Calls Try.prog 17 #[bodyV J v] w fun e w' => e = .returned (.int .i64 (lengthOf J ls)) ∧ Below w.heap.size w w' := by
  have CS := Lib.hid (fun W h => implOk J v ls base W h hl)
  obtain ⟨A, c, e⟩ := hown.slice
  subst e
  have BX := Lib.hid (box_facts (J := J) hown)
  have OWN := Lib.hid hown
  clear hown
  unfold bodyV at CS ⊢
  cases hok : bodyOk J ls with
  | false =>
    rw [hok] at CS
    have HL := Lib.hid (show lengthOf J ls = -1 by simp [lengthOf, hok])
    clear hok
    go_enter Try.func17, Try.ntmps17
    go_wp2_with fail
    refine (CS.out _ (OWN.out.alloc _)).mono ?_
    rintro e w1 ⟨rfl, b1⟩
    have B1 : Below w.heap.size w w1 := ((Below.refl _ _).alloc (Nat.le_refl _) _).trans (b1.mono (by simp))
    go_wp2
    go_ret
    exact ⟨ret_int HL.out.symm, B1⟩
  | true =>
    rw [hok] at CS
    have HL := Lib.hid (show lengthOf J ls = sumTo ls ls.length by simp [lengthOf, hok])
    have HF := Lib.hid (ok_fits hok)
    have hll := (ok_len hok).1
    clear hok
    go_enter Try.func17, Try.ntmps17
    go_wp2_with fail
    refine (CS.out _ (OWN.out.alloc _)).mono ?_
    rintro e w1 ⟨rfl, b1⟩
    simp only [World.size_alloc] at b1
    obtain ⟨x0, x1, -, -⟩ := BX.out w1 b1
    go_wp2
    clear x0 x1
    go_loopw [3, 12] (fun nv iv wr => ∃ k : Nat, k ≤ ls.length ∧ iv = .int .i64 (k : Int) ∧ nv = .int .i64 (sumTo ls k) ∧ Below (w.heap.size + 1) (w.alloc (.cells #[.int .i64 J, .slice A ls.length c] 26)) wr) (fun _ iv _ => ls.length - (intOf iv).toNat)
    case atStart => exact ⟨0, by omega, rfl, rfl, b1⟩
    case round =>
      clear b1
      obtain ⟨k, hk, rfl, rfl, hbel⟩ := hrel
      obtain ⟨x0, x1, ol, bw⟩ := BX.out wr hbel
      obtain ⟨s0, s1⟩ := sumTo_bd HF.out hk
      by_cases hlt : k < ls.length
      · obtain ⟨g, c', e1, _, lg, rg, _⟩ := ol.spot hlt
        simp only [Value.slice.injEq] at e1
        obtain ⟨rfl, hloop, rfl⟩ := e1
        clear hloop
        have r0 : wr.cell? ⟨g, k * 3, none⟩ = some (.int .i64 ls[k].a) := rg 0 _ rfl
        have r1 : wr.cell? ⟨g, k * 3 + 1, none⟩ = some (.int .i64 ls[k].b) := rg 1 _ rfl
        have r2 : wr.cell? ⟨g, k * 3 + 2, none⟩ = some (.int .i64 ls[k].n) := rg 2 _ rfl
        have hn := (HF.out ls[k] (List.getElem_mem hlt)).2.2.2
        have SS := Lib.hid (sumTo_succ hlt)
        have hk0 : (0 : Int) ≤ (k : Int) := by omega
        have hk1 : (k : Int) < (ls.length : Int) := by omega
        have hsz := hbel.size
        simp only [World.size_alloc] at hsz
        have HB := Lib.hid hbel
        clear rg ol hbel bw
        generalize ls[k].n = z at r2 hn SS
        obtain ⟨hn0, hn1⟩ := hn
        generalize sumTo ls k = t at s0 s1 SS
        go_wp2
        exact ⟨⟨k + 1, by omega, by go_num, (by rw [SS.out]), HB.out.alloc hsz _⟩, by simp [intOf]; omega⟩
      · obtain rfl : k = ls.length := by omega
        generalize sumTo ls ls.length = t at *
        go_wp2
        go_ret
        exact ⟨ret_int HL.out.symm, bw⟩
end Go.Proofs.Ytgmcinnajhbgfaa
