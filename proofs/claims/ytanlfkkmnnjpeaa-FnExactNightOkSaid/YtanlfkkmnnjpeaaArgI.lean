/- A slice of numbers that came in as an argument: how it is kept, read and copied. Condition: at most 1048576 numbers where it is copied. -/
import Derived.Test.YtanlfkkmnnjpeaaRowB
import Derived.Test.YtanlfkkmnnjpeaaFrame
namespace Go.Proofs.Ytanlfkkmnnjpeaa
set_option linter.unusedVariables false
open Go.RowKit

section
variable {w w' : World} {a : Option Addr} {n cap : Nat} {z : List Int}
theorem irow_below (h : IsRow .i64 w a n cap z) (hb : Below w.heap.size w w') : IsRow .i64 w' a n cap z := by
  rcases h with h | ⟨x, e, h1, h2, h3, h4, h5⟩
  · exact .inl h
  · exact .inr ⟨x, e, h1, h2, h3, fun i hi => cell_below (h4 i hi) hb, h5⟩
theorem irow_alloc (h : IsRow .i64 w a n cap z) (o : Obj) : IsRow .i64 (w.alloc o) a n cap z := irow_below h ((Below.refl _ _).alloc (Nat.le_refl _) _)
theorem irow_max (h : IsRow .i64 w a n cap z) : n ≤ 9223372036854775807 := by
  rcases h with ⟨_, rfl, _, _⟩ | ⟨x, rfl, hl, hm, _⟩
  · omega
  · simp only [maxLen] at hm; omega
theorem irow_len (h : IsRow .i64 w a n cap z) : (z.take n).length = n := by
  rcases h with ⟨_, rfl, _, _⟩ | ⟨x, rfl, hl, hm, hz, _⟩
  · simp
  · rw [List.length_take]; omega
theorem irow_at (h : IsRow .i64 w a n cap z) {j : Nat} (hj : j < n) : ∃ xb xo, a = some ⟨xb, xo, none⟩ ∧ w.cell? ⟨xb, xo + j, none⟩ = some (.int .i64 ((z.take n)[j]'(by rw [irow_len h]; exact hj))) ∧ xb < w.heap.size := by
  have hl' := irow_len h
  rcases h with ⟨_, rfl, _, _⟩ | ⟨x, rfl, hl, hm, hz, hcell, hwz⟩
  · omega
  · obtain ⟨xb, xo, spot⟩ := x
    have hc := hcell j (by omega)
    have hspot : spot = none := by simpa [Addr.add] using World.cell?_spot (hcell 0 (by omega))
    subst hspot
    have he : (⟨xb, xo, none⟩ : Addr).add j = ⟨xb, xo + j, none⟩ := by unfold Addr.add; split <;> simp_all
    rw [he] at hc
    refine ⟨xb, xo, rfl, ?_, World.block_lt_of_cell? w _ hc⟩
    rw [hc, List.getElem_take, List.getD_eq_getElem?_getD, List.getElem?_eq_getElem (by omega)]
    rfl
theorem copyI_set (zs : List Int) (k : Nat) (h : k < zs.length) : (zs.take k ++ List.replicate (zs.length - k) 0).set k zs[k] = zs.take (k + 1) ++ List.replicate (zs.length - (k + 1)) 0 := by
  have e : zs.take (k + 1) = zs.take k ++ [zs[k]] := by rw [List.take_add_one, List.getElem?_eq_getElem h]; rfl
  rw [List.set_append_right _ _ (by rw [List.length_take]; omega), List.length_take, Nat.min_eq_left (by omega), Nat.sub_self, show zs.length - k = (zs.length - (k + 1)) + 1 by omega, List.replicate_succ, List.set_cons_zero, e, List.append_assoc]
  rfl
theorem madeI (n : Nat) : (madeCells (Value.int .i64 0).cells (n * 1)).toList = (List.replicate n (0 : Int)).map intV := by
  have hm : ∀ v ∈ (madeCells (Value.int .i64 0).cells (n * 1)).toList, v = .int .i64 0 := by
    intro v hv
    unfold madeCells at hv
    simp only [Array.toList_map, List.mem_map] at hv
    obtain ⟨j, _, rfl⟩ := hv
    show (#[Value.int .i64 0])[j % 1]! = _
    rw [Nat.mod_one]
    rfl
  rw [List.eq_replicate_of_mem hm, Array.length_toList, size_madeCells, Nat.mul_one, List.map_replicate]
  rfl
end

set_option maxHeartbeats 400000 in
theorem toIntS_walk (a : Option Addr) (n cap : Nat) (z : List Int) (w : World) (ha : IsRow .i64 w a n cap z) (hl : n ≤ 1048576) :
    Calls Try.prog 29 #[.slice a n cap] w (IntsPost w (z.take n)) := by
  obtain ⟨i, hi, hz, hs, hb⟩ := info_parts info_int
  have hzl := irow_len ha
  have HA := Lib.hid (show ∀ j (hj : j < (z.take n).length), ∃ xb xo, a = some ⟨xb, xo, none⟩ ∧ w.cell? ⟨xb, xo + j, none⟩ = some (.int .i64 (z.take n)[j]) ∧ xb < w.heap.size from fun j hj => irow_at ha (by rwa [hzl] at hj))
  generalize z.take n = zs at hzl HA
  subst hzl
  clear ha
  go_enter Try.func29, Try.ntmps29
  go_wp2_with (refine wpList_make_full _ rfl _ _ 33 rfl w.heap.size 3 i (.int .i64 0) 1 Try.underlying33 hi hz hs .i64 .i64 _ _ zs.length rfl rfl rfl rfl (by rw [hb]; omega) (by simp only [maxLen]; omega) (by simp) ?_; intro w1 own1 grown1)
  have own0 : OwnI w1 w.heap.size (.slice (some ⟨w.heap.size, 0, none⟩) zs.length zs.length) (zs.take 0 ++ List.replicate (zs.length - 0) 0) := by
    rw [madeI] at own1
    unfold OwnI
    simpa using own1
  have b1 : Below w.heap.size w w1 := below_of_grown grown1
  clear own1 grown1
  go_loopw [4] (fun i wr => ∃ k : Nat, k ≤ zs.length ∧ i = .int .i64 k ∧ OwnI wr w.heap.size (.slice (some ⟨w.heap.size, 0, none⟩) zs.length zs.length) (zs.take k ++ List.replicate (zs.length - k) 0) ∧ Below w.heap.size w wr) (fun i _ => zs.length - (intOf i).toNat)
  case atStart => exact ⟨0, by omega, rfl, own0, b1⟩
  case round =>
    obtain ⟨k, hk, rfl, hown, hbel⟩ := hrel
    by_cases hlt : k < zs.length
    · have hk0 : (0 : Int) ≤ (k : Int) := by omega
      have hk1 : (k : Int) < (zs.length : Int) := by omega
      obtain ⟨xb, xo, rfl, c0, hx⟩ := HA.out k hlt
      have c1 := (hbel.cell (p := ⟨xb, xo + k, none⟩) hx).trans c0
      have hlen : (zs.take k ++ List.replicate (zs.length - k) (0 : Int)).length = zs.length := by simp; omega
      obtain ⟨_, _, e2, _, _, x0, f0⟩ := hown.spot (k := k) (by rw [hlen]; exact hlt)
      simp only [Value.slice.injEq, Option.some.injEq, Addr.mk.injEq] at e2
      obtain ⟨⟨rfl, _⟩, em, ec⟩ := e2
      clear em ec
      have st := hown.set hlen.symm k zs[k]
      rw [copyI_set zs k hlt] at st
      have ST := Lib.hid st
      have HB := Lib.hid hbel
      obtain ⟨u, hu⟩ : ∃ u, wr.cell? ⟨w.heap.size, k, none⟩ = some u := ⟨_, x0⟩
      clear st hown hlen c0 x0 hbel
      generalize zs[k] = y at c1 ST
      go_wp2
      exact ⟨⟨k + 1, by omega, by go_num, ST.out.1, HB.out.setCell (p := ⟨w.heap.size, k, none⟩) (Nat.le_refl _) _⟩, by simp [intOf]; omega⟩
    · have hke : k = zs.length := by omega
      subst hke
      have hfin : OwnI wr w.heap.size (.slice (some ⟨w.heap.size, 0, none⟩) zs.length zs.length) zs := by simpa using hown
      go_wp2
      go_ret
      exact ⟨_, rfl, hfin, hbel⟩
end Go.Proofs.Ytanlfkkmnnjpeaa
