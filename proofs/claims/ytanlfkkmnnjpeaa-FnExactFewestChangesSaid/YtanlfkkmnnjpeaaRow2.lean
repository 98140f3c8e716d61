/- Rows of rows of numbers that came in. Those of the call's own: RowR. -/
import Derived.Test.YtanlfkkmnnjpeaaPk1
import Derived.Test.YtanlfkkmnnjpeaaPk3
import Derived.Deep.Matrix
namespace Go.Proofs.Ytanlfkkmnnjpeaa
set_option linter.unusedVariables false
set_option linter.unusedSimpArgs false
open Go.RowKit

theorem copy_set {α : Type} (d : α) (xs : List α) (k : Nat) (h : k < xs.length) : (xs.take k ++ List.replicate (xs.length - k) d).set k xs[k] = xs.take (k + 1) ++ List.replicate (xs.length - (k + 1)) d := by
  have e : xs.length - k = (xs.length - (k + 1)) + 1 := by omega
  rw [e, List.replicate_succ, List.set_append_right _ _ (by simp; omega)]
  have e2 : k - (xs.take k).length = 0 := by simp; omega
  rw [e2, List.set_cons_zero, List.take_succ_eq_append_getElem h, List.append_assoc]
  rfl

/-- A slice of slices of numbers that came in: the rows read as zss. -/
def ArgSS (w : World) (a : Option Addr) (n cap : Nat) (zss : List (List Int)) : Prop :=
  zss.length = n ∧ n ≤ maxLen ∧ ∀ r (h : r < zss.length), ∃ xb xo A L C Z, a = some ⟨xb, xo, none⟩ ∧ xb < w.heap.size ∧ w.cell? ⟨xb, xo + r, none⟩ = some (.slice A L C) ∧ IsRow .i64 w A L C Z ∧ zss[r] = Z.take L
theorem ArgSS.below {w w' : World} {a : Option Addr} {n cap : Nat} {zss : List (List Int)} (h : ArgSS w a n cap zss) (hb : Below w.heap.size w w') : ArgSS w' a n cap zss := by
  refine ⟨h.1, h.2.1, fun r hr => ?_⟩
  obtain ⟨xb, xo, A, L, C, Z, h1, h2, h3, h4, h5⟩ := h.2.2 r hr
  exact ⟨xb, xo, A, L, C, Z, h1, Nat.lt_of_lt_of_le h2 hb.size, cell_below h3 hb, irow_below h4 hb, h5⟩
theorem ArgSS.alloc {w : World} {a : Option Addr} {n cap : Nat} {zss : List (List Int)} (h : ArgSS w a n cap zss) (o : Obj) : ArgSS (w.alloc o) a n cap zss := h.below ((Below.refl _ _).alloc (Nat.le_refl _) _)
theorem argSS_of {H : Type} {enc : TypeId × Value → H} {P : Program} {W : World} {t e q : TypeId} {a : Option Addr} {len cap : Nat} {d : DataW H} {p : List MemPlace}
    (ht : P.underlying t = some (.slice e)) (he : P.underlying e = some (.slice q)) (hq : P.underlying q = some (.int .i64)) (ce : P.cellsOf e = 1) (cq : P.cellsOf q = 1)
    (h : DataW.Trod enc P W 0 (fun _ => true) true t (.slice a len cap) d p) : ∃ zss, ArgSS W a len cap zss := by
  obtain ⟨fuel, hf⟩ := h
  rcases Go.Deep.open_int_rows ht he hq ce cq hf with ⟨hcs, _⟩ | ⟨x, l, c, A, L, C, Z, hcs, _, hl, hm, _, hx⟩
  · simp [Value.cells] at hcs
    obtain ⟨rfl, rfl, rfl⟩ := hcs
    exact ⟨[], rfl, by simp [maxLen], fun r hr => absurd hr (by simp)⟩
  · simp [Value.cells] at hcs
    obtain ⟨rfl, rfl, rfl⟩ := hcs
    refine ⟨(List.range len).map fun r => (Z r).take (L r), by simp, by omega, fun r hr => ?_⟩
    have hr' : r < len := by simpa using hr
    obtain ⟨h1, h2, h3, h4, h5, h6, h7⟩ := hx r (by omega)
    obtain ⟨xb, xo, xs⟩ := x
    have hlt := World.block_lt_of_cell? W _ h1
    have hnone : xs = none := by simpa [Addr.add] using World.cell?_spot (hx 0 (by omega)).1
    subst hnone
    have ha : (⟨xb, xo, none⟩ : Addr).add r = ⟨xb, xo + r, none⟩ := by unfold Addr.add; split <;> simp_all
    rw [ha] at h1 hlt
    refine ⟨xb, xo, A r, L r, C r, Z r, rfl, hlt, h1, ?_, by simp⟩
    cases hA : A r with
    | none =>
      have c0 := h6 hA
      exact .inl ⟨rfl, by omega, c0, by have : (Z r).length = 0 := by omega
                                        exact List.eq_nil_of_length_eq_zero this⟩
    | some a' =>
      refine .inr ⟨a', rfl, h2, h3, h4, fun i hi => ?_, h5⟩
      exact (h7 a' hA).2 i (by omega)
end Go.Proofs.Ytanlfkkmnnjpeaa
