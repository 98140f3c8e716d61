/- The contract of spec.l01PickInt. Condition: at most 1048576 bytes. -/
import Derived.Test.YtjpalndcfaeihaaNewA
namespace Go.Proofs.Ytjpalndcfaeihaa
set_option linter.unusedVariables false
set_option linter.unusedSimpArgs false
open Go.RowKit

theorem pickInt_any (w0 : World) (a : Option Addr) (n cap : Nat) (z : List Int) (hr : IsRow .u8 w0 a n cap z) (w : World) (b : Nat) (hs : St w0 a n cap w b)
    (g : Nat) (L : List Int) (hl : 0 < L.length) (hm : L.length ≤ 1000) (hne : g ≠ b) (hg : w.heap[g]? = some (.cells (L.map (Value.int .i64)).toArray 3 (0, 0))) :
    Calls Try.prog 51 #[.pointer (some ⟨b, 0, none⟩), .slice (some ⟨g, 0, none⟩) L.length L.length] w (NumPost w0 a n cap w b fun x => x ∈ L) := by
  have C := Lib.hid (below_any w0 a n cap z hr)
  clear hr
  go_enter Try.func51, Try.ntmps51
  go_wp2_with fail
  refine (C.out _ _ hs _).mono ?_
  rintro e w1 ⟨x, rfl, ⟨hx0, hx1, _⟩, hs1, hg1⟩
  have hx2 := hx1 (by omega)
  clear hx1
  obtain ⟨j, rfl⟩ := Int.eq_ofNat_of_zero_le hx0
  have hj : j < L.length := by omega
  have hgl : g < w.heap.size := (Array.getElem?_eq_some_iff.1 hg).1
  have hc : w1.cell? ⟨g, j, none⟩ = some (.int .i64 L[j]) := by
    rw [World.cell?_of_block (hg1.block g hgl (by simp; omega)), cell_of_row w g j _ _ _ hg]
    simp [hj]
  have hin : L[j] ∈ L := List.getElem_mem _
  generalize L[j] = y at hc hin
  go_wp2
  go_ret
  exact ⟨_, rfl, hin, hs1, hg1⟩
end Go.Proofs.Ytjpalndcfaeihaa
