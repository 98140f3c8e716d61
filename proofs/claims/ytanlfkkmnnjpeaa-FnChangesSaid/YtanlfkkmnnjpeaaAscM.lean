/- Rising numbers below a bound, as a row that is drawn holds them. No condition. -/
import Derived.Test.YtanlfkkmnnjpeaaPk2
namespace Go.Proofs.Ytanlfkkmnnjpeaa
set_option linter.unusedVariables false
set_option linter.unusedSimpArgs false
open Go.RowKit

/-- Rising numbers below m. -/
def Asc (m : Int) (zs : List Int) : Prop := (∀ z ∈ zs, 0 ≤ z ∧ z < m) ∧ zs.Pairwise (· < ·)
theorem asc_nil (m : Int) : Asc m [] := ⟨by simp, List.Pairwise.nil⟩
theorem asc_more {m : Int} {zs : List Int} (h : Asc m zs) : Asc (m + 1) zs := ⟨fun z hz => by have := h.1 z hz; omega, h.2⟩
theorem asc_snoc {m : Int} {zs : List Int} (h : Asc m zs) (hm : 0 ≤ m) : Asc (m + 1) (zs ++ [m]) := by
  refine ⟨fun z hz => ?_, List.pairwise_append.2 ⟨h.2, List.pairwise_singleton _ _, fun a ha b hb => ?_⟩⟩
  · rcases List.mem_append.1 hz with q | q
    · have := h.1 z q; omega
    · rw [List.mem_singleton.1 q]; omega
  · rw [List.mem_singleton.1 hb]; exact (h.1 a ha).2
theorem asc_len {m : Nat} {zs : List Int} (h : Asc (m : Int) zs) : zs.length ≤ m := by
  induction m generalizing zs with
  | zero =>
    cases zs with
    | nil => exact Nat.le_refl _
    | cons z zs => have := h.1 z (by simp); omega
  | succ m ih =>
    rcases List.eq_nil_or_concat zs with rfl | ⟨pre, z, rfl⟩
    · simp
    · rw [List.concat_eq_append] at h ⊢
      have hz := h.1 z (by simp)
      have p := List.pairwise_append.1 h.2
      have := ih (zs := pre) ⟨fun y hy => by have := h.1 y (by simp [hy]); have := p.2.2 y hy z (by simp); omega, p.1⟩
      simp
      omega
theorem asc_get {m : Int} {zs : List Int} (h : Asc m zs) {j : Nat} (hj : j < zs.length) : 0 ≤ zs.getD j 0 ∧ zs.getD j 0 < m := by
  rw [List.getD_eq_getElem?_getD, List.getElem?_eq_getElem hj]
  exact h.1 _ (List.getElem_mem hj)
theorem asc_rising {m : Int} {zs : List Int} (h : Asc m zs) {most : Int} (hm : m ≤ most + 1) : rising zs most = true := by
  unfold rising
  rw [rise_iff]
  intro k hk
  have hg := asc_get h hk
  unfold riseAt
  have e : inB (zs.getD k 0) 0 most = true := by
    generalize zs.getD k 0 = x at hg ⊢
    simp [inB]; omega
  rw [e, Bool.true_and]
  by_cases c : k = 0
  · simp [c]
  · have lt : zs.getD (k - 1) 0 < zs.getD k 0 := by
      have q : k - 1 < zs.length := by omega
      rw [List.getD_eq_getElem?_getD, List.getElem?_eq_getElem q, List.getD_eq_getElem?_getD, List.getElem?_eq_getElem hk]
      exact List.pairwise_iff_getElem.1 h.2 (k - 1) k q hk (by omega)
    rw [decide_eq_true lt, Bool.or_true]
end Go.Proofs.Ytanlfkkmnnjpeaa
