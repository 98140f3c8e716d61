/- The contract of spec.SampleBody. No condition. -/
import Derived.Test.YtblbmppbbhibeaaBox
namespace Go.Proofs.Ytblbmppbbhibeaa
set_option linter.unusedVariables false
set_option linter.unusedSimpArgs false
open Go.RowKit

def sampleL : List Lb := [⟨0, 1, 4⟩, ⟨0, 2, 6⟩, ⟨1, 3, 3⟩, ⟨1, 4, 3⟩, ⟨2, 5, 5⟩, ⟨2, 6, 5⟩]

theorem ownL_new (w : World) (base g : Nat) (ls : List Lb) (cs : Array Value) (hg : g = w.heap.size) (hc : cs.toList = flatL ls) (hb : base ≤ g) (hm : ls.length ≤ maxLen) :
    OwnL (w.alloc (.cells cs 57)) base (.slice (some ⟨g, 0, none⟩) ls.length ls.length) ls := by
  subst hg
  have hs : cs.size = ls.length * 3 := by rw [← Array.length_toList, hc, flatL_len]
  refine ⟨flatL_len ls, .inr ⟨w.heap.size, ls.length, cs, rfl, hb, heap_alloc_new w _, Nat.le_refl _, hm, hs, ?_⟩⟩
  rw [← hc]
  exact List.take_of_length_le (by rw [Array.length_toList]; omega)

theorem sampleS (w : World) :
    Calls Try.prog 49 #[] w fun e w' => ∃ v, e = .returned (bodyV 7 v) ∧ OwnL w' w.heap.size v sampleL ∧ Below w.heap.size w w' := by
  go_enter Try.func49, Try.ntmps49
  go_wp2
  exact bodyPost_ret (v := bodyV 7 (.slice (some ⟨w.heap.size + 1, 0, none⟩) 6 6)) (by simp [results, Try.results49, go_sem, bodyV]) rfl
    ⟨_, rfl, ownL_new _ _ _ sampleL _ (by simp) rfl (by omega) (by decide), ((Below.refl w.heap.size w).alloc (Nat.le_refl _) _).alloc (by simp) _⟩

end Go.Proofs.Ytblbmppbbhibeaa
