/- A call that could start goroutines and starts none: the contract of a call of one goroutine gives the contract of a call that leaves none behind. No condition. -/
import Derived.Test.YtdbpejjbinbiiaaFrame
import Derived.Conc.LeavingOf
namespace Go.Proofs.Ytdbpejjbinbiiaa
set_option linter.unusedVariables false
open Go

theorem atReturn_alone {P : Program} {m : Machine} {w : World} {t : Trace} (h : aloneAtReturn P m w t) : leavingAtReturn P m w t := by
  obtain ⟨hq, ho, he⟩ := h
  refine ⟨ho, ⟨fun g hg => ⟨0, ?_⟩, hq.2⟩, he⟩
  have := List.all_eq_true.1 hq.1 g hg
  simpa [Goroutine.LeavesIn] using this

theorem leaving_of_handed {a : Assume} {C : Checked} {os : Os} {f : FuncId} {r : Reach} {Pre : World → Array Value → Prop} {Post : World → Array Value → Value → World → Prop}
    (h : ReturnsInHanded a C os f r Pre Post) : ReturnsInLeavingWide a C os f r Pre Post := fun enter =>
  ReturnsInOpen.mono (fun _ _ _ x => atReturn_alone x) (fun _ x => x) (h enter)
end Go.Proofs.Ytdbpejjbinbiiaa
