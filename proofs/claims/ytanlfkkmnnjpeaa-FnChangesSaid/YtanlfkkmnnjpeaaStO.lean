/- The cursor, and what grew, past a write behind all that stood at a birth. No condition. -/
import Derived.Test.YtanlfkkmnnjpeaaStK
namespace Go.Proofs.Ytanlfkkmnnjpeaa
set_option linter.unusedVariables false
set_option linter.unusedSimpArgs false
open Go.RowKit

section
variable {w0 : World} {a : Option Addr} {n cap : Nat} {w : World} {b : Nat} {W W' : World}
/-- A write past all that stood at the birth. -/
theorem st_other (hs : St w0 a n cap W b) (hle : w0.heap.size ≤ w.heap.size) (hcu : b < w.heap.size) (hb : Below w.heap.size W W') : St w0 a n cap W' b := by
  obtain ⟨i, x, h0, h1, hc⟩ := hs.cur
  exact ⟨hs.below.trans (hb.mono hle), hs.own, i, x, h0, h1, (hb.block b hcu).trans hc⟩
theorem gr_other (hg : w.grownBy W (some b)) (hb : Below w.heap.size W W') : w.grownBy W' (some b) :=
  ⟨hb.os.trans hg.os, hb.tape.trans hg.tape, hb.output.trans hg.output, Nat.le_trans hg.size hb.size, fun k hk hne => (hb.block k hk).trans (hg.block k hk hne)⟩
end
end Go.Proofs.Ytanlfkkmnnjpeaa
