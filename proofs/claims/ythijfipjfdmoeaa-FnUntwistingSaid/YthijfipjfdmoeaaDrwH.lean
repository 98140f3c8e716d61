/- The contract of spec.DrawHome: what it draws are valid crossings, thirty-four at most, behind which all stand as at the beginning. Condition: the bytes can be read. -/
import Derived.Test.YthijfipjfdmoeaaPk9
import Derived.Test.YthijfipjfdmoeaaLstC
import Derived.Test.YthijfipjfdmoeaaPk5
namespace Go.Proofs.Ythijfipjfdmoeaa
set_option linter.unusedVariables false
set_option linter.unusedSimpArgs false
open Go.RowKit

set_option maxRecDepth 100000 in
set_option maxHeartbeats 800000 in
theorem drawHome_any (a : Option Addr) (n cap : Nat) (z : List Int) (w : World) (hr : IsRow .u8 w a n cap z) (hn : n ≤ 1048576) :
    Calls Try.prog 9 #[.slice a n cap] w fun e w' => ∃ (N : Nat) (v : Value) (ls : List RCross), e = .returned (.tuple #[.int .i64 (N : Int), v]) ∧ (2 ≤ N ∧ N ≤ 5) ∧ OwnCross w' w.heap.size v ls ∧ ls.length ≤ 34 ∧ crossOk (N : Int) ls = true ∧ ls.foldl stepA (startL N) = startL N ∧ Below w.heap.size w w' := by
  have C1 := Lib.hid (new_any w a n cap z hr hn)
  have C2 := Lib.hid (fun w' b h => list_any w a n cap z hr w' b h)
  clear hr
  go_enter Try.func9, Try.ntmps9
  go_wp2_with fail
  refine C1.out.mono ?_
  rintro e w1 ⟨b, rfl, s1⟩
  have S1 := Lib.hid s1
  clear s1
  go_wp2_with fail
  refine (C2.out _ _ S1.out).mono ?_
  rintro e w2 ⟨N, v, ls, rfl, hN, o2, hl, hf, s2, g2⟩
  have O2 := Lib.hid (o2.mono S1.out.below.size)
  have B2 := Lib.hid s2.below
  have hok := ok_of (ls := ls) (show 1 ≤ N ∧ N ≤ 7 by omega) (by omega) hf
  have F := home_facts hok hN.2 hl
  have C3 := Lib.hid (specHome (N : Int) v ls _ w2 o2 (by omega))
  obtain ⟨V, c, rfl⟩ := o2.slice
  clear o2 s2 g2 hf hok
  generalize bringHome (N : Int) ls = r at F C3
  obtain ⟨hs, hb⟩ := r
  unfold CrossB at C3
  dsimp only at F C3
  have FF := Lib.hid F
  have hll : ls.length + hs.length ≤ 4000000 := by have := F.2.2.1; rw [List.length_append] at this; omega
  clear F
  go_wp2_with fail
  refine C3.out.mono ?_
  rintro e w3 ⟨vh, rfl, o3, b3⟩
  have O3 := Lib.hid (O2.out.below b3)
  have B3 := Lib.hid (B2.out.trans (b3.mono B2.out.size))
  have H3 := Lib.hid o3
  have hsz := B3.out.size
  clear o3 b3 O2 B2 C3
  go_wp2_with (at_builtin; refine wpList_rowsCross rfl (.tmp 21) (.tmp 22) rfl w.heap.size w2.heap.size (.slice V ls.length c) vh ls hs rfl rfl O3.out H3.out ?_ ?_ ?_; (exact hll); (exact hsz); intro v4 w4 o4 g4 hat4; have B4 := Lib.hid (mineCross B3.out hsz O3.out g4); have O4 := Lib.hid o4; clear o4 g4 hat4)
  go_ret2
  exact ⟨N, _, ls ++ hs, rfl, hN, O4.out, FF.out.2.2.1, FF.out.1, FF.out.2.1, B4.out⟩
end Go.Proofs.Ythijfipjfdmoeaa
