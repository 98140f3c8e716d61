/- A body that came in as an argument: how it is opened to its limbs, measured and kept. No condition. -/
import Derived.Test.YtblbmppbbhibeaaBox
import Derived.Test.YtblbmppbbhibeaaFrame
import Derived.Deep.Slices
import Derived.Lib.SmallJoins
import Derived.ChangeSame
namespace Go.Proofs.Ytblbmppbbhibeaa
set_option linter.unusedVariables false
set_option linter.unusedSimpArgs false
open Go.RowKit Go.ChangeShapes Go.WideShapes Go.ChangeAt Go.Deep Go.Joins

theorem boxAt_any (w : World) (t : TypeId) (J : Int) (v : Value) : BoxAt (w.alloc (.cells #[.int .i64 J, v] t)) w.heap.size J v := by
  unfold BoxAt
  simp [go_sem]
/-- What a law's call keeps while it goes on: the argument's box, the argument, and all that is elder. -/
def Stay (w : World) (J : Int) (a : Option Addr) (cap : Nat) (ls : List Lb) (W : World) : Prop :=
  BoxAt W w.heap.size J (.slice a ls.length cap) ∧ ArgL W a ls ∧ Below w.heap.size w W ∧ w.heap.size + 1 ≤ W.heap.size
theorem stay_new {w : World} {J : Int} {a : Option Addr} {cap : Nat} {ls : List Lb} (h : ArgL w a ls) (t : TypeId) : Stay w J a cap ls (w.alloc (.cells #[.int .i64 J, .slice a ls.length cap] t)) :=
  ⟨boxAt_any w t J _, h.alloc _, (Below.refl _ _).alloc (Nat.le_refl _) _, by simp⟩
theorem Stay.below {w W W' : World} {J : Int} {a : Option Addr} {cap : Nat} {ls : List Lb} (h : Stay w J a cap ls W) (hb : Below W.heap.size W W') : Stay w J a cap ls W' :=
  ⟨h.1.below hb, h.2.1.below hb, h.2.2.1.trans (hb.mono h.2.2.1.size), Nat.le_trans h.2.2.2 hb.size⟩
theorem Stay.alloc {w W : World} {J : Int} {a : Option Addr} {cap : Nat} {ls : List Lb} (h : Stay w J a cap ls W) (o : Obj) : Stay w J a cap ls (W.alloc o) := h.below ((Below.refl _ _).alloc (Nat.le_refl _) _)
theorem Stay.drew {w W : World} {J : Int} {a : Option Addr} {cap : Nat} {ls : List Lb} (h : Stay w J a cap ls W) : Stay w J a cap ls W.drew := h.below (Below.refl _ _).drew
/-- A write into a row of the call's own. -/
theorem Stay.grown {w W W' : World} {J : Int} {a : Option Addr} {cap : Nat} {ls : List Lb} {row : Option Nat} (h : Stay w J a cap ls W) (hw : ArgL w a ls) (hg : W.grownBy W' row) (hr : ∀ k, row = some k → w.heap.size + 1 ≤ k) : Stay w J a cap ls W' := by
  have hb := h.2.2.1.grown hg h.2.2.1.size (fun k hk => by have := hr k hk; omega)
  exact ⟨h.1.grown hg (fun e => by have := hr _ e.symm; omega), hw.below hb, hb, Nat.le_trans h.2.2.2 hg.size⟩
theorem szBody_fit (J : Int) (a : Option Addr) (n cap : Nat) (w : World) (h : n ≤ 1048576) :
    Calls Try.prog 19 #[.agg #[.int .i64 J, .slice a n cap], .int .i64 1048576] w fun e w' => e = .returned (.int .i64 (1048576 - (n : Int))) ∧ w' = w.alloc (.cells #[.int .i64 J, .slice a n cap] 37) := by
  have C : ∀ W, Calls Try.prog 41 #[.slice a n cap, .int .i64 1048576] W fun e w' => e = .returned (.int .i64 (1048576 - (n : Int))) ∧ w' = W := fun W => by
    go_enter Try.func41, Try.ntmps41
    go_wp2
    go_ret
    exact ⟨rfl, rfl⟩
  have C := Lib.hid C
  go_enter Try.func19, Try.ntmps19
  go_wp2_with (go_at_call 41; refine (C.out _).mono ?_; rintro e w' ⟨rfl, rfl⟩)
  go_ret
  exact ⟨rfl, rfl⟩
theorem szBody_big (J : Int) (a : Option Addr) (n cap : Nat) (w : World) (h : 1048576 < n) (hm : n ≤ 9223372036854775807) :
    Calls Try.prog 19 #[.agg #[.int .i64 J, .slice a n cap], .int .i64 1048576] w fun e w' => e = .returned (.int .i64 (-1)) ∧ w' = w.alloc (.cells #[.int .i64 J, .slice a n cap] 37) := by
  have C : ∀ W, Calls Try.prog 41 #[.slice a n cap, .int .i64 1048576] W fun e w' => e = .returned (.int .i64 (-1)) ∧ w' = W := fun W => by
    go_enter Try.func41, Try.ntmps41
    go_wp2
    go_ret
    exact ⟨rfl, rfl⟩
  have C := Lib.hid C
  go_enter Try.func19, Try.ntmps19
  go_wp2_with (go_at_call 41; refine (C.out _).mono ?_; rintro e w' ⟨rfl, rfl⟩)
  go_ret
  exact ⟨rfl, rfl⟩

section
variable {H : Type} {enc : TypeId × Value → H} {W : World}
set_option maxRecDepth 100000 in
/-- A slice of limbs that came in. -/
theorem argL_of {d : DataW H × List MemPlace} {fuel : Nat} {v : Value} (h : DataW.trod enc Try.prog W 0 (fun _ => true) true fuel 35 [v] = some d) :
    ∃ a cap ls, v = .slice a (List.length ls) cap ∧ ArgL W a ls ∧ ls.length ≤ maxLen := by
  have hC : (Try.prog).cellsOf 81 = 3 := by kernel_rfl
  rcases open_slice Try.underlying35 h with ⟨h0, _⟩ | ⟨a, len, cap, m, n, D, Pl, hcs, _, hl, hm, hmm, _, hi⟩
  · simp only [List.cons.injEq, and_true] at h0
    exact ⟨none, 0, [], h0, .inl ⟨rfl, rfl⟩, by simp⟩
  · simp only [List.cons.injEq, and_true] at hcs
    have hlm : len ≤ m := by rw [hmm]; split <;> omega
    rw [hC] at hi
    have cell : ∀ i, i < len → ∃ l : Lb, ∀ j v, l.cells[j]? = some v → W.cell? (a.add (i * 3 + j)) = some v := by
      intro i hi'
      obtain ⟨cs', hc, ht⟩ := hi i (by omega)
      obtain ⟨_, hcl, hat⟩ := World.cells?_some hc
      obtain ⟨xs, n', _, _, _, hxl, hf⟩ := DataW.trod_struct Try.underlying81 ht
      have h1 : (Try.prog).cellsOf 3 = 1 := by kernel_rfl
      match cs', hcl with
      | [c0, c1, c2], _ =>
        have g0 : DataW.trod enc Try.prog W 0 (fun _ => true) true n' 3 (List.take ((Try.prog).cellsOf 3) [c0, c1, c2]) = xs[0]? := hf 0 _ rfl
        have g1 : DataW.trod enc Try.prog W 0 (fun _ => true) true n' 3 (List.take ((Try.prog).cellsOf 3) [c1, c2]) = xs[1]? := hf 1 _ rfl
        have g2 : DataW.trod enc Try.prog W 0 (fun _ => true) true n' 3 (List.take ((Try.prog).cellsOf 3) [c2]) = xs[2]? := hf 2 _ rfl
        rw [List.getElem?_eq_getElem (by rw [hxl]; decide)] at g0 g1 g2
        rw [h1] at g0 g1 g2
        obtain ⟨n0, e0, _⟩ := DataW.trod_int Try.underlying3 g0
        obtain ⟨n1, e1, _⟩ := DataW.trod_int Try.underlying3 g1
        obtain ⟨n2, e2, _⟩ := DataW.trod_int Try.underlying3 g2
        have e0 : c0 = .int .i64 n0 := by simpa using e0
        have e1 : c1 = .int .i64 n1 := by simpa using e1
        have e2 : c2 = .int .i64 n2 := by simpa using e2
        refine ⟨⟨n0, n1, n2⟩, fun j v hj => ?_⟩
        have hj3 : j < 3 := (List.getElem?_eq_some_iff.1 hj).1
        rw [← Addr.add_add, hat j hj3, ← hj, e0, e1, e2]
        rfl
    obtain ⟨ls, hls, hx⟩ := list_of (fun i (l : Lb) => ∀ j v, l.cells[j]? = some v → W.cell? (a.add (i * 3 + j)) = some v) len cell
    subst hls
    exact ⟨some a, cap, ls, hcs, .inr ⟨a, rfl, fun k hk j v hv => hx k hk j v hv⟩, by omega⟩
/-- A body that came in. -/
theorem open_body {b0 : Nat} {v : Value} {d : DataW H} {p : List MemPlace} (hv : Value.okWide Try.prog W .any b0 37 v) (h : DataW.Trod enc Try.prog W 0 (fun _ => true) true 37 v d p) :
    ∃ J a cap ls, v = .agg #[.int .i64 J, .slice a (List.length ls) cap] ∧ ArgL W a ls ∧ ls.length ≤ maxLen := by
  obtain ⟨v0, v1, y0, y1, n, rfl, _, _, h0, h1⟩ := open_agg2 Try.underlying37 (by kernel_rfl) (by kernel_rfl) hv h
  obtain ⟨J, e0, _⟩ := DataW.trod_int Try.underlying3 h0
  obtain ⟨a, cap, ls, e1, ha, hl⟩ := argL_of h1
  have e0 : v0 = .int .i64 J := by simpa using e0
  exact ⟨J, a, cap, ls, by rw [e0, e1], ha, hl⟩
end
end Go.Proofs.Ytblbmppbbhibeaa
