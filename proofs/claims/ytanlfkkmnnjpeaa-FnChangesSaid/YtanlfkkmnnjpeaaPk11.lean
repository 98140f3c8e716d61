/- Texts of this seat laid together, each with its own first sentence below: NwzM NwvM NwuM BkxI RndA ChzM. -/
import Derived.Test.YtanlfkkmnnjpeaaPk10
import Derived.Test.YtanlfkkmnnjpeaaPk4
import Derived.Test.YtanlfkkmnnjpeaaPk7
import Derived.Test.YtanlfkkmnnjpeaaPk1
import Derived.Test.YtanlfkkmnnjpeaaPk6
import Derived.RangeFuncCalls
import Derived.RangeFuncLeaves
import Derived.RangeFuncNested
import Derived.RangeFuncBound
import Derived.Shelf.Abstract
import Derived.Shelf.RegionOpen
import Derived.WalkKit
import Derived.OwnWalkIn
import Derived.TacticsInMore
import Derived.LoopNIn
import Derived.LoopIn
import Derived.StillTailTactics
import Derived.RangeFuncFrom
import Derived.OrdersIn
import Derived.OrdersHeld
/- What the rows of ways hold while the program walks back through the night: bounds in whatever order the moments come, the least sums in the right one. No condition. -/
namespace Go.Proofs.Ytanlfkkmnnjpeaa
set_option linter.unusedVariables false
set_option linter.unusedSimpArgs false
open Go.RowKit

def LowR (r : Nat) (l : RWay) : Prop := l.ps.length ≤ 4 ∧ l.cs.length ≤ 4 ∧ -(100 * (r : Int)) ≤ l.ah ∧ l.ah ≤ 100 * (r : Int)
theorem LowR.up {r s : Nat} {l : RWay} (h : LowR r l) (hs : r ≤ s) : LowR s l := ⟨h.1, h.2.1, by have := h.2.2.1; omega, by have := h.2.2.2; omega⟩
theorem LowR.low {r : Nat} {l : RWay} (h : LowR r l) (hr : r ≤ 6) : Low l := ⟨by have := h.1; omega, by have := h.2.1; omega, by have := h.2.2.1; omega, by have := h.2.2.2; omega⟩
theorem changes_16 {ps c nx d : List Int} (h1 : ps.length ≤ 4) (h2 : nx.length ≤ 4) : -1 ≤ changesB ps c nx d ∧ changesB ps c nx d ≤ 16 := by
  have q := chTo_small ps c nx d ps.length
  have e : (nx.length : Int) * (ps.length : Int) ≤ 4 * 4 := Int.mul_le_mul (by omega) (by omega) (by omega) (by omega)
  unfold changesB
  split <;> omega
theorem sz_low {r : Nat} {ps c : List Int} {l : RWay} (h : LowR r l) (hp : ps.length ≤ 4) : -(100 * ((r + 1 : Nat) : Int)) ≤ sz ps c l ∧ sz ps c l ≤ 100 * ((r + 1 : Nat) : Int) := by
  have a := changes_16 (c := c) (d := l.cs) hp h.1
  obtain ⟨_, _, h3, h4⟩ := h
  unfold sz
  omega
structure DAT (n r : Nat) (T : Nat → List RWay) (nx : List RWay) : Prop where
  len : ∀ m, m < n → (T m).length ≤ 1300 * r
  low : ∀ m, m < n → ∀ l ∈ T m, LowR r l
  nlen : nx.length ≤ 1300 * r + 1
  nlow : ∀ l ∈ nx, LowR r l
structure RGT (w : World) (ls : List RPlayer) (nt : List (List Int)) (k : Nat) (W : World) (T : Nat → List RWay) (nx : List RWay) : Prop where
  new : ∀ m, m < nt.length → nt.length ≤ m + k → IsWays ls nt m (T m) ∧ 1 ≤ (T m).length ∧ ∀ i, i < (csM ls nt m).length → 0 ≤ (costAt ls nt m).getD i 0
  old : ∀ m, m + k < nt.length → T m = []
  z : k = 0 → nx = [RWay.zero]
  nxt : 0 < k → nx = T (nt.length - k)
  gap : ∃ lo hi : Nat → Nat, ∀ m, m < nt.length → nt.length ≤ m + k → (∀ l ∈ T m, ∀ b, l.u2.ownBlock = some b → lo m ≤ b ∧ b < hi m) ∧ w.heap.size ≤ lo m ∧ hi m ≤ W.heap.size ∧ (m + 1 < nt.length → hi (m + 1) ≤ lo m) ∧ lo m ≤ hi m
/-- The new ways of moment m, as far as they have come. -/
structure YS (ls : List RPlayer) (nt : List (List Int)) (m : Nat) (nx : List RWay) (lo hi i : Nat) (ys : List RWay) : Prop where
  len : ys.length = i
  key : ∀ j, j < i → (ys.getD j RWay.zero).ps = nt.getD m [] ∧ (ys.getD j RWay.zero).cs = (csM ls nt m).getD j [] ∧ (ys.getD j RWay.zero).ah = sz (nt.getD m []) ((csM ls nt m).getD j []) (bestW (sz (nt.getD m []) ((csM ls nt m).getD j [])) nx)
  blk : ∀ l ∈ ys, ∀ b, l.u2.ownBlock = some b → lo ≤ b ∧ b < hi
section
variable {w W W' : World} {ls : List RPlayer} {nt : List (List Int)} {m k n r lo hi i : Nat} {T : Nat → List RWay} {nx ys : List RWay}
theorem YS.nil (ls : List RPlayer) (nt : List (List Int)) (m : Nat) (nx : List RWay) (lo hi : Nat) : YS ls nt m nx lo hi 0 [] := ⟨rfl, fun j hj => absurd hj (by omega), fun l hl => by cases hl⟩
theorem YS.snoc {l : RWay} (h : YS ls nt m nx lo hi i ys) (h1 : l.ps = nt.getD m []) (h2 : l.cs = (csM ls nt m).getD i []) (h3 : l.ah = sz (nt.getD m []) ((csM ls nt m).getD i []) (bestW (sz (nt.getD m []) ((csM ls nt m).getD i [])) nx)) (h4 : ∀ b, l.u2.ownBlock = some b → lo ≤ b ∧ b < hi) : YS ls nt m nx lo hi (i + 1) (ys ++ [l]) := by
  refine ⟨by rw [List.length_append, h.len]; rfl, fun j hj => ?_, fun x hx => ?_⟩
  · rcases (by omega : j < i ∨ j = i) with q | rfl
    · rw [List.getD_eq_getElem?_getD, List.getElem?_append_left (by rw [h.len]; exact q), ← List.getD_eq_getElem?_getD]
      exact h.key j q
    · have e : (ys ++ [l]).getD j RWay.zero = l := by rw [List.getD_eq_getElem?_getD, List.getElem?_append_right (by rw [h.len]; exact Nat.le_refl _), h.len, Nat.sub_self]; rfl
      rw [e]
      exact ⟨h1, h2, h3⟩
  · rcases List.mem_append.1 hx with q | q
    · exact h.blk x q
    · rw [List.mem_singleton.1 q]; exact h4
theorem bestW_mem (s : RWay → Int) {xs : List RWay} (h : 1 ≤ xs.length) : bestW s xs ∈ xs := bestAt_mem s (by omega)
theorem YS.low (h : YS ls nt m nx lo hi i ys) (hp : (nt.getD m []).length ≤ 4) (hc : ∀ j, j < i → ((csM ls nt m).getD j []).length ≤ 4) (hx : ∀ l ∈ nx, LowR r l) (h1 : 1 ≤ nx.length) : ∀ l ∈ ys, LowR (r + 1) l := by
  intro l hl
  obtain ⟨j, hj, rfl⟩ := List.mem_iff_getElem.1 hl
  have hj2 : j < i := by rw [← h.len]; exact hj
  have e : ys.getD j RWay.zero = ys[j] := by rw [List.getD_eq_getElem?_getD, List.getElem?_eq_getElem hj]; rfl
  obtain ⟨a, b, c⟩ := h.key j hj2
  rw [e] at a b c
  have S := sz_low (ps := nt.getD m []) (c := (csM ls nt m).getD j []) (hx _ (bestW_mem (sz (nt.getD m []) ((csM ls nt m).getD j [])) h1)) hp
  unfold LowR
  rw [a, b, c]
  exact ⟨hp, hc j hj2, S.1, S.2⟩
theorem DAT.step (D : DAT n r T nx) (hm : m < n) (hl : ∀ l ∈ ys, LowR (r + 1) l) (hy : ys.length ≤ 1296) : DAT n (r + 1) (upd T m (T m ++ ys)) (T m ++ ys) := by
  have hmm : (T m ++ ys).length ≤ 1300 * (r + 1) := by rw [List.length_append]; have := D.len m hm; omega
  have hll : ∀ l ∈ T m ++ ys, LowR (r + 1) l := fun l h => by
    rcases List.mem_append.1 h with q | q
    · exact (D.low m hm l q).up (by omega)
    · exact hl l q
  refine ⟨fun j hj => ?_, fun j hj => ?_, by omega, hll⟩
  · by_cases q : j = m
    · subst q; rw [upd_same]; exact hmm
    · rw [upd_other _ _ q]; have := D.len j hj; omega
  · by_cases q : j = m
    · subst q; rw [upd_same]; exact hll
    · rw [upd_other _ _ q]; exact fun l h => (D.low j hj l h).up (by omega)
theorem RGT.first (hn : 1 ≤ nt.length) (hT : ∀ m, m < nt.length → T m = []) : RGT w ls nt 0 W T [RWay.zero] :=
  ⟨fun m h1 h2 => absurd h1 (by omega), fun m h => hT m (by omega), fun _ => rfl, fun h => absurd h (by omega), ⟨fun _ => 0, fun _ => 0, fun m h1 h2 => absurd h1 (by omega)⟩⟩
theorem RGT.step (R : RGT w ls nt k W T nx) (hm : m + k + 1 = nt.length) (Y : YS ls nt m nx lo hi (csM ls nt m).length ys) (hne : 1 ≤ ys.length) (hlo : W.heap.size ≤ lo) (hlh : lo ≤ hi) (hhi : hi ≤ W'.heap.size) (hw : w.heap.size ≤ W.heap.size) : RGT w ls nt (k + 1) W' (upd T m (T m ++ ys)) (T m ++ ys) := by
  have hT : T m = [] := R.old m (by omega)
  have ns : nt.length - (k + 1) = m := by omega
  rw [hT, List.nil_append]
  -- the new row's sums are the least
  have K : ∀ i, i < (csM ls nt m).length → sz (nt.getD m []) ((csM ls nt m).getD i []) (bestW (sz (nt.getD m []) ((csM ls nt m).getD i [])) nx) = (costAt ls nt m).getD i 0 ∧ 0 ≤ (costAt ls nt m).getD i 0 := fun i hi => by
    rcases Nat.eq_zero_or_pos k with k0 | k1
    · rw [R.z k0]
      refine ⟨ah_last (by omega) hi, ?_⟩
      rw [cost_last ls (by omega) hi]
      exact Int.le_refl _
    · have e : nt.length - k = m + 1 := by omega
      rw [R.nxt k1, e]
      obtain ⟨h1, h2, h3⟩ := R.new (m + 1) (by omega) (by omega)
      refine ⟨ah_next (by omega) hi h1 h2 (fun q hq => h3 q (by rw [← h1.1]; exact hq)), ?_⟩
      have h2' : 0 < (csM ls nt (m + 1)).length := by rw [← h1.1]; exact h2
      exact ((cost_step (by omega) hi).2 0 h2' (h3 0 h2')).1
  have IW : IsWays ls nt m ys := ⟨Y.len, fun i hi => by
    rw [Y.len] at hi
    obtain ⟨a, b, c⟩ := Y.key i hi
    exact ⟨a, b, c.trans (K i hi).1⟩⟩
  refine ⟨fun j h1 h2 => ?_, fun j h => ?_, fun h => absurd h (by omega), fun _ => by rw [ns, upd_same], ?_⟩
  · by_cases q : j = m
    · subst q
      rw [upd_same]
      exact ⟨IW, hne, fun i hi => (K i hi).2⟩
    · rw [upd_other _ _ q]
      exact R.new j h1 (by omega)
  · rw [upd_other _ _ (by omega)]
    exact R.old j (by omega)
  · obtain ⟨lo', hi', G⟩ := R.gap
    refine ⟨upd lo' m lo, upd hi' m hi, fun j h1 h2 => ?_⟩
    by_cases q : j = m
    · subst q
      rw [upd_same, upd_same, upd_same]
      refine ⟨Y.blk, by omega, hhi, fun hj => ?_, hlh⟩
      rw [upd_other _ _ (by omega)]
      have := (G (j + 1) hj (by omega)).2.2.1
      omega
    · obtain ⟨g1, g2, g3, g4, g5⟩ := G j h1 (by omega)
      rw [upd_other _ _ q, upd_other _ _ q, upd_other _ _ q]
      refine ⟨g1, g2, by omega, fun hj => ?_, g5⟩
      rw [upd_other _ _ (by omega)]
      exact g4 hj
end
end Go.Proofs.Ytanlfkkmnnjpeaa

/- The invariant of the program's way back through the night, whatever moments come; what waysThrough answers. No condition. -/
namespace Go.Proofs.Ytanlfkkmnnjpeaa
set_option linter.unusedVariables false
set_option linter.unusedSimpArgs false
open Go.RowKit

section
variable {w W W' : World} {row : Option Nat} {base n : Nat} {v : Value} {P : Nat → Prop}
/-- A row of one's own lies in cells: whatever turns no cells keeps it. -/
theorem row_other {e : TypeId} {K : Nat} {vs : List Value} (h : W.ownsRow base e K v n vs) (hr : ∀ r, row = some r → ∃ o : Obj, W.heap[r]? = some o ∧ o.isCells = false) : v.ownBlock = none ∨ v.ownBlock ≠ row := by
  rcases h.2 with ⟨rfl, _⟩ | ⟨g, cap, cur, rfl, _, hg, _⟩
  · exact .inl rfl
  · refine .inr fun e => ?_
    obtain ⟨o, ho, hc⟩ := hr g e.symm
    rw [hg] at ho
    rw [← Option.some.inj ho] at hc
    cases hc
theorem OwnI.other {zs : List Int} (h : OwnI W base v zs) (hg : W.grownBy W' row) (hr : ∀ r, row = some r → ∃ o : Obj, W.heap[r]? = some o ∧ o.isCells = false) : OwnI W' base v zs := h.kept hg (row_other h hr)
theorem WayOk.other {l : RWay} (h : WayOk W P l) (hg : W.grownBy W' row) (hr : ∀ r, row = some r → ∃ o : Obj, W.heap[r]? = some o ∧ o.isCells = false) : WayOk W' P l := ⟨h.o1.other hg hr, h.o2.other hg hr, h.p1, h.p2⟩
theorem OwnW.other {xs : List RWay} (h : OwnW W base P v xs) (hg : W.grownBy W' row) (hr : ∀ r, row = some r → ∃ o : Obj, W.heap[r]? = some o ∧ o.isCells = false) : OwnW W' base P v xs :=
  ⟨World.ownsRow.kept h.1 hg (row_other h.1 hr), fun l hl => (h.2 l hl).other hg hr⟩
theorem View.other {xs : List RWay} (h : View W P v xs) (hg : W.grownBy W' row) (hr : ∀ r, row = some r → ∃ o : Obj, W.heap[r]? = some o ∧ o.isCells = false) : View W' P v xs :=
  h.keep hg.size (fun g _ j u _ hc => cell_kept hc hg hr) (fun l hl => (h.ok l hl).other hg hr)
theorem Bx.other {b : Nat} (h : Bx W b v) (hg : W.grownBy W' row) (hr : ∀ r, row = some r → ∃ o : Obj, W.heap[r]? = some o ∧ o.isCells = false) : Bx W' b v := ⟨cell_kept h.1 hg hr, (frozen_kept h.1 hg hr).trans h.2⟩
end
section
variable {w W W' : World} {row : Option Nat} {n g2 g4 g5 g6 gw B0 : Nat} {lv : Value} {V : Nat → Value} {T : Nat → List RWay} {vn : Value} {nx : List RWay}
theorem MW.other (h : MW w n g2 g4 g5 g6 gw B0 lv W V T vn nx) (hw : w.heap.size ≤ B0) (hg : W.grownBy W' row) (hr : ∀ r, row = some r → B0 ≤ r ∧ ∃ o : Obj, W.heap[r]? = some o ∧ o.isCells = false) : MW w n g2 g4 g5 g6 gw B0 lv W' V T vn nx := by
  have hr2 : ∀ r, row = some r → ∃ o : Obj, W.heap[r]? = some o ∧ o.isCells = false := fun r e => (hr r e).2
  exact ⟨cell_kept h.c2 hg hr2, h.c4.other hg hr2, cell_kept h.c5 hg hr2, h.c6.other hg hr2, fun m hm => by
    obtain ⟨a, b, c⟩ := h.row m hm
    exact ⟨cell_kept a hg hr2, (frozen_kept a hg hr2).trans b, (c.other hg hr2).widen (fun i p => p.more hg.size)⟩,
   h.ap, (h.nxt.other hg hr2).widen (fun i p => p.more hg.size), h.one, h.ald, h.vnb, Nat.le_trans h.top hg.size, h.be.grown hg h.be.size (fun k e => by have := (hr k e).1; omega)⟩
/-- The rows lie there still, behind a write of the result. -/
theorem MW.fin {W8 W9 : World} {x : Value} (h : MW w n g2 g4 g5 g6 gw B0 lv W V T vn nx) (A : VarA w g2 g4 g5 g6 gw B0) (n4 : g4 ≠ gw) (h8 : W8 = W.setCell ⟨g4, 0, none⟩ x) (hg : W8.grownBy W9 row) (hr : ∀ r, row = some r → ∃ o : Obj, W8.heap[r]? = some o ∧ o.isCells = false) :
    ∀ m, m < n → W9.cell? ⟨gw, m, none⟩ = some (V m) ∧ OwnW W9 B0 (fun _ => True) (V m) (T m) := by
  intro m hm
  obtain ⟨a, b, c⟩ := h.row m hm
  have g := grownIn_cell W ⟨g4, 0, none⟩ x
  obtain ⟨l1, l2, l3, l4, l5⟩ := A.lo
  obtain ⟨u1, u2, u3, u4, u5⟩ := A.hi
  subst h8
  have c8 := (c.in g (fun i e q => by have := (c.lt i e).1; have e2 : g4 = i := q; omega) (fun i p q => by have e2 : g4 = i := q; rcases p.1 with z | z <;> omega)).widen (P' := fun _ => True) (fun _ _ => trivial)
  exact ⟨cell_kept (g.cell a (fun e => n4 e)) hg hr, c8.other hg hr⟩
end
theorem RGT.later {w W W' : World} {ls : List RPlayer} {nt : List (List Int)} {k : Nat} {T : Nat → List RWay} {nx : List RWay} (R : RGT w ls nt k W T nx) (hs : W.heap.size ≤ W'.heap.size) : RGT w ls nt k W' T nx :=
  ⟨R.new, R.old, R.z, R.nxt, by
    obtain ⟨lo, hi, G⟩ := R.gap
    exact ⟨lo, hi, fun m h1 h2 => by obtain ⟨a, b, c, d⟩ := G m h1 h2; exact ⟨a, b, by omega, d⟩⟩⟩
abbrev MomN (n : Nat) := { m : Nat // m < n }
def backM {n : Nat} (h : 1 ≤ n) (k : Nat) : MomN n := ⟨n - 1 - k, by omega⟩
def uptoM {n : Nat} (h : 1 ≤ n) (k : Nat) : List (MomN n) := (List.range k).map (backM h)
theorem uptoM_len {n : Nat} (h : 1 ≤ n) (k : Nat) : (uptoM h k).length = k := by simp [uptoM]
theorem uptoM_snoc {n : Nat} {h : 1 ≤ n} {k : Nat} {pre : List (MomN n)} {x : MomN n} (e : pre ++ [x] = uptoM h k) : ∃ j, k = j + 1 ∧ pre = uptoM h j ∧ x = backM h j := by
  cases k with
  | zero => simp [uptoM] at e
  | succ j =>
    refine ⟨j, rfl, ?_⟩
    unfold uptoM at e
    rw [List.range_succ, List.map_append] at e
    have := List.append_inj' e rfl
    exact ⟨this.1, by simpa using this.2⟩
/-- Between two rounds. -/
def INV (w : World) (ls : List RPlayer) (nt : List (List Int)) (hn : 1 ≤ nt.length) (g2 g4 g5 g6 gw B0 : Nat) (lv : Value) (pre : List (MomN nt.length)) (W : World) : Prop :=
  ∃ V T vn nx, MW w nt.length g2 g4 g5 g6 gw B0 lv W V T vn nx ∧ DAT nt.length pre.length T nx ∧ ∀ k, pre = uptoM hn k → RGT w ls nt k W T nx
/-- A round has returned: some moment has no casting. -/
def INX (w : World) (ls : List RPlayer) (nt : List (List Int)) (hn : 1 ≤ nt.length) (g4 : Nat) (c : Code) (pre : List (MomN nt.length)) (W : World) : Prop :=
  c = .ret ∧ W.cell? ⟨g4, 0, none⟩ = some (.slice none 0 0) ∧ Below w.heap.size w W ∧ ∀ k, pre = uptoM hn k → ∃ m, m < nt.length ∧ csM ls nt m = []
/-- What lies behind the call. -/
structure TabW (w w' : World) (ls : List RPlayer) (nt : List (List Int)) (g : Nat) (X : Nat → List RWay) : Prop where
  cell : ∀ m, m < nt.length → ∃ V, w'.cell? ⟨g, m, none⟩ = some V ∧ View w' (fun _ => True) V (X m)
  ways : ∀ m, m < nt.length → IsWays ls nt m (X m) ∧ 1 ≤ (X m).length
  low : ∀ m, m < nt.length → ∀ l ∈ X m, Low l
  few : ∀ m, m < nt.length → (X m).length ≤ 100000
  gap : ∃ lo hi : Nat → Nat, ∀ m, m < nt.length → (∀ l ∈ X m, ∀ b, l.u2.ownBlock = some b → lo m ≤ b ∧ b < hi m) ∧ w.heap.size ≤ lo m ∧ hi m ≤ w'.heap.size ∧ (m + 1 < nt.length → hi (m + 1) ≤ lo m) ∧ lo m ≤ hi m
def WatPost (w : World) (ls : List RPlayer) (nt : List (List Int)) (e : Ending) (w' : World) : Prop :=
  ∃ x, e = .returned x ∧ Below w.heap.size w w' ∧ ((∃ g X, x = .slice (some ⟨g, 0, none⟩) nt.length nt.length ∧ nightOk ls nt = true ∧ TabW w w' ls nt g X) ∨ (x = .slice none 0 0 ∧ (nightOk ls nt = false ∨ nightOk ls nt = true ∧ ∃ m, m < nt.length ∧ csM ls nt m = [])))
theorem tab_done {w W W8 W9 : World} {ls : List RPlayer} {nt : List (List Int)} {hn : 1 ≤ nt.length} {row : Option Nat} {g2 g4 g5 g6 gw B0 : Nat} {lv x : Value} (h6 : nt.length ≤ 6) (I : INV w ls nt hn g2 g4 g5 g6 gw B0 lv (uptoM hn nt.length) W) (A : VarA w g2 g4 g5 g6 gw B0) (n4 : g4 ≠ gw) (h8 : W8 = W.setCell ⟨g4, 0, none⟩ x) (hg : W8.grownBy W9 row) (hr : ∀ r, row = some r → ∃ o : Obj, W8.heap[r]? = some o ∧ o.isCells = false) : ∃ X, TabW w W9 ls nt gw X := by
  obtain ⟨V, T, vn, nx, M, D, R⟩ := I
  have R := R nt.length rfl
  have F := M.fin A n4 h8 hg hr
  have hs : W.heap.size ≤ W9.heap.size := by have := hg.size; rw [h8] at this; simpa [World.setCell] using this
  refine ⟨T, ⟨fun m hm => ?_, fun m hm => ?_, fun m hm l hl => ?_, fun m hm => ?_, ?_⟩⟩
  · obtain ⟨a, b⟩ := F m hm
    exact ⟨V m, a, b.view (R.new m hm (by omega)).2.1⟩
  · obtain ⟨a, b, _⟩ := R.new m hm (by omega)
    exact ⟨a, b⟩
  · exact (D.low m hm l hl).low (by rw [uptoM_len]; exact h6)
  · have := D.len m hm
    rw [uptoM_len] at this
    omega
  · obtain ⟨lo, hi, G⟩ := (R.later hs).gap
    exact ⟨lo, hi, fun m hm => G m hm (by omega)⟩
end Go.Proofs.Ytanlfkkmnnjpeaa

/- One round of the program's way back through the night: what lies there between two castings; the ends of the round. No condition. -/
namespace Go.Proofs.Ytanlfkkmnnjpeaa
set_option linter.unusedVariables false
set_option linter.unusedSimpArgs false
open Go.RowKit

theorem keeps_below {W W' : World} (h : Below W.heap.size W W') : KeepsOthers W W' := KeepsOthers.of_grownBy (grown_of_below h none) (fun j o e => by cases e)
theorem keep2_below {b1 b2 : Nat} {W W' : World} (h : Below W.heap.size W W') : Keep2 b1 b2 W W' := Keep2.grown (grown_of_below h none) (by simp) (by simp)
theorem upd_twice {α : Type} (f : Nat → α) (m : Nat) (x y : α) : upd (upd f m x) m y = upd f m y := by
  funext j
  unfold upd
  split <;> rfl
theorem upd_id {α : Type} (f : Nat → α) (m : Nat) : upd f m (f m) = f := by
  funext j
  unfold upd
  split
  · next h => rw [h]
  · rfl
/-- One row of a row of rows: its cell, its numbers, its block. -/
theorem OwnRB.at {w : World} {base top : Nat} {v : Value} {zss : List (List Int)} (h : OwnRB w base top v zss) {k : Nat} (hk : k < zss.length) :
    ∃ g c A c', v = .slice (some ⟨g, 0, none⟩) zss.length c ∧ w.cell? ⟨g, k, none⟩ = some (.slice A zss[k].length c') ∧ OwnI w base (.slice A zss[k].length c') zss[k] ∧ ∀ b, (Value.slice A zss[k].length c').ownBlock = some b → base ≤ b ∧ b < top := by
  obtain ⟨vs, x, t1, t2⟩ := h
  have hv : k < vs.length := by rw [x.len]; exact hk
  have O := x.each k hv hk
  obtain ⟨A, c', e⟩ := O.slice
  rcases x.row.2 with ⟨_, hn⟩ | ⟨g, cap, cur, rfl, hb, hg, _⟩
  · omega
  · refine ⟨g, cap, A, c', rfl, ?_, e ▸ O, fun b hb2 => ⟨(O.lt b (e ▸ hb2)).1, t2 k hv b (e ▸ hb2)⟩⟩
    rw [World.ownsRow.cellAt x.row k (by omega)]
    simp only [Nat.mul_one] at *
    rw [List.getElem?_eq_getElem hv, e]
structure STB (w : World) (ls : List RPlayer) (nt : List (List Int)) (g2 g4 g5 g6 gw B0 : Nat) (lv : Value) (W : World) (hi gn Bs m : Nat) (T0 : Nat → List RWay) (vn : Value) (nx : List RWay) (vc : Value) (cs : List (List Int)) (i : Nat) (wr : World) (V : Nat → Value) (ys : List RWay) : Prop where
  M : MW w nt.length g2 g4 g5 g6 gw B0 lv wr V (upd T0 m (T0 m ++ ys)) vn nx
  Y : YS ls nt m nx W.heap.size hi i ys
  C : OwnRB wr W.heap.size hi vc cs
  KO : KeepsOthers W wr
  K2 : Keep2 gn Bs W wr
  big : hi ≤ wr.heap.size
  far : ∀ j, j < nt.length → ∀ b, (V j).ownBlock = some b → b < W.heap.size ∨ hi ≤ b
section
variable {w : World} {ls : List RPlayer} {nt : List (List Int)} {g2 g4 g5 g6 gw B0 : Nat} {lv : Value} {W : World} {hi gn Bs m : Nat} {T0 : Nat → List RWay} {vn : Value} {nx : List RWay} {vc : Value} {cs : List (List Int)} {i : Nat} {wr : World} {V : Nat → Value} {ys : List RWay}
theorem STB.start {wc : World} (M : MW w nt.length g2 g4 g5 g6 gw B0 lv W V T0 vn nx) (hb : Below W.heap.size W wc) (oc : OwnR wc W.heap.size vc cs) : STB w ls nt g2 g4 g5 g6 gw B0 lv W wc.heap.size gn Bs m T0 vn nx vc cs 0 wc V [] :=
  ⟨by rw [List.append_nil, upd_id]; exact M.below hb, YS.nil _ _ _ _ _ _, oc.bound, keeps_below hb, keep2_below hb, Nat.le_refl _, fun j hj b e => .inl ((M.row j hj).2.2.lt b e).2⟩
theorem STB.below {w7 : World} (h : STB w ls nt g2 g4 g5 g6 gw B0 lv W hi gn Bs m T0 vn nx vc cs i wr V ys) (hb : Below wr.heap.size wr w7) : STB w ls nt g2 g4 g5 g6 gw B0 lv W hi gn Bs m T0 vn nx vc cs i w7 V ys :=
  ⟨h.M.below hb, h.Y, h.C.below hb, h.KO.trans (keeps_below hb), h.K2.trans (keep2_below hb), Nat.le_trans h.big hb.size, h.far⟩
theorem STB.push {w8 : World} {v8 : Value} {l : RWay} (h : STB w ls nt g2 g4 g5 g6 gw B0 lv W hi gn Bs m T0 vn nx vc cs i wr V ys) (A : VarA w g2 g4 g5 g6 gw B0) (hm : m < nt.length) (hgn : gn < w.heap.size) (hBs : Bs ≠ gw ∧ Bs < B0) (hW : B0 ≤ W.heap.size)
    (o : OwnW w8 B0 (PV w nt.length B0 V wr) v8 ((T0 m ++ ys) ++ [l])) (hg : wr.grownBy w8 (V m).ownBlock) (hat : v8.ownBlock = (V m).ownBlock ∨ v8.ownBlock = some wr.heap.size)
    (eld : ∀ g j u, wr.cell? ⟨g, j, none⟩ = some u → ((V m).ownBlock = some g → j < (T0 m ++ ys).length * 3) → w8.cell? ⟨g, j, none⟩ = some u)
    (h1 : l.ps = nt.getD m []) (h2 : l.cs = (csM ls nt m).getD i []) (h3 : l.ah = sz (nt.getD m []) ((csM ls nt m).getD i []) (bestW (sz (nt.getD m []) ((csM ls nt m).getD i [])) nx)) (h4 : ∀ b, l.u2.ownBlock = some b → W.heap.size ≤ b ∧ b < hi) :
    STB w ls nt g2 g4 g5 g6 gw B0 lv W hi gn Bs m T0 vn nx vc cs (i + 1) (w8.setCell ⟨gw, m, none⟩ v8) (upd V m v8) (ys ++ [l]) := by
  have e : upd T0 m (T0 m ++ ys) m = T0 m ++ ys := upd_same _ _ _
  obtain ⟨M', G⟩ := h.M.push A hm (by rw [e]; exact o) hg hat (by rw [e]; exact eld)
  rw [e, upd_twice, List.append_assoc] at M'
  have hVm := (h.M.row m hm).2.2.lt
  obtain ⟨l1, l2, l3, l4, l5⟩ := A.lo
  obtain ⟨u1, u2, u3, u4, u5⟩ := A.hi
  have hg8 := (grownIn_of hg).size
  refine ⟨M', h.Y.snoc h1 h2 h3 h4, h.C.outOf G (fun k p => ?_), ?_, fun a u ha hc => ?_, by have := G.size; have := h.big; omega, fun j hj b eb => ?_⟩
  · rcases p with p | p
    · exact .inl (by omega)
    · exact h.far m hm k p
  · refine h.KO.trans ((KeepsOthers.of_grownBy hg (fun j o' e1 e2 => ?_)).trans (KeepsOthers.setCell _ _ _))
    rcases (h.M.row m hm).2.2.1.2 with ⟨q, _⟩ | ⟨g, cap, cur, q, _, hh, _⟩
    · rw [q] at e1; cases e1
    · rw [q] at e1
      obtain rfl : g = j := Option.some.inj e1
      rw [hh] at e2
      rw [← Option.some.inj e2]
      rfl
  · refine G.cell (h.K2 a u ha hc) (fun p => ?_)
    rcases p with p | p
    · rcases ha with z | z <;> omega
    · have := (hVm _ p).1
      rcases ha with z | z <;> omega
  · by_cases q : j = m
    · subst q
      rw [upd_same] at eb
      rcases hat with z | z
      · exact h.far j hj b (z ▸ eb)
      · rw [z] at eb
        have := Option.some.inj eb
        have := h.big
        exact .inr (by omega)
    · rw [upd_other _ _ q] at eb
      exact h.far j hj b eb
/-- A new way of the moment: its slices lie where they may. -/
theorem STB.wayOk {u1 u2 : Value} {ps ci : List Int} {t : Int} {b2 : Nat} (h : STB w ls nt g2 g4 g5 g6 gw B0 lv W hi gn Bs m T0 vn nx vc cs i wr V ys) (h1 : OwnI w b2 u1 ps) (h2 : OwnI wr W.heap.size u2 ci) (hb : ∀ b, u2.ownBlock = some b → W.heap.size ≤ b ∧ b < hi) (hW : B0 ≤ W.heap.size) (hw : w.heap.size ≤ B0) : WayOk wr (PV w nt.length B0 V wr) ⟨u1, u2, ps, ci, t⟩ := by
  refine ⟨(h1.below h.M.be).mono (Nat.zero_le _), h2.mono (Nat.zero_le _), fun b e => ?_, fun b e => ?_⟩
  · have q := (h1.lt b e).2
    exact ⟨.inl q, by have := h.M.be.size; omega, fun j hj e2 => by have := ((h.M.row j hj).2.2.lt b e2).1; omega⟩
  · have q := hb b e
    exact ⟨.inr (by omega), by have := h.big; omega, fun j hj e2 => by rcases h.far j hj b e2 with z | z <;> omega⟩
/-- The round returns: the moment has no casting. -/
theorem STB.stop {hn : 1 ≤ nt.length} {hm : m < nt.length} {pre : List (MomN nt.length)} (h : STB w ls nt g2 g4 g5 g6 gw B0 lv W hi gn Bs m T0 vn nx vc cs (csM ls nt m).length wr V ys) (A : VarA w g2 g4 g5 g6 gw B0) (h0 : (T0 m ++ ys).length = 0) :
    KeepsOthers W (wr.setCell ⟨g4, 0, none⟩ (.slice none 0 0)) ∧ INX w ls nt hn g4 .ret (pre ++ [⟨m, hm⟩]) (wr.setCell ⟨g4, 0, none⟩ (.slice none 0 0)) := by
  refine ⟨h.KO.trans (KeepsOthers.setCell _ _ _), rfl, World.cell?_setCell_same _ _ _ h.M.c4.1, h.M.be.setCell (p := ⟨g4, 0, none⟩) A.lo.2.1 _, fun k e => ⟨m, hm, ?_⟩⟩
  have hy : ys.length = 0 := by rw [List.length_append] at h0; omega
  rw [h.Y.len] at hy
  exact List.eq_nil_of_length_eq_zero hy
/-- The round goes on: the moment's ways are what comes next. -/
theorem STB.go {hn : 1 ≤ nt.length} {hm : m < nt.length} {pre : List (MomN nt.length)} (h : STB w ls nt g2 g4 g5 g6 gw B0 lv W hi gn Bs m T0 vn nx vc cs (csM ls nt m).length wr V ys) (A : VarA w g2 g4 g5 g6 gw B0) (hgn : gn < w.heap.size) (hBs : Bs ≠ g6) (h1 : 1 ≤ (T0 m ++ ys).length)
    (hok : nightOk ls nt = true) (D : DAT nt.length pre.length T0 nx) (R : ∀ k, pre = uptoM hn k → RGT w ls nt k W T0 nx) (hlo : W.heap.size ≤ hi) (hws : w.heap.size ≤ W.heap.size) (hcl : (csM ls nt m).length ≤ 1296) (hlen : pre.length < nt.length) :
    KeepsOthers W (wr.setCell ⟨g6, 0, none⟩ (V m)) ∧ Keep2 gn Bs W (wr.setCell ⟨g6, 0, none⟩ (V m)) ∧ INV w ls nt hn g2 g4 g5 g6 gw B0 lv (pre ++ [⟨m, hm⟩]) (wr.setCell ⟨g6, 0, none⟩ (V m)) := by
  have e : upd T0 m (T0 m ++ ys) m = T0 m ++ ys := upd_same _ _ _
  have M' := h.M.next A hm (by rw [e]; exact h1)
  rw [e] at M'
  have hps := (night_has hok).2.2 m hm
  have g := grownIn_cell wr ⟨g6, 0, none⟩ (V m)
  obtain ⟨l1, l2, l3, l4, l5⟩ := A.lo
  refine ⟨h.KO.trans (KeepsOthers.setCell _ _ _), fun a u ha hc => g.cell (h.K2 a u ha hc) (fun p => ?_), V, upd T0 m (T0 m ++ ys), V m, T0 m ++ ys, M', ?_, fun k ek => ?_⟩
  · have p2 : g6 = a.block := p
    rcases ha with z | z <;> omega
  · rw [List.length_append, List.length_singleton]
    refine D.step hm (h.Y.low hps.1 (fun j hj => ?_) D.nlow h.M.one) (by rw [h.Y.len]; exact hcl)
    rw [cast_len (cs_cast hm hj)]
    exact hps.1
  · obtain ⟨j, rfl, ep, ex⟩ := uptoM_snoc ek
    have em : m = nt.length - 1 - j := congrArg Subtype.val ex
    have hj : j < nt.length := by rw [ep, uptoM_len] at hlen; exact hlen
    have RJ := R j ep
    have hT : T0 m = [] := RJ.old m (by omega)
    refine RJ.step (by omega) h.Y (by rw [hT] at h1; simpa using h1) (Nat.le_refl _) hlo ?_ hws
    have q : (wr.setCell ⟨g6, 0, none⟩ (V m)).heap.size = wr.heap.size := by simp [World.setCell]
    rw [q]
    exact h.big
end
end Go.Proofs.Ytanlfkkmnnjpeaa

/- The contract of the library's slices.Backward at a row of rows of numbers: the function value that it hands back goes through the row from the end. Condition: the row is not empty. -/
namespace Go.Proofs.Ytanlfkkmnnjpeaa
set_option linter.unusedVariables false
set_option linter.unusedSimpArgs false
open Go.RowKit
attribute [local go_sem] Oper.semAt_some

/-- What has come when k rounds are over. -/
def uptoR {α : Type} (f : Nat → α) (k : Nat) : List α := (List.range k).map f
theorem uptoR_snoc {α : Type} (f : Nat → α) (k : Nat) : uptoR f (k + 1) = uptoR f k ++ [f k] := by simp [uptoR, List.range_succ]
theorem uptoR_length {α : Type} (f : Nat → α) (k : Nat) : (uptoR f k).length = k := by simp [uptoR]

set_option maxRecDepth 100000 in
set_option maxHeartbeats 1600000 in
theorem backR_call {α : Type} (f : Nat → α) (encs : α → Array Value) (n l Bs g cap : Nat) (N : Nat) (VS : Nat → Value) (hn : 1 ≤ n) (hl : N ≤ 2000000) (he : ∀ k i, k + (i + 1) = N → encs (f k) = #[.int .i64 (i : Int), VS i]) (J Jx : List α → World → Prop)
    (hY : ∀ pre x W, J pre W → pre.length < N → YieldAt Fence.wide (n - 1) Try.prog l (encs x) W fun e W' =>
      (e = .returned (.bool true) ∧ J (pre ++ [x]) W' ∧ Keep2 g Bs W W') ∨ (e = .returned (.bool false) ∧ Jx (pre ++ [x]) W'))
    (W : World) (hBs : W.cell? ⟨Bs, 0, none⟩ = some (.slice (some ⟨g, 0, none⟩) N cap)) (hc : ∀ j, j < N → W.cell? ⟨g, j, none⟩ = some (VS j)) (h0 : J [] W) :
    CallsIn Fence.wide n Try.prog 70 #[.func (.yield l) #[] #[], .pointer (some ⟨Bs, 0, none⟩)] W fun e W' => (∃ v, e = .returned v) ∧ ((∃ ys, ys = uptoR f N ∧ J ys W') ∨ (∃ pre, (∃ k, k < N ∧ pre = uptoR f (k + 1)) ∧ Jx pre W')) := by
  have HBs := Lib.hid (fun W' (hk : Keep2 g Bs W W') => hk _ _ (.inr rfl) hBs)
  have HC := Lib.hid (fun W' (hk : Keep2 g Bs W W') j hj => hk _ _ (.inl rfl) (hc j hj))
  have HY := Lib.hid hY
  have HE := Lib.hid he
  have H0 := Lib.hid h0
  have KR := Lib.hid (Keep2.refl g Bs W)
  have hw : IntKind.i64.wrap ((N : Int) - 1) = (N : Int) - 1 := IntWalk.i64_in _ (by omega)
  clear hc hY he h0
  refine callsIn_of_wp Try.func70 rfl trivial ?_ rfl
  simp only [Try.ntmps70, List.size_toArray, List.length_cons, List.length_nil, Nat.reduceAdd, Nat.reduceSub, Array.replicate_succ, Array.replicate_zero, List.push_toArray, List.append_toArray, List.nil_append, List.cons_append]
  gi_wp2
  gi_loopw [3] (fun i wr => ∃ (m : Nat) (x : Int), m ≤ N ∧ x + 1 = (m : Int) ∧ i = .int .i64 x ∧ Hid (J (uptoR f (N - m)) wr) ∧ Hid (Keep2 g Bs W wr)) (fun i _ => (intOf i + 1).toNat)
  case atStart => exact ⟨N, (N : Int) - 1, by omega, by omega, rfl, by rw [Nat.sub_self]; exact H0, KR⟩
  case round =>
    clear hBs H0 KR hw
    obtain ⟨m, xi, hm, hx, rfl, HJ, KK⟩ := hrel
    have hbs := HBs.out _ KK.out
    rcases m with _ | i
    · obtain rfl : xi = -1 := by omega
      rw [Nat.sub_zero] at HJ
      gi_wp2
      go_end0
      exact ⟨⟨_, rfl⟩, .inl ⟨_, rfl, HJ.out⟩⟩
    obtain rfl : xi = (i : Int) := by omega
    have hi0 : (0 : Int) ≤ (i : Int) := by omega
    have hi1 : (i : Int) < (N : Int) := by omega
    have hcc := HC.out _ KK.out i (by omega)
    obtain ⟨fn, tmps, assign, body, hy, hR⟩ := HY.out _ (f (N - (i + 1))) wr HJ.out (by rw [uptoR_length]; omega)
    rw [HE.out (N - (i + 1)) i (by omega)] at hy
    have US := Lib.hid (show uptoR f (N - (i + 1)) ++ [f (N - (i + 1))] = uptoR f (N - i) by rw [show N - i = N - (i + 1) + 1 by omega, uptoR_snoc])
    have ei : IntKind.i64.wrap ((i : Int) - 1) = (i : Int) - 1 := IntWalk.i64_in _ (by omega)
    generalize VS i = z at hcc hy
    gi_wp2
    refine hR.mono ?_
    rintro e W3 (⟨rfl, hJ3, hk3⟩ | ⟨rfl, hJx3⟩)
    · have J3 := Lib.hid (US.out ▸ hJ3)
      have K3 := Lib.hid (KK.out.trans hk3)
      clear hJ3 hk3 hy hR hcc hbs
      gi_wp2
      go_roundw
      case rel => exact ⟨i, (i : Int) - 1, by omega, by omega, rfl, J3, K3⟩
      case measure => simp [intOf]
    · gi_wp2
      refine bodyPost_ret (results_none rfl _ _ _) rfl ?_
      exact ⟨⟨_, rfl⟩, .inr ⟨_, ⟨N - (i + 1), by omega, (uptoR_snoc f _).symm⟩, hJx3⟩⟩

set_option maxHeartbeats 800000 in
theorem backR_make (a : Option Addr) (len cap : Nat) (w : World) :
    Calls Try.prog 63 #[.slice a len cap] w fun e w' => e = .returned (.func (.func 70) #[] #[.pointer (some ⟨w.heap.size, 0, none⟩)]) ∧ w' = w.alloc (.cells #[.slice a len cap] 25) := by
  go_enter Try.func63, Try.ntmps63
  go_wp2
  go_ret
  exact ⟨rfl, rfl⟩

theorem backR_stops {α : Type} (f : Nat → α) (encs : α → Array Value) (n Bs g cap : Nat) (N : Nat) (VS : Nat → Value) (hn : 1 ≤ n) (hl : N ≤ 2000000) (he : ∀ k i, k + (i + 1) = N → encs (f k) = #[.int .i64 (i : Int), VS i])
    (w : World) (hBs : w.cell? ⟨Bs, 0, none⟩ = some (.slice (some ⟨g, 0, none⟩) N cap)) (hc : ∀ j, j < N → w.cell? ⟨g, j, none⟩ = some (VS j)) :
    SeqStopsK Fence.wide n Try.prog 70 #[.pointer (some ⟨Bs, 0, none⟩)] encs (Keep2 g Bs) (fun ys => ys = uptoR f N) (fun pre => ∃ k, k < N ∧ pre = uptoR f (k + 1)) N w := fun l J Jx W hW _ _ hY h0 =>
  backR_call f encs n l Bs g cap N VS hn hl he J Jx hY W (cell_below hBs hW) (fun j hj => cell_below (hc j hj) hW) h0
end Go.Proofs.Ytanlfkkmnnjpeaa

/- A region that draws its order and whose last operations alone turn the world, walked in a round of a range over a function. Condition: no operation of it is a 'defer' statement. -/
namespace Go.Proofs.Ytanlfkkmnnjpeaa
set_option linter.unusedVariables false
set_option linter.unusedSimpArgs false

section
variable {P : Program} {ops : Array Oper} {Q : Exit → Act → World → Prop} {md : Region.Mode} {n l : Nat}

def noDefer (o : Oper) : Bool := match o.op with
  | .defer _ => false
  | _ => true
theorem noDefer_spec {o : Oper} (h : noDefer o = true) : ∀ c, o.op ≠ .defer c := fun c e => by
  unfold noDefer at h
  rw [e] at h
  cases h
theorem calls_round {f : FuncId} {args : Array Value} {w : World} {R : Ending → World → Prop} (h : Calls P f args w R) : CallsIn (Fence.wide.inRound l) n P f args w R := CallsIn.inRound l (callsIn_wide.2 h)
theorem rows_round {row : String} {args : Array Value} {w : World} {R : Value → World → Prop} (h : Rows P row args w R) : RowsIn (Fence.wide.inRound l) n P row args w R :=
  fun c cs _ => let ⟨v, w', r, s⟩ := h c cs; ⟨v, w', r, stepsIn_wide.2 s⟩
theorem oper_round {o : Oper} {a : Act} {w : World} {K : Act → World → Prop} (hd : ∀ c, o.op ≠ .defer c) (h : o.wp P a w K Q) : o.wpIn (Fence.wide.inRound l) n P a w K Q := by
  refine ⟨fun _ _ => trivial, ?_⟩
  rw [Oper.semAt_eq _ _ _ hd]
  unfold Oper.wp at h
  have hn : ∀ m : Nat, ((Fence.wide.inRound l).depth.isSome = true → 1 ≤ m) := fun m e => by simp [Fence.wide] at e
  generalize (execOp a.eval o).run P w = r at *
  cases r with
  | ok x w' =>
    cases x <;> simp only [Oper.upon] at h <;> simp only [Oper.uponIn]
    case value => exact h
    case skip => exact h
    case defer => exact h
    case enter => exact ⟨hn _, calls_round h⟩
    case row => exact ⟨hn _, rows_round h⟩
  | halt x w' => cases x <;> simp only [Oper.upon] at h <;> simp only [Oper.uponIn] <;> exact h
theorem op_round {i : Nat} {a : Act} {w : World} {K : Act → World → Prop} (hd : ∀ (j : Nat) o, ops[j]? = some o → ∀ c, o.op ≠ .defer c) (hQ : ¬ LetsOut Q) (h : wpOp P ops Q i K a w) : wpOpIn (Fence.wide.inRound l) n P ops Q i K a w := by
  unfold wpOp at h
  unfold wpOpIn
  split
  · next e => simp only [e] at h; exact h
  · next o e =>
    simp only [e] at h
    split
    · next hw =>
      simp only [hw, if_true] at h
      rcases h with h | h
      · exact oper_round (hd i o e) h
      · exact absurd h.2 hQ
    · next hw =>
      simp only [hw] at h
      exact ⟨fun _ _ => trivial, h⟩
theorem any_round (hd : ∀ (j : Nat) o, ops[j]? = some o → ∀ c, o.op ≠ .defer c) (hQ : ¬ LetsOut Q) : ∀ (f : Nat) (listed : Array Bool) (a : Act) (w : World), wpAny P md ops Q f listed a w → wpAnyIn (Fence.wide.inRound l) n P md ops Q f listed a w := by
  intro f
  induction f with
  | zero => exact fun listed a w h => h
  | succ f ih =>
    exact fun listed a w h => ⟨h.1, fun i hi => wpOpIn_mono (fun a w => ih _ a w) (op_round hd hQ (h.2 i hi))⟩
/-- What stands in a drawn region ahead of its last operations only reads: walked once, in the order in which it stands. -/
theorem round_still_tail {id : Nat} {a : Act} {w : World} {L : List Oper} (k : Nat) (hm : P.follows .mixedOrders = true) (hB : Region.lexTailB .any L.toArray k = true) (hd : L.all noDefer = true) (hQ : ¬ LetsOut Q)
    (h : wpStill P L.toArray { w with drawn := w.drawn + 1 } (fun a' => wpList P L.toArray Q (L.drop k) a' { w with drawn := w.drawn + 1 }) (L.take k) a) : (Code.region id L.toArray true).wpIn (Fence.wide.inRound l) n P Q a w := by
  have hno : ∀ (j : Nat) o, L.toArray[j]? = some o → ∀ c, o.op ≠ .defer c := fun j o hj => noDefer_spec (List.all_eq_true.1 hd o (List.mem_of_getElem? (by simpa using hj)))
  refine wpIn_region_any hm (any_round hno hQ _ _ _ _ ?_)
  simp only [Region.lexTailB, Bool.and_eq_true, decide_eq_true_eq] at hB
  obtain ⟨⟨⟨⟨h1, h2⟩, h3⟩, h4⟩, h5⟩ := hB
  have h2' : k < L.length := by simpa using h2
  have ht : (L.take k).length = k := by simp; omega
  have hr : (L.drop k).length = L.toArray.size - k := by simp
  have i0 : HeadInv .any L.toArray k (Array.replicate L.toArray.size false) := ⟨by simp, fun j oj _ hj => (by rw [getD_replicate_false] at hj; cases hj), fun t _ hx => getD_in (by simpa using hx) (getD_replicate_false _ _)⟩
  have H := wpAnyL_lex (md := .any) (g := L.toArray.size - k) h1 h3 h4 h2 (L.take k) 0 _ a (fun j hj => by rw [ht] at hj; simp [hj]) (by simpa using ht) i0 (by rw [ht]; exact h5) h
  have E := wpAny_of_head (Q' := Q) (g := L.toArray.size - k) (fun listed a' hL => by
    have e := wpAny_of_seq (md := .any) (Q' := Q) (L.drop k) k listed a' { w with drawn := w.drawn + 1 } (fun j => by simp [List.getElem?_drop]) (by rw [hr]; exact hL.1) hL.2
    rwa [hr] at e) _ _ _ H
  rwa [ht, show k + (L.toArray.size - k) = L.toArray.size by omega] at E
/-- A drawn region of a round, walked as anywhere, S being held. -/
theorem round_region_held {id : Nat} {a : Act} {w : World} {L : List Oper} {S : World → Prop} (hm : P.follows .mixedOrders = true) (hd : L.all noDefer = true) (hQ : ¬ LetsOut Q) (hS : S w.drew)
    (h : S w.drew → wpAnyH P .any L.toArray Q S L.toArray.size (Array.replicate L.toArray.size false) a w.drew) : (Code.region id L.toArray true).wpIn (Fence.wide.inRound l) n P Q a w := by
  have hno : ∀ (j : Nat) o, L.toArray[j]? = some o → ∀ c, o.op ≠ .defer c := fun j o hj => noDefer_spec (List.all_eq_true.1 hd o (List.mem_of_getElem? (by simpa using hj)))
  exact wpIn_region_any hm (any_round hno hQ _ _ _ _ (wpAny_of_held _ _ _ _ (h hS)))
end
end Go.Proofs.Ytanlfkkmnnjpeaa

/- How large the answers of stage 15 are. Plain mathematics. -/
namespace Go.Proofs.Ytanlfkkmnnjpeaa
set_option linter.unusedVariables false
set_option linter.unusedSimpArgs false
open Go.RowKit

theorem castings_size (ls : List RPlayer) (ps : List Int) : (castingsOf ls ps).length ≤ 1296 ∧ ∀ k (h : k < (castingsOf ls ps).length), (castingsOf ls ps)[k].length ≤ 4 := by
  by_cases c : (proofOk ls ps && decide (ps.length ≤ 4)) = true
  · have hc := c
    rw [Bool.and_eq_true, decide_eq_true_eq] at hc
    have hp : playersOk ls = true := by have := hc.1; unfold proofOk at this; rw [Bool.and_eq_true] at this; exact this.1
    exact ⟨castings_few hp hc.2, fun k h => by rw [castings_row (List.getElem_mem h)]; exact hc.2⟩
  · have e : castingsOf ls ps = [] := by unfold castingsOf; rw [if_neg c]
    rw [e]
    exact ⟨by simp, fun k h => absurd h (by simp)⟩
theorem castings_up (ls : List RPlayer) (ps : List Int) : 1 + upTo (castingsOf ls ps) (castingsOf ls ps).length ≤ 2000000 := by
  have h := castings_size ls ps
  have := up_le h.2
  omega
theorem best_size (ls : List RPlayer) (nt : List (List Int)) : (bestNight ls nt).1.length ≤ 6 ∧ ∀ k (h : k < (bestNight ls nt).1.length), (bestNight ls nt).1[k].length ≤ 4 := by
  by_cases c : fewest ls nt < 0
  · have e : bestNight ls nt = ([], false) := by unfold bestNight; rw [if_pos c]
    rw [e]
    exact ⟨by simp, fun k h => absurd h (by simp)⟩
  · have e : bestNight ls nt = ((nightTo ls nt nt.length).1, true) := by unfold bestNight; rw [if_neg c]
    have hok : nightOk ls nt = true := by
      cases q : nightOk ls nt with
      | true => rfl
      | false => exact absurd (show fewest ls nt < 0 by unfold fewest; rw [q, if_neg (by simp)]; omega) c
    have K := come hok (show 0 ≤ fewest ls nt by omega) nt.length (Nat.le_refl _)
    have hn := (nok_has hok).2.1
    rw [e]
    refine ⟨by show (nightTo ls nt nt.length).1.length ≤ 6; rw [K.len]; omega, fun k h => ?_⟩
    have hk : k < nt.length := by have h : k < (nightTo ls nt nt.length).1.length := h; rw [K.len] at h; exact h
    obtain ⟨i, h1, h2⟩ := K.cast k hk
    rw [getR (by rw [K.len]; exact hk)] at h2
    show (nightTo ls nt nt.length).1[k].length ≤ 4
    rw [h2, getR h1, castings_row (List.getElem_mem h1), getR hk]
    exact ((nok_has hok).2.2 k hk).1
theorem best_up (ls : List RPlayer) (nt : List (List Int)) : 1 + upTo (bestNight ls nt).1 (bestNight ls nt).1.length ≤ 2000000 := by
  have h := best_size ls nt
  have := up_le h.2
  omega
end Go.Proofs.Ytanlfkkmnnjpeaa
