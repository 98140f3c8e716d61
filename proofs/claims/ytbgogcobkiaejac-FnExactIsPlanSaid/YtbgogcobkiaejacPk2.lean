/- Texts of this seat laid together, each with its own first sentence below: In CwaM ArgO SzI IntL Grow CueR CueL. -/
import Derived.Test.YtbgogcobkiaejacPk1
import Derived.Deep.Slices
import Derived.Lib.SmallJoins
import Derived.ChangeSame
import Derived.Deep.RegionHeld3
/- The contract of spec.l01In. No condition. -/
namespace Go.Proofs.Ytbgogcobkiaejac
set_option linter.unusedVariables false
open Go.RowKit

theorem wf_i64 {n : Int} (h : (Lit.int .i64 n).wf = true) : -9223372036854775808 ≤ n ∧ n ≤ 9223372036854775807 := by
  have e1 : IntKind.i64.min = -9223372036854775808 := by decide
  have e2 : IntKind.i64.max = 9223372036854775807 := by decide
  simp only [Lit.wf, Bool.and_eq_true, decide_eq_true_eq, e1, e2] at h
  exact h
theorem l01In_yes {v lo hi : Int} (h : lo ≤ v ∧ v ≤ hi) (w : World) :
    Calls Try.prog 68 #[.int .i64 v, .int .i64 lo, .int .i64 hi] w fun e w' => e = .returned (.bool true) ∧ w' = w := by
  obtain ⟨h1, h2⟩ := h
  go_enter Try.func68, Try.ntmps68
  go_wp2
  go_ret
  exact ⟨rfl, rfl⟩
theorem l01In_no {v lo hi : Int} (h : ¬ (lo ≤ v ∧ v ≤ hi)) (w : World) :
    Calls Try.prog 68 #[.int .i64 v, .int .i64 lo, .int .i64 hi] w fun e w' => e = .returned (.bool false) ∧ w' = w := by
  by_cases h1 : lo ≤ v
  · have h2 : ¬ v ≤ hi := fun x => h ⟨h1, x⟩
    go_enter Try.func68, Try.ntmps68
    go_wp2
    go_ret
    exact ⟨rfl, rfl⟩
  · go_enter Try.func68, Try.ntmps68
    go_wp2
    go_ret
    exact ⟨rfl, rfl⟩

/-- Is v from lo to hi? -/
def inB (v lo hi : Int) : Bool := decide (lo ≤ v ∧ v ≤ hi)
theorem inB_yes {v lo hi : Int} (h : lo ≤ v ∧ v ≤ hi) : inB v lo hi = true := by simp [inB, h]
theorem inB_no {v lo hi : Int} (h : ¬ (lo ≤ v ∧ v ≤ hi)) : inB v lo hi = false := by unfold inB; exact decide_eq_false h
theorem l01In_any (v lo hi : Int) (w : World) :
    Calls Try.prog 68 #[.int .i64 v, .int .i64 lo, .int .i64 hi] w fun e w' => e = .returned (.bool (inB v lo hi)) ∧ w' = w := by
  by_cases h : lo ≤ v ∧ v ≤ hi
  · rw [inB_yes h]
    exact l01In_yes h w
  · rw [inB_no h]
    exact l01In_no h w
end Go.Proofs.Ytbgogcobkiaejac

/- Which cue waits for which, as sets of bits: what stands in After, and all that follows from it. Plain mathematics. -/
namespace Go.Proofs.Ytbgogcobkiaejac
set_option linter.unusedVariables false
set_option linter.unusedSimpArgs false
open Go.RowKit

/-- The indices of cues among the first k numbers, as bits. -/
def afterTo (n : Nat) (zs : List Int) : Nat → Nat
  | 0 => 0
  | k + 1 => if inB (zs.getD k 0) 0 ((n : Int) - 1) = true then afterTo n zs k ||| 1 <<< (zs.getD k 0).toNat else afterTo n zs k
theorem bit_one (j k : Nat) : (1 <<< j).testBit k = decide (j = k) := by
  rw [Nat.shiftLeft_eq, Nat.one_mul, Nat.testBit_two_pow]
theorem after_bit (n : Nat) (zs : List Int) (j : Nat) : ∀ k, (afterTo n zs k).testBit j = true ↔ j < n ∧ ∃ i, i < k ∧ zs.getD i 0 = (j : Int) := by
  intro k
  induction k with
  | zero => simp [afterTo]
  | succ k ih =>
    unfold afterTo
    by_cases c : inB (zs.getD k 0) 0 ((n : Int) - 1) = true
    · have hr : 0 ≤ zs.getD k 0 ∧ zs.getD k 0 ≤ (n : Int) - 1 := by simpa [inB] using c
      rw [if_pos c, Nat.testBit_or, Bool.or_eq_true, ih, bit_one, decide_eq_true_eq]
      constructor
      · rintro (⟨h1, i, hi, e⟩ | h)
        · exact ⟨h1, i, by omega, e⟩
        · exact ⟨by omega, k, by omega, by omega⟩
      · rintro ⟨h1, i, hi, e⟩
        rcases (by omega : i < k ∨ i = k) with h | rfl
        · exact .inl ⟨h1, i, h, e⟩
        · exact .inr (by omega)
    · rw [if_neg c, ih]
      constructor
      · rintro ⟨h1, i, hi, e⟩
        exact ⟨h1, i, by omega, e⟩
      · rintro ⟨h1, i, hi, e⟩
        rcases (by omega : i < k ∨ i = k) with h | rfl
        · exact ⟨h1, i, h, e⟩
        · exact absurd (inB_yes (by rw [e]; omega)) c
theorem small_of {n s : Nat} (h : ∀ j, s.testBit j = true → j < n) : s < 2 ^ n := Nat.lt_pow_two_of_testBit s fun j hj => by
  cases c : s.testBit j with
  | false => rfl
  | true => exact absurd (h j c) (by omega)
theorem after_lt (n : Nat) (zs : List Int) (k : Nat) : afterTo n zs k < 2 ^ n := small_of fun j hj => ((after_bit n zs j k).1 hj).1
def rowsA (ls : List RCue) : List Nat := ls.map fun l => afterTo ls.length l.f1 l.f1.length
/-- One pass: whoever waits for m waits for all for which m waits. -/
def passTo (m : Nat) (W : List Nat) : Nat → List Nat
  | 0 => W
  | i + 1 => if ((passTo m W i).getD i 0).testBit m = true then (passTo m W i).set i ((passTo m W i).getD i 0 ||| (passTo m W i).getD m 0) else passTo m W i
def closeTo (W : List Nat) : Nat → List Nat
  | 0 => W
  | m + 1 => passTo m (closeTo W m) W.length
def waitSet (ls : List RCue) : List Nat := closeTo (rowsA ls) ls.length
theorem pass_len (m : Nat) (W : List Nat) : ∀ i, (passTo m W i).length = W.length := by
  intro i
  induction i with
  | zero => rfl
  | succ i ih => unfold passTo; split <;> simp [ih]
theorem close_len (W : List Nat) : ∀ m, (closeTo W m).length = W.length := by
  intro m
  induction m with
  | zero => rfl
  | succ m ih => rw [closeTo, pass_len, ih]
theorem waitSet_len (ls : List RCue) : (waitSet ls).length = ls.length := by rw [waitSet, close_len, rowsA, List.length_map]
theorem pass_at (m : Nat) (W : List Nat) : ∀ i, i ≤ W.length → ∀ j, (passTo m W i).getD j 0 = if j < i ∧ (W.getD j 0).testBit m = true then W.getD j 0 ||| W.getD m 0 else W.getD j 0 := by
  intro i
  induction i with
  | zero => intro _ j; rw [if_neg (by omega)]; rfl
  | succ i ih =>
    intro hi j
    have hm : (passTo m W i).getD m 0 = W.getD m 0 := by
      rw [ih (by omega) m]
      split
      · exact Nat.or_self _
      · rfl
    have hii : (passTo m W i).getD i 0 = W.getD i 0 := by rw [ih (by omega) i, if_neg (by omega)]
    unfold passTo
    rw [hm, hii]
    by_cases c : (W.getD i 0).testBit m = true
    · rw [if_pos c]
      by_cases e : j = i
      · subst e
        rw [if_pos ⟨by omega, c⟩, List.getD_eq_getElem?_getD, List.getElem?_set_self (by rw [pass_len]; omega)]
        rfl
      · rw [List.getD_eq_getElem?_getD, List.getElem?_set_ne (by omega), ← List.getD_eq_getElem?_getD, ih (by omega) j]
        by_cases q : j < i ∧ (W.getD j 0).testBit m = true
        · rw [if_pos q, if_pos ⟨by omega, q.2⟩]
        · rw [if_neg q, if_neg (fun x => q ⟨by omega, x.2⟩)]
    · rw [if_neg c, ih (by omega) j]
      by_cases q : j < i ∧ (W.getD j 0).testBit m = true
      · rw [if_pos q, if_pos ⟨by omega, q.2⟩]
      · rw [if_neg q, if_neg (fun x => by
          rcases (by omega : j < i ∨ j = i) with h | rfl
          · exact q ⟨h, x.2⟩
          · exact c x.2)]
/-- A way along E of which all but the ends lie below M. -/
inductive Way (E : Nat → Nat → Prop) (M : Nat) : Nat → Nat → Prop where
  | one {i k : Nat} (h : E i k) : Way E M i k
  | cons {i j k : Nat} (h : E i j) (hj : j < M) (t : Way E M j k) : Way E M i k
section
variable {E : Nat → Nat → Prop} {M M' i j k : Nat}
theorem Way.mono (hM : M ≤ M') (h : Way E M i k) : Way E M' i k := by
  induction h with
  | one h => exact .one h
  | cons h hj _ ih => exact .cons h (Nat.lt_of_lt_of_le hj hM) ih
theorem Way.trans (h : Way E M i j) (hj : j < M) (t : Way E M j k) : Way E M i k := by
  induction h with
  | one h => exact .cons h hj t
  | cons h hq _ ih => exact .cons h hq (ih hj t)
theorem Way.split (h : Way E (M + 1) i k) : Way E M i k ∨ (Way E M i M ∧ Way E M M k) := by
  induction h with
  | one h => exact .inl (.one h)
  | @cons i j k h hj _ ih =>
    rcases (by omega : j < M ∨ j = M) with q | rfl
    · rcases ih with t | ⟨t1, t2⟩
      · exact .inl (.cons h q t)
      · exact .inr ⟨.cons h q t1, t2⟩
    · rcases ih with t | ⟨_, t2⟩
      · exact .inr ⟨.one h, t⟩
      · exact .inr ⟨.one h, t2⟩
end
/-- Cue i names cue k in its After. -/
def Names (ls : List RCue) (i k : Nat) : Prop := k < ls.length ∧ ∃ h : i < ls.length, ∃ j, j < ls[i].f1.length ∧ ls[i].f1.getD j 0 = (k : Int)
theorem rowsA_bit (ls : List RCue) {i k : Nat} (hi : i < ls.length) : ((rowsA ls).getD i 0).testBit k = true ↔ Names ls i k := by
  have e : (rowsA ls).getD i 0 = afterTo ls.length ls[i].f1 ls[i].f1.length := by
    unfold rowsA
    rw [List.getD_eq_getElem?_getD, List.getElem?_map, List.getElem?_eq_getElem hi]
    rfl
  rw [e, after_bit]
  exact ⟨fun ⟨h1, q⟩ => ⟨h1, hi, q⟩, fun ⟨h1, _, q⟩ => ⟨h1, q⟩⟩
theorem close_bit (ls : List RCue) : ∀ m, m ≤ ls.length → ∀ i k, i < ls.length → (((closeTo (rowsA ls) m).getD i 0).testBit k = true ↔ Way (Names ls) m i k) := by
  intro m
  have hl : (rowsA ls).length = ls.length := by rw [rowsA, List.length_map]
  induction m with
  | zero =>
    intro _ i k hi
    rw [closeTo, rowsA_bit ls hi]
    exact ⟨fun h => .one h, fun h => by cases h with | one h => exact h | cons _ hj _ => omega⟩
  | succ m ih =>
    intro hm i k hi
    rw [closeTo, pass_at m _ _ (by rw [close_len]; omega) i]
    have h1 := ih (by omega) i m hi
    have h2 := ih (by omega) i k hi
    have h3 := ih (by omega) m k (by omega)
    by_cases c : ((closeTo (rowsA ls) m).getD i 0).testBit m = true
    · rw [if_pos ⟨by omega, c⟩, Nat.testBit_or, Bool.or_eq_true, h2, h3]
      constructor
      · rintro (h | h)
        · exact h.mono (by omega)
        · exact ((h1.1 c).mono (by omega)).trans (by omega) (h.mono (by omega))
      · intro h
        rcases h.split with h | ⟨_, h⟩
        · exact .inl h
        · exact .inr h
    · rw [if_neg (fun x => c x.2), h2]
      exact ⟨fun h => h.mono (by omega), fun h => by
        rcases h.split with h | ⟨h, _⟩
        · exact h
        · exact absurd (h1.2 h) c⟩
/-- Cue i waits for cue k. -/
def Waits (ls : List RCue) (i k : Nat) : Prop := Way (Names ls) ls.length i k
theorem wait_bit (ls : List RCue) {i k : Nat} (hi : i < ls.length) : ((waitSet ls).getD i 0).testBit k = true ↔ Waits ls i k := close_bit ls ls.length (Nat.le_refl _) i k hi
theorem Way.ends {ls : List RCue} {M i k : Nat} (h : Way (Names ls) M i k) : i < ls.length ∧ k < ls.length := by
  induction h with
  | one h => exact ⟨h.2.1, h.1⟩
  | cons h _ _ ih => exact ⟨h.2.1, ih.2⟩
theorem close_lt (ls : List RCue) {m i : Nat} (hm : m ≤ ls.length) (hi : i < ls.length) : (closeTo (rowsA ls) m).getD i 0 < 2 ^ ls.length := small_of fun j hj => ((close_bit ls m hm i j hi).1 hj).ends.2
end Go.Proofs.Ytbgogcobkiaejac

/- A slice of numbers inside of a struct that came in, as the form hands it over. No condition. -/
namespace Go.Proofs.Ytbgogcobkiaejac
set_option linter.unusedVariables false
open Go.RowKit Go.ChangeShapes Go.WideShapes Go.ChangeAt Go.Deep Go.Joins

section
variable {H : Type} {enc : TypeId × Value → H} {W : World}
/-- A slice of numbers inside of a struct that came in. -/
theorem irow_in {d : DataW H × List MemPlace} {fuel : Nat} {v : Value} (h : DataW.trod enc Try.prog W 0 (fun _ => true) true fuel 26 [v] = some d) : ∃ a n cap z, v = .slice a n cap ∧ IsRow .i64 W a n cap z := by
  rcases open_ints Try.underlying26 Try.underlying3 (by kernel_rfl) h with ⟨hcs, _⟩ | ⟨x, l, c, zs, hcs, _, hl, hm, hz, _, hcell, hwz⟩
  · simp only [List.cons.injEq, and_true] at hcs
    exact ⟨none, 0, 0, [], hcs, .inl ⟨rfl, rfl, rfl, rfl⟩⟩
  · simp only [List.cons.injEq, and_true] at hcs
    exact ⟨some x, l, c, zs, hcs, .inr ⟨_, rfl, hl, hm, by simpa using hz, hcell, hwz⟩⟩
end
end Go.Proofs.Ytbgogcobkiaejac

/- The contract of laws.szIntS. Condition: at most 1048576 may be left. -/
namespace Go.Proofs.Ytbgogcobkiaejac
set_option linter.unusedVariables false
set_option linter.unusedSimpArgs false
open Go.RowKit

/-- What is left behind a measuring. -/
def szR (left : Int) (n : Nat) : Int := if (n : Int) ≤ left then left - n else -1
theorem szR_in {left : Int} {n : Nat} (h : (n : Int) ≤ left) : szR left n = left - n := if_pos h
theorem szR_out {left : Int} {n : Nat} (h : ¬ (n : Int) ≤ left) : szR left n = -1 := if_neg h
theorem szIntS_any (a : Option Addr) (n cap : Nat) (left : Int) (w : World) (h0 : 0 ≤ left) (h1 : left ≤ 1048576) (hn : n ≤ maxLen) :
    Calls Try.prog 67 #[.slice a n cap, .int .i64 left] w fun e w' => e = .returned (.int .i64 (szR left n)) ∧ w = w' := by
  unfold maxLen at hn
  have e1 : IntKind.i64.wrap (left - n) = left - n := IntWalk.i64_in _ (by omega)
  by_cases h : (n : Int) ≤ left
  · rw [szR_in h]
    have h2 : ¬ left - (n : Int) < 0 := by omega
    go_enter Try.func67, Try.ntmps67
    go_wp2
    go_ret
    exact ⟨rfl, rfl⟩
  · rw [szR_out h]
    have h2 : left - (n : Int) < 0 := by omega
    go_enter Try.func67, Try.ntmps67
    go_wp2
    go_ret
    exact ⟨rfl, rfl⟩
end Go.Proofs.Ytbgogcobkiaejac

/- The contracts of laws.eqIntS, markIntS and heldIntS. Condition: the numbers lie in rows of their own. -/
namespace Go.Proofs.Ytbgogcobkiaejac
set_option linter.unusedVariables false
set_option linter.unusedSimpArgs false
open Go.RowKit

set_option maxHeartbeats 400000 in
theorem eqIntS_same (v1 v2 : Value) (zs : List Int) (b1 b2 : Nat) (w : World) (h1 : OwnI w b1 v1 zs) (h2 : OwnI w b2 v2 zs) (hl : zs.length ≤ 2000000) :
    Calls Try.prog 22 #[v1, v2] w fun e w' => e = .returned (.bool true) ∧ Below w.heap.size w w' := by
  obtain ⟨A1, c1, e1⟩ := h1.slice
  obtain ⟨A2, c2, e2⟩ := h2.slice
  subst e1 e2
  have H1 := Lib.hid h1
  have H2 := Lib.hid h2
  clear h1 h2
  go_enter Try.func22, Try.ntmps22
  go_wp2
  go_loopw [5] (fun i wr => ∃ (k : Nat), k ≤ zs.length ∧ i = .int .i64 k ∧ Below w.heap.size w wr) (fun i _ => zs.length - (intOf i).toNat)
  case atStart => exact ⟨0, by omega, rfl, Below.refl _ _⟩
  case round =>
    obtain ⟨k, hk, rfl, hb⟩ := hrel
    by_cases hlt : k < zs.length
    · obtain ⟨g1, d1, e1, _, l1, r1, _⟩ := H1.out.spot hlt
      obtain ⟨g2, d2, e2, _, l2, r2, _⟩ := H2.out.spot hlt
      simp only [Value.slice.injEq] at e1 e2
      obtain ⟨rfl, _, rfl⟩ := e1
      obtain ⟨rfl, _, rfl⟩ := e2
      have hk0 : (0 : Int) ≤ (k : Int) := by omega
      have hk1 : (k : Int) < (zs.length : Int) := by omega
      replace r1 := (hb.cell l1).trans r1
      replace r2 := (hb.cell l2).trans r2
      go_wp2
      go_quiet (fail)
      go_wp2
      exact ⟨⟨k + 1, by omega, by go_num, hb.trans (below_drewN (Below.refl _ _) _)⟩, by simp [intOf]; omega⟩
    · go_wp2
      go_ret
      exact ⟨rfl, hb⟩

/-- n numbers from u on. -/
def marksI (u n : Nat) : List Int := (List.range n).map fun j => ((u + j : Nat) : Int)
theorem marksI_len (u n : Nat) : (marksI u n).length = n := by simp [marksI]
theorem marksI_at (u n k : Nat) (h : k < n) : (marksI u n)[k]'(by rw [marksI_len]; exact h) = ((u + k : Nat) : Int) := by simp [marksI]
theorem marksI_set (u : Nat) (zs : List Int) (k : Nat) (h : k < zs.length) : (marksI u k ++ zs.drop k).set k ((u + k : Nat) : Int) = marksI u (k + 1) ++ zs.drop (k + 1) := by
  rw [List.drop_eq_getElem_cons h, List.set_append_right _ _ (by simp [marksI_len]), marksI_len, Nat.sub_self, List.set_cons_zero]
  unfold marksI
  simp only [List.range_succ, List.map_append, List.map_cons, List.map_nil, List.append_assoc, List.cons_append, List.nil_append]

set_option maxHeartbeats 400000 in
theorem markIntS_any (v : Value) (zs : List Int) (base : Nat) (w : World) (hown : OwnI w base v zs) (hl : zs.length ≤ 2000000) (u : Nat) (h1 : u ≤ 10000000) :
    Calls Try.prog 25 #[v, .int .i64 (u : Int)] w fun e w' => e = .returned (.int .i64 ((u + zs.length : Nat) : Int)) ∧ OwnI w' base v (marksI u zs.length) ∧ w.grownBy w' v.ownBlock := by
  obtain ⟨A, c, e⟩ := hown.slice
  subst e
  have H := Lib.hid hown
  clear hown
  go_enter Try.func25, Try.ntmps25
  go_wp2
  go_loopw [1, 5] (fun kv i wr => ∃ k : Nat, k ≤ zs.length ∧ i = .int .i64 k ∧ kv = .int .i64 ((u + k : Nat) : Int) ∧ OwnI wr base (.slice A zs.length c) (marksI u k ++ zs.drop k) ∧ w.grownBy wr (Value.slice A zs.length c).ownBlock) (fun _ i _ => zs.length - (intOf i).toNat)
  case atStart => exact ⟨0, by omega, rfl, rfl, (by simpa [marksI] using H.out), World.grownBy.refl w _⟩
  case round =>
    obtain ⟨k, hk, rfl, rfl, hown, hg⟩ := hrel
    have hlen : (marksI u k ++ zs.drop k).length = zs.length := by simp [marksI_len]; omega
    by_cases hlt : k < zs.length
    · obtain ⟨g, c', e1, _, _, rg, f0⟩ := hown.spot (k := k) (by rw [hlen]; exact hlt)
      simp only [Value.slice.injEq] at e1
      obtain ⟨rfl, hloop, rfl⟩ := e1
      clear hloop
      obtain ⟨xk, hxk⟩ : ∃ xk : Value, wr.cell? ⟨g, k, none⟩ = some xk := ⟨_, rg⟩
      have st := hown.set hlen.symm k ((u + k : Nat) : Int)
      rw [marksI_set u zs k hlt] at st
      have ST := Lib.hid st
      have hk0 : (0 : Int) ≤ (k : Int) := by omega
      have hk1 : (k : Int) < (zs.length : Int) := by omega
      clear rg st hown hlen
      go_wp2
      exact ⟨⟨k + 1, by omega, by go_num, by go_num, ST.out.1, grown_then hg ST.out.2⟩, by simp [intOf]; omega⟩
    · have hke : k = zs.length := by omega
      subst hke
      have hfin : OwnI wr base (.slice A zs.length c) (marksI u zs.length) := by simpa using hown
      go_wp2
      go_ret
      exact ⟨rfl, hfin, hg⟩

set_option maxHeartbeats 400000 in
theorem heldIntS_any (v : Value) (n : Nat) (base : Nat) (w : World) (u : Nat) (hown : OwnI w base v (marksI u n)) (hl : n ≤ 2000000) (h1 : u ≤ 10000000) :
    Calls Try.prog 26 #[v, .int .i64 (u : Int)] w fun e w' => e = .returned (.int .i64 ((u + n : Nat) : Int)) ∧ Below w.heap.size w w' := by
  obtain ⟨A, c, e⟩ := hown.slice
  rw [marksI_len] at e
  subst e
  have H := Lib.hid hown
  clear hown
  go_enter Try.func26, Try.ntmps26
  go_wp2
  go_loopw [1, 5] (fun kv i wr => ∃ k : Nat, k ≤ n ∧ i = .int .i64 k ∧ kv = .int .i64 ((u + k : Nat) : Int) ∧ Below w.heap.size w wr) (fun _ i _ => n - (intOf i).toNat)
  case atStart => exact ⟨0, by omega, rfl, rfl, Below.refl _ _⟩
  case round =>
    obtain ⟨k, hk, rfl, rfl, hb⟩ := hrel
    by_cases hlt : k < n
    · obtain ⟨g, c', e1, _, l1, rg, _⟩ := H.out.spot (k := k) (by rw [marksI_len]; exact hlt)
      rw [marksI_at u n k hlt] at rg
      simp only [Value.slice.injEq] at e1
      obtain ⟨rfl, hloop, rfl⟩ := e1
      clear hloop
      replace rg := (hb.cell l1).trans rg
      have hk0 : (0 : Int) ≤ (k : Int) := by omega
      have hk1 : (k : Int) < (n : Int) := by omega
      go_wp2
      exact ⟨⟨k + 1, by omega, by go_num, by go_num, hb⟩, by simp [intOf]; omega⟩
    · have hke : k = n := by omega
      subst hke
      go_wp2
      go_ret
      exact ⟨rfl, hb⟩

end Go.Proofs.Ytbgogcobkiaejac

/- A write into a set of blocks, what it leaves, and the cells of any struct's box. No condition. -/
namespace Go.Proofs.Ytbgogcobkiaejac
set_option linter.unusedVariables false
open Go.RowKit

/-- What a call that writes into the blocks of P alone leaves. -/
structure GrownIn (w w' : World) (P : Nat → Prop) : Prop where
  os : w'.os = w.os
  tape : w'.tape = w.tape
  output : w'.output = w.output
  size : w.heap.size ≤ w'.heap.size
  block : ∀ k, k < w.heap.size → ¬ P k → w'.heap[k]? = w.heap[k]?
section
variable {w w' w0 : World} {P Q : Nat → Prop} {B : Nat}
theorem grownIn_of {row : Option Nat} (h : w.grownBy w' row) : GrownIn w w' (fun k => row = some k) := ⟨h.os, h.tape, h.output, h.size, fun k hk hn => h.block k hk (fun e => hn e.symm)⟩
theorem grownIn_below {b : Nat} (h : Below b w w') (hb : w.heap.size ≤ b) : GrownIn w w' P := ⟨h.os, h.tape, h.output, h.size, fun k hk _ => h.block k (Nat.lt_of_lt_of_le hk hb)⟩
theorem GrownIn.mono (h : GrownIn w w' P) (hp : ∀ k, P k → Q k) : GrownIn w w' Q := ⟨h.os, h.tape, h.output, h.size, fun k hk hn => h.block k hk (fun p => hn (hp k p))⟩
theorem GrownIn.trans {a b c : World} (h : GrownIn a b P) (k : GrownIn b c P) : GrownIn a c P :=
  ⟨k.os.trans h.os, k.tape.trans h.tape, k.output.trans h.output, Nat.le_trans h.size k.size, fun i hi hn => (k.block i (Nat.lt_of_lt_of_le hi h.size) hn).trans (h.block i hi hn)⟩
theorem GrownIn.below (h : GrownIn w w' P) (hb : Below B w0 w) (hB : B ≤ w.heap.size) (hp : ∀ k, P k → B ≤ k) : Below B w0 w' :=
  ⟨h.os.trans hb.os, h.tape.trans hb.tape, h.output.trans hb.output, Nat.le_trans hb.size h.size, fun k hk => (h.block k (Nat.lt_of_lt_of_le hk hB) (fun p => by have := hp k p; omega)).trans (hb.block k hk)⟩
theorem GrownIn.cell {p : Addr} {v : Value} (h : GrownIn w w' P) (hc : w.cell? p = some v) (hp : ¬ P p.block) : w'.cell? p = some v :=
  (World.cell?_of_block (h.block p.block (World.block_lt_of_cell? w p hc) hp)).trans hc
theorem ownsRow_in {base k n : Nat} {t : TypeId} {v : Value} {cs : List Value} (h : w.ownsRow base t k v n cs) (g : GrownIn w w' P) (hp : ∀ i, v.ownBlock = some i → ¬ P i) : w'.ownsRow base t k v n cs := by
  refine ⟨h.1, ?_⟩
  rcases h.2 with h0 | ⟨b, cap, cur, e, hb, hh, r⟩
  · exact .inl h0
  · exact .inr ⟨b, cap, cur, e, hb, (g.block b (Array.getElem?_eq_some_iff.1 hh).1 (hp b (by subst e; rfl))).trans hh, r⟩
theorem OwnI.in {base : Nat} {v : Value} {zs : List Int} (h : OwnI w base v zs) (g : GrownIn w w' P) (hp : ∀ i, v.ownBlock = some i → ¬ P i) : OwnI w' base v zs := ownsRow_in h g hp
/-- The block of one row. -/
def Blk1 (v : Value) (k : Nat) : Prop := v.ownBlock = some k
theorem OwnI.ltB {base : Nat} {v : Value} {zs : List Int} (h : OwnI w base v zs) : ∀ k, Blk1 v k → base ≤ k ∧ k < w.heap.size := h.lt

/-- The cells of a struct's box. -/
def BoxV (w : World) (b : Nat) (vs : List Value) : Prop := ∀ j v, vs[j]? = some v → w.cell? ⟨b, j, none⟩ = some v
theorem boxV_new (w : World) (vs : List Value) (t : TypeId) : BoxV (w.alloc (.cells vs.toArray t)) w.heap.size vs := by
  intro j v hv
  simp [go_sem, hv]
theorem BoxV.below {b : Nat} {vs : List Value} (h : BoxV w b vs) (hb : Below w.heap.size w w') : BoxV w' b vs := fun j v hv => cell_below (h j v hv) hb
theorem BoxV.alloc {b : Nat} {vs : List Value} (h : BoxV w b vs) (o : Obj) : BoxV (w.alloc o) b vs := h.below ((Below.refl _ _).alloc (Nat.le_refl _) _)
theorem BoxV.in {b : Nat} {vs : List Value} (h : BoxV w b vs) (g : GrownIn w w' P) (hp : ¬ P b) : BoxV w' b vs := fun j v hv => g.cell (h j v hv) hp
end
theorem BoxV.three {w : World} {b : Nat} {x y z : Value} (h : BoxV w b [x, y, z]) : w.cell? ⟨b, 0, none⟩ = some x ∧ w.cell? ⟨b, 1, none⟩ = some y ∧ w.cell? ⟨b, 2, none⟩ = some z := ⟨h 0 _ rfl, h 1 _ rfl, h 2 _ rfl⟩
/-- A row that was made and grown by append leaves all that is elder. -/
theorem made_below {W w2 : World} {o : Obj} {g n c : Nat} (h : (W.alloc o).drew.grownBy w2 (Value.slice (some ⟨g, 0, none⟩) n c).ownBlock) (hg : g = W.heap.size) : Below W.heap.size W w2 := by
  refine undrew (((Below.refl W.heap.size W).alloc (Nat.le_refl _) o).drew.grown h (by simp) (fun k hk => ?_) |> fun h => ⟨h.os, h.tape, h.output, h.size, fun i hi => h.block i hi⟩)
  have : g = k := by simpa [Value.ownBlock] using hk
  omega
theorem made_below' {W w2 : World} {o : Obj} {g n c : Nat} (h : (W.alloc o).grownBy w2 (Value.slice (some ⟨g, 0, none⟩) n c).ownBlock) (hg : g = W.heap.size) : Below W.heap.size W w2 :=
  made_below ⟨h.os, h.tape, h.output, h.size, h.block⟩ hg
theorem own_at {v v' : Value} {g s k : Nat} (h : v'.ownBlock = v.ownBlock ∨ v'.ownBlock = some s) (hv : v.ownBlock = some g) (hk : v'.ownBlock = some k) : k = g ∨ k = s := by
  rcases h with h | h
  · rw [h, hv] at hk
    exact .inl (Option.some.inj hk).symm
  · rw [h] at hk
    exact .inr (Option.some.inj hk).symm
theorem BoxV.setCell {w : World} {b : Nat} {vs : List Value} (h : BoxV w b vs) (a : Addr) (u : Value) (hne : a.block ≠ b) : BoxV (w.setCell a u) b vs := fun j v hv => (World.cell?_setCell_other _ _ _ _ (fun e => hne (congrArg Addr.block e))).trans (h j v hv)
/-- The result's own box of three cells, behind calls that left it alone. -/
theorem newBox3 {w w2 : World} {o : Obj} {t : TypeId} {x y z : Value} (hb : Below ((w.alloc o).alloc (.cells #[x, y, z] t)).heap.size ((w.alloc o).alloc (.cells #[x, y, z] t)) w2) :
    w2.cell? ⟨w.heap.size + 1, 0, none⟩ = some x ∧ w2.cell? ⟨w.heap.size + 1, 1, none⟩ = some y ∧ w2.cell? ⟨w.heap.size + 1, 2, none⟩ = some z ∧
      w2.frozen? ⟨w.heap.size + 1, 0, none⟩ = false ∧ w2.frozen? ⟨w.heap.size + 1, 1, none⟩ = false ∧ w2.frozen? ⟨w.heap.size + 1, 2, none⟩ = false := by
  refine ⟨?_, ?_, ?_, ?_, ?_, ?_⟩
  · rw [hb.cell (by simp)]; simp [go_sem]
  · rw [hb.cell (by simp)]; simp [go_sem]
  · rw [hb.cell (by simp)]; simp [go_sem]
  · rw [hb.frozen (by simp)]; simp [go_sem]
  · rw [hb.frozen (by simp)]; simp [go_sem]
  · rw [hb.frozen (by simp)]; simp [go_sem]
/-- The three cells of a struct behind their stores, one after the other. -/
theorem cells_set3 {w : World} {g : Nat} {u v x y0 y1 y2 : Value} (h0 : w.cell? ⟨g, 0, none⟩ = some y0) (h1 : w.cell? ⟨g, 1, none⟩ = some y1) (h2 : w.cell? ⟨g, 2, none⟩ = some y2) :
    (w.setCell ⟨g, 0, none⟩ u).cell? ⟨g, 0, none⟩ = some u ∧ ((w.setCell ⟨g, 0, none⟩ u).setCell ⟨g, 1, none⟩ v).cell? ⟨g, 1, none⟩ = some v ∧ (((w.setCell ⟨g, 0, none⟩ u).setCell ⟨g, 1, none⟩ v).setCell ⟨g, 2, none⟩ x).cell? ⟨g, 2, none⟩ = some x := by
  refine ⟨World.cell?_setCell_same _ _ _ h0, World.cell?_setCell_same (u := y1) _ _ _ ?_, World.cell?_setCell_same (u := y2) _ _ _ ?_⟩
  · rw [World.cell?_setCell_other _ _ _ _ (by simp), h1]
  · rw [World.cell?_setCell_other _ _ _ _ (by simp), World.cell?_setCell_other _ _ _ _ (by simp), h2]
theorem grownIn_cell (w : World) (a : Addr) (u : Value) : GrownIn w (w.setCell a u) (fun k => a.block = k) := ⟨rfl, rfl, rfl, by simp [World.setCell], fun k _ hk => Below.heap_setCell _ _ _ _ (by rintro rfl; exact hk rfl)⟩
theorem markIntS_in (v : Value) (zs : List Int) (base : Nat) (w : World) (hown : OwnI w base v zs) (hl : zs.length ≤ 2000000) (u : Nat) (k : Int) (hk : k = (u : Int)) (h1 : u ≤ 10000000) :
    Calls Try.prog 25 #[v, .int .i64 k] w fun e w' => e = .returned (.int .i64 ((u + zs.length : Nat) : Int)) ∧ OwnI w' base v (marksI u zs.length) ∧ GrownIn w w' (Blk1 v) := by
  subst hk
  exact (markIntS_any v zs base w hown hl u h1).mono fun e w' ⟨he, o, g⟩ => ⟨he, o, grownIn_of g⟩
end Go.Proofs.Ytbgogcobkiaejac

/- Cue: a row that came in (made by gen_own.py). No condition. -/
namespace Go.Proofs.Ytbgogcobkiaejac
set_option linter.unusedVariables false
set_option linter.unusedSimpArgs false
set_option maxRecDepth 100000
open Go.RowKit Go.ChangeShapes Go.WideShapes Go.ChangeAt Go.Deep Go.Joins

/-- Element l lies at x and behind. -/
def LiesCue (w : World) (x : Addr) (l : RCue) : Prop := w.cell? (x.add 0) = some (.int .i64 l.f0) ∧ (∃ A n c z, w.cell? (x.add 1) = some (.slice A n c) ∧ IsRow .i64 w A n c z ∧ l.f1 = z.take n) ∧ (∃ A n c z, w.cell? (x.add 2) = some (.slice A n c) ∧ IsRow .i64 w A n c z ∧ l.f2 = z.take n)
def ArgCue (w : World) (a : Option Addr) (ls : List RCue) : Prop := (a = none ∧ ls = []) ∨ ∃ x, a = some x ∧ ∀ k (h : k < ls.length), LiesCue w (x.add (k * 3)) ls[k]
theorem LiesCue.below {w w' : World} {x : Addr} {l : RCue} (h : LiesCue w x l) (hb : Below w.heap.size w w') : LiesCue w' x l := by
  obtain ⟨x0, ⟨A1, n1, c1, z1, x1, r1, e1⟩, ⟨A2, n2, c2, z2, x2, r2, e2⟩⟩ := h
  exact ⟨cell_below x0 hb, ⟨A1, n1, c1, z1, cell_below x1 hb, irow_below r1 hb, e1⟩, ⟨A2, n2, c2, z2, cell_below x2 hb, irow_below r2 hb, e2⟩⟩
theorem ArgCue.below {w w' : World} {a : Option Addr} {ls : List RCue} (h : ArgCue w a ls) (hb : Below w.heap.size w w') : ArgCue w' a ls := by
  rcases h with h | ⟨x, e, h⟩
  · exact .inl h
  · exact .inr ⟨x, e, fun k hk => (h k hk).below hb⟩
theorem ArgCue.alloc {w : World} {a : Option Addr} {ls : List RCue} (h : ArgCue w a ls) (o : Obj) : ArgCue (w.alloc o) a ls := h.below ((Below.refl _ _).alloc (Nat.le_refl _) _)
/-- The cells of an element as a load of it reads them. -/
theorem LiesCue.cells {w : World} {x : Addr} {l : RCue} (h : LiesCue w x l) : ∃ A1 c1 z1 A2 c2 z2, (w.cell? x = some (.int .i64 l.f0) ∧ w.cell? { block := x.block, off := x.off + 1 } = some (.slice A1 l.f1.length c1) ∧ w.cell? { block := x.block, off := x.off + 2 } = some (.slice A2 l.f2.length c2)) ∧ (IsRow .i64 w A1 l.f1.length c1 z1 ∧ l.f1 = z1.take l.f1.length) ∧ (IsRow .i64 w A2 l.f2.length c2 z2 ∧ l.f2 = z2.take l.f2.length) := by
  obtain ⟨x0, ⟨A1, n1, c1, z1, x1, r1, e1⟩, ⟨A2, n2, c2, z2, x2, r2, e2⟩⟩ := h
  have hl1 : n1 = l.f1.length := by rw [e1, irow_len r1]
  subst hl1
  have hl2 : n2 = l.f2.length := by rw [e2, irow_len r2]
  subst hl2
  rw [add_zero] at x0
  rw [add_pos x 1 (by omega)] at x1
  rw [add_pos x 2 (by omega)] at x2
  exact ⟨A1, c1, z1, A2, c2, z2, ⟨x0, x1, x2⟩, ⟨r1, e1⟩, ⟨r2, e2⟩⟩
section
variable {H : Type} {enc : TypeId × Value → H} {W : World}
theorem openCueS {d : DataW H} {p : List MemPlace} {a : Option Addr} {n cap : Nat} (h : DataW.Trod enc Try.prog W 0 (fun _ => true) true 35 (.slice a n cap) d p) :
    ∃ ls : List RCue, n = ls.length ∧ ArgCue W a ls ∧ ls.length ≤ maxLen := by
  obtain ⟨fuel, h⟩ := h
  have hC : (Try.prog).cellsOf 61 = 3 := by kernel_rfl
  rcases open_slice Try.underlying35 h with ⟨hcs, _⟩ | ⟨x, len, c, m, q, D, Pl, hcs, _, hl, hm, hmm, _, hi⟩
  · simp [Value.cells] at hcs
    obtain ⟨rfl, rfl, rfl⟩ := hcs
    exact ⟨[], rfl, .inl ⟨rfl, rfl⟩, by simp⟩
  · simp [Value.cells] at hcs
    obtain ⟨rfl, rfl, rfl⟩ := hcs
    have hlm : n ≤ m := by rw [hmm]; split <;> omega
    rw [hC] at hi
    have cell : ∀ i, i < n → ∃ l : RCue, LiesCue W (x.add (i * 3)) l := by
      intro i hi'
      obtain ⟨cs', hc, ht⟩ := hi i (by omega)
      obtain ⟨_, hcl, hat⟩ := World.cells?_some hc
      obtain ⟨xs, n', _, _, _, hxl, hf⟩ := DataW.trod_struct Try.underlying61 ht
      have h_int : (Try.prog).cellsOf 3 = 1 := by kernel_rfl
      have h_ints : (Try.prog).cellsOf 26 = 1 := by kernel_rfl
      match cs', hcl with
      | [c0, c1, c2], _ =>
        have g0 : DataW.trod enc Try.prog W 0 (fun _ => true) true n' 3 (List.take ((Try.prog).cellsOf 3) [c0, c1, c2]) = xs[0]? := hf 0 _ rfl
        have g1 : DataW.trod enc Try.prog W 0 (fun _ => true) true n' 26 (List.take ((Try.prog).cellsOf 26) [c1, c2]) = xs[1]? := hf 1 _ rfl
        have g2 : DataW.trod enc Try.prog W 0 (fun _ => true) true n' 26 (List.take ((Try.prog).cellsOf 26) [c2]) = xs[2]? := hf 2 _ rfl
        rw [List.getElem?_eq_getElem (by rw [hxl]; decide)] at g0 g1 g2
        rw [h_int] at g0
        rw [h_ints] at g1
        rw [h_ints] at g2
        obtain ⟨n0, e0, _⟩ := DataW.trod_int Try.underlying3 g0
        have e0 : c0 = .int .i64 n0 := by simpa using e0
        obtain ⟨a1, m1, p1, z1, e1, r1⟩ := irow_in g1
        obtain ⟨a2, m2, p2, z2, e2, r2⟩ := irow_in g2
        exact ⟨⟨n0, z1.take m1, z2.take m2⟩, by rw [hat 0 (by omega), e0]; rfl, ⟨_, _, _, z1, by rw [hat 1 (by omega), e1]; rfl, r1, rfl⟩, ⟨_, _, _, z2, by rw [hat 2 (by omega), e2]; rfl, r2, rfl⟩⟩
    obtain ⟨ls, hls, hx⟩ := list_of (fun i (l : RCue) => LiesCue W (x.add (i * 3)) l) n cell
    subst hls
    exact ⟨ls, rfl, .inr ⟨x, rfl, fun k hk => hx k hk⟩, by omega⟩
end
end Go.Proofs.Ytbgogcobkiaejac

/- The contracts of laws.toCue, toCueS, szCue, szCueS, eqCue, eqCueS and markCueS. Condition: the rows lie as they came in, or are the call's own. -/
namespace Go.Proofs.Ytbgogcobkiaejac
set_option linter.unusedVariables false
set_option linter.unusedSimpArgs false
open Go.RowKit

set_option maxHeartbeats 400000 in
theorem toCue_any (H : Int) (a : Option Addr) (n cap : Nat) (z : List Int) (a2 : Option Addr) (n2 cap2 : Nat) (z2 : List Int) (w : World) (ha : IsRow .i64 w a n cap z) (ha2 : IsRow .i64 w a2 n2 cap2 z2) (hn : n ≤ 1048576) (hn2 : n2 ≤ 1048576) :
    Calls Try.prog 52 #[.agg #[.int .i64 H, .slice a n cap, .slice a2 n2 cap2]] w fun e w' => ∃ A1 c1 A2 c2, e = .returned (.agg #[.int .i64 H, .slice A1 n c1, .slice A2 n2 c2]) ∧
      OwnI w' w.heap.size (.slice A1 n c1) (z.take n) ∧ OwnI w' w.heap.size (.slice A2 n2 c2) (z2.take n2) ∧ ((Value.slice A1 n c1).ownBlock = none ∨ (Value.slice A1 n c1).ownBlock ≠ (Value.slice A2 n2 c2).ownBlock) ∧ Below w.heap.size w w' := by
  have hk := irow_len ha
  have T := Lib.hid (fun W h => toIntS_walk a n cap z W h hn)
  generalize z.take n = zs at T hk ⊢
  subst hk
  have hk2 := irow_len ha2
  have T2 := Lib.hid (fun W h => toIntS_walk a2 n2 cap2 z2 W h hn2)
  generalize z2.take n2 = ys at T2 hk2 ⊢
  subst hk2
  have RA := Lib.hid (irow_alloc (irow_alloc (irow_alloc ha (.cells #[.int .i64 H, .slice a zs.length cap, .slice a2 ys.length cap2] 61)) (.cells #[.int .i64 0, .slice none 0 0, .slice none 0 0] 33)) (.cells #[.int .i64 H, .slice none 0 0, .slice none 0 0] 33))
  have RC := Lib.hid ha2
  clear ha ha2
  go_enter Try.func52, Try.ntmps52
  go_wp2_with fail
  refine (T.out _ RA.out).mono ?_
  rintro e w4 ⟨va, rfl, o4, b4⟩
  obtain ⟨A1, a1, rfl⟩ := o4.slice
  have z4 := b4.size
  simp only [World.size_alloc] at z4
  have d0 : w4.cell? ⟨w.heap.size, 2, none⟩ = some (.slice a2 ys.length cap2) := by rw [b4.cell (by simp <;> omega)]; simp [go_sem]
  have d3 : w4.cell? ⟨w.heap.size + 1 + 1, 0, none⟩ = some (.int .i64 H) := by rw [b4.cell (by simp <;> omega)]; simp [go_sem]
  have d4 : w4.cell? ⟨w.heap.size + 1 + 1, 1, none⟩ = some (.slice none 0 0) := by rw [b4.cell (by simp <;> omega)]; simp [go_sem]
  have d5 : w4.cell? ⟨w.heap.size + 1 + 1, 2, none⟩ = some (.slice none 0 0) := by rw [b4.cell (by simp <;> omega)]; simp [go_sem]
  have f4 : w4.frozen? ⟨w.heap.size + 1 + 1, 1, none⟩ = false := by rw [b4.frozen (by simp <;> omega)]; simp [go_sem]
  have N4 := Lib.hid (show (∀ j x, [Value.int .i64 0, .slice none 0 0, .slice none 0 0][j]? = some x → w4.cell? ⟨w.heap.size + 1, j, none⟩ = some x) ∧ w4.frozen? ⟨w.heap.size + 1 + 1, 2, none⟩ = false ∧ w4.frozen? ⟨w.heap.size + 1, 0, none⟩ = false ∧ w4.frozen? ⟨w.heap.size + 1, 1, none⟩ = false ∧ w4.frozen? ⟨w.heap.size + 1, 2, none⟩ = false from ⟨fun j x hx => by rw [b4.cell (by simp <;> omega)]; simp [go_sem, hx], by rw [b4.frozen (by simp <;> omega)]; simp [go_sem], by rw [b4.frozen (by simp <;> omega)]; simp [go_sem], by rw [b4.frozen (by simp <;> omega)]; simp [go_sem], by rw [b4.frozen (by simp <;> omega)]; simp [go_sem]⟩)
  have O4 := Lib.hid (ownsRow_setCell_below o4 (show (⟨w.heap.size + 1 + 1, 1, none⟩ : Addr).block < _ by simp <;> omega) (.slice A1 zs.length a1))
  have B4 := Lib.hid ((((((Below.refl w.heap.size w).alloc (Nat.le_refl _) _).alloc (by simp) _).alloc (by simp <;> omega) _).trans (b4.mono (by simp <;> omega))).setCell (show w.heap.size ≤ (⟨w.heap.size + 1 + 1, 1, none⟩ : Addr).block by show w.heap.size ≤ w.heap.size + 1 + 1; omega) (.slice A1 zs.length a1))
  clear o4 b4
  go_wp2_with fail
  refine (T2.out _ (irow_below RC.out B4.out)).mono ?_
  rintro e w5 ⟨vc, rfl, o5, b5⟩
  obtain ⟨C1, c1, rfl⟩ := o5.slice
  have z5 := b5.size
  simp only [World.size_setCell] at z5
  have C4 : ∀ i x, (⟨w.heap.size + 1 + 1, 1, none⟩ : Addr) ≠ i → w4.cell? i = some x → w5.cell? i = some x := fun i x hn hx => by
    have h0 := World.block_lt_of_cell? w4 i hx
    rw [b5.cell (by simp; exact h0), World.cell?_setCell_other _ _ _ _ hn]
    exact hx
  have d2 : w5.cell? ⟨w.heap.size + 1 + 1, 1, none⟩ = some (.slice A1 zs.length a1) := by
    rw [b5.cell (by simp <;> omega), World.cell?_setCell_same _ _ _ d4]
  replace d3 := C4 _ _ (by simp) d3
  replace d5 := C4 _ _ (by simp) d5
  have n0 := C4 _ _ (by simp) (N4.out.1 0 _ rfl)
  have n1 := C4 _ _ (by simp) (N4.out.1 1 _ rfl)
  have n2 := C4 _ _ (by simp) (N4.out.1 2 _ rfl)
  have F4 : ∀ i, i.block < w4.heap.size → w4.frozen? i = false → w5.frozen? i = false := fun i h0 hx => by
    rw [b5.frozen (by simp; exact h0)]
    simpa using hx
  have f0 := F4 _ (by simp; omega) N4.out.2.1
  have f1 := F4 _ (by simp; omega) N4.out.2.2.1
  have f2 := F4 _ (by simp; omega) N4.out.2.2.2.1
  have f3 := F4 _ (by simp; omega) N4.out.2.2.2.2
  have K1 := Lib.hid (show OwnI w5 w.heap.size (.slice A1 zs.length a1) zs from OwnI.mono (OwnI.below O4.out b5) (by simp <;> omega))
  have K2 := Lib.hid (show OwnI w5 w.heap.size (.slice C1 ys.length c1) ys from o5.mono (by simp; omega))
  have AP := Lib.hid (show (Value.slice A1 zs.length a1).ownBlock = none ∨ (Value.slice A1 zs.length a1).ownBlock ≠ (Value.slice C1 ys.length c1).ownBlock from sep_of fun k h1 h2 => by
    have := (World.ownsRow.lt O4.out k h1).2
    have := (o5.lt k h2).1
    simp at *; omega)
  have far1 := Lib.hid (fun k (h1 : (Value.slice A1 zs.length a1).ownBlock = some k) => (show w.heap.size + 3 ≤ k by have := (World.ownsRow.lt O4.out k h1).1; simp at this; omega))
  have far2 := Lib.hid (fun k (h2 : (Value.slice C1 ys.length c1).ownBlock = some k) => (show w.heap.size + 3 ≤ k by have := (o5.lt k h2).1; simp at this; omega))
  have B := Lib.hid (B4.out.trans (b5.mono (by simp; omega)))
  clear O4 o5 B4 b5 C4 F4 N4 d4 f4
  go_wp2
  obtain ⟨k0, k1, k2⟩ := cells_set3 (w := w5.setCell ⟨w.heap.size + 1 + 1, 2, none⟩ (.slice C1 ys.length c1)) (g := w.heap.size + 1) (u := .int .i64 H) (v := .slice A1 zs.length a1) (x := .slice C1 ys.length c1)
    ((World.cell?_setCell_other _ _ _ _ (by simp)).trans n0) ((World.cell?_setCell_other _ _ _ _ (by simp)).trans n1) ((World.cell?_setCell_other _ _ _ _ (by simp)).trans n2)
  have st : ∀ {v : Value} {xs : List Int} {W : World} (p : Addr) (u : Value), OwnI W w.heap.size v xs → (∀ k, v.ownBlock = some k → w.heap.size + 3 ≤ k) → p.block < w.heap.size + 3 → OwnI (W.setCell p u) w.heap.size v xs := fun p u h hf hp =>
    h.kept (grown_cell _ p u) (sep_of fun k e1 e2 => by have := hf k e1; have := Option.some.inj e2; omega)
  refine bodyPost_ret (v := .agg #[.int .i64 H, .slice A1 zs.length a1, .slice C1 ys.length c1]) (by simp [results, Try.results52, go_sem, k0, k1, k2]) rfl ⟨_, _, _, _, rfl, ?_, ?_, AP.out, ?_⟩
  · exact st _ _ (st _ _ (st _ _ (st _ _ K1.out far1.out (by show w.heap.size + 1 + 1 < _; omega)) far1.out (by show w.heap.size + 1 < _; omega)) far1.out (by show w.heap.size + 1 < _; omega)) far1.out (by show w.heap.size + 1 < _; omega)
  · exact st _ _ (st _ _ (st _ _ (st _ _ K2.out far2.out (by show w.heap.size + 1 + 1 < _; omega)) far2.out (by show w.heap.size + 1 < _; omega)) far2.out (by show w.heap.size + 1 < _; omega)) far2.out (by show w.heap.size + 1 < _; omega)
  · exact (((B.out.setCell (by show w.heap.size ≤ w.heap.size + 1 + 1; omega) _).setCell (by show w.heap.size ≤ w.heap.size + 1; omega) _).setCell (by show w.heap.size ≤ w.heap.size + 1; omega) _).setCell (by show w.heap.size ≤ w.heap.size + 1; omega) _

/-- How much an element's rows hold; the first k elements' rows and the row itself; the same without the row, a number more each (for marks). -/
def szC (l : RCue) : Nat := l.f1.length + l.f2.length
def bulkC (ls : List RCue) : Nat → Nat
  | 0 => ls.length
  | k + 1 => bulkC ls k + szC (ls.getD k RCue.zero)
theorem bulkC_more {ls : List RCue} {k : Nat} (h : k < ls.length) : bulkC ls (k + 1) = bulkC ls k + szC ls[k] := by
  rw [bulkC, List.getD_eq_getElem?_getD, List.getElem?_eq_getElem h]
  rfl
theorem bulkC_mono (ls : List RCue) {j k : Nat} (h : j ≤ k) : bulkC ls j ≤ bulkC ls k := by
  induction k with
  | zero => rw [Nat.le_zero.1 h]; exact Nat.le_refl _
  | succ k ih =>
    rcases Nat.lt_or_ge j (k + 1) with c | c
    · have := ih (by omega)
      rw [bulkC]
      omega
    · rw [show j = k + 1 by omega]; exact Nat.le_refl _
def bulkCue (ls : List RCue) : Nat := bulkC ls ls.length
theorem bulkCue_len (ls : List RCue) : ls.length ≤ bulkCue ls := bulkC_mono ls (j := 0) (by omega)
theorem bulkCue_row (ls : List RCue) (r : Nat) (h : r < ls.length) : ls[r].f1.length + ls[r].f2.length ≤ bulkCue ls := by
  have h1 := bulkC_more h
  have h2 := bulkC_mono ls (j := r + 1) (k := ls.length) (by omega)
  unfold bulkCue
  unfold szC at h1
  omega

set_option maxHeartbeats 1600000 in
theorem toCueS_any (a : Option Addr) (cap : Nat) (ls : List RCue) (w : World) (ha : ArgCue w a ls) (hl : bulkCue ls ≤ 1048576) :
    Calls Try.prog 21 #[.slice a ls.length cap] w fun e w' => ∃ v, e = .returned v ∧ OwnCue w' w.heap.size v ls ∧ Below w.heap.size w w' := by
  obtain ⟨i, hi, hz, hs, hb⟩ := info_parts infoCue
  have HA := Lib.hid ha
  have hll := bulkCue_len ls
  have RW := Lib.hid (fun k (h : k < ls.length) => (show ls[k].f1.length ≤ 1048576 ∧ ls[k].f2.length ≤ 1048576 by have := bulkCue_row ls k h; omega))
  clear ha
  go_enter Try.func21, Try.ntmps21
  go_wp2_with (refine wpList_make_full _ rfl _ _ 24 rfl w.heap.size 33 i _ 3 Try.underlying24 hi hz hs .i64 .i64 _ _ ls.length rfl rfl rfl rfl (by rw [hb]; omega) (by simp only [maxLen]; omega) (by simp) ?_; intro w1 own1 grown1)
  have O0 := Lib.hid (show OwnCue w1 w.heap.size (.slice (some ⟨w.heap.size, 0, none⟩) ls.length ls.length) (ls.take 0 ++ List.replicate (ls.length - 0) RCue.zero) by simpa using ownCue_made own1)
  have B0 := Lib.hid (below_of_grown grown1)
  clear own1 grown1
  go_loopw [4] (fun i wr => ∃ k : Nat, k ≤ ls.length ∧ i = .int .i64 k ∧ Hid (OwnCue wr w.heap.size (.slice (some ⟨w.heap.size, 0, none⟩) ls.length ls.length) (ls.take k ++ List.replicate (ls.length - k) RCue.zero)) ∧ Hid (Below w.heap.size w wr)) (fun i _ => ls.length - (intOf i).toNat)
  case atStart => exact ⟨0, by omega, rfl, O0, B0⟩
  case round =>
    clear O0 B0
    obtain ⟨k, hk, rfl, OO, BW⟩ := hrel
    by_cases hlt : k < ls.length
    rotate_left
    · obtain rfl : k = ls.length := by omega
      have F := Lib.hid (show OwnCue wr w.heap.size (.slice (some ⟨w.heap.size, 0, none⟩) ls.length ls.length) ls by simpa using OO.out)
      go_wp2
      go_ret
      exact ⟨_, rfl, F.out, BW.out⟩
    have hk0 : (0 : Int) ≤ (k : Int) := by omega
    have hk1 : (k : Int) < (ls.length : Int) := by omega
    obtain ⟨x, rfl, hx⟩ : ∃ x, a = some x ∧ ∀ k (h : k < ls.length), LiesCue w (x.add (k * 3)) ls[k] := by
      rcases HA.out with ⟨_, h0⟩ | h1
      · rw [h0] at hlt
        simp at hlt
      · exact h1
    obtain ⟨A1, c1, z1, A2, c2, z2, ⟨x0, x1, x2⟩, ⟨r1, e1⟩, ⟨r2, e2⟩⟩ := ((hx k hlt).below BW.out).cells
    have hlen : (ls.take k ++ List.replicate (ls.length - k) RCue.zero).length = ls.length := by simp; omega
    have HL := Lib.hid hlen
    have hr := RW.out k hlt
    have TC : Hid (Calls Try.prog 52 #[.agg #[.int .i64 ls[k].f0, .slice A1 ls[k].f1.length c1, .slice A2 ls[k].f2.length c2]] wr fun e w' => ∃ U1 d1 U2 d2, e = .returned (.agg #[.int .i64 ls[k].f0, .slice U1 ls[k].f1.length d1, .slice U2 ls[k].f2.length d2]) ∧
        OwnI w' wr.heap.size (.slice U1 ls[k].f1.length d1) ls[k].f1 ∧ OwnI w' wr.heap.size (.slice U2 ls[k].f2.length d2) ls[k].f2 ∧ ((Value.slice U1 ls[k].f1.length d1).ownBlock = none ∨ (Value.slice U1 ls[k].f1.length d1).ownBlock ≠ (Value.slice U2 ls[k].f2.length d2).ownBlock) ∧ Below wr.heap.size wr w') := Lib.hid (by
      have q := toCue_any ls[k].f0 A1 ls[k].f1.length c1 z1 A2 ls[k].f2.length c2 z2 wr r1 r2 hr.1 hr.2
      rwa [← e1, ← e2] at q)
    have CP := Lib.hid (copiedCue ls k hlt)
    have hbs := BW.out.size
    clear r1 r2 e1 e2 hlen hx hr
    generalize ls[k] = l at x0 x1 x2 TC CP
    go_wp2_with fail
    refine TC.out.mono ?_
    rintro e w2 ⟨U1, d1, U2, d2, rfl, o1, o2, ap, b2⟩
    have ST := OwnCue.set (ls := ls.take k ++ List.replicate (ls.length - k) RCue.zero) (base := w.heap.size) (g := w.heap.size) (n := ls.length) (c := ls.length) (k := k) (l := l) (w := w2) (w0 := wr) (u1 := .slice U1 l.f1.length d1) (u2 := .slice U2 l.f2.length d2) OO.out HL.out.symm (by rw [HL.out]; exact hlt) b2 hbs o1 o2 ap
    rw [CP.out] at ST
    obtain ⟨_, _, _, _, _, _, f1, -, ⟨y0, y1, y2⟩, -, ⟨t0, t1, t2⟩, -, -, -⟩ := (OO.out.below b2).spot (k := k) (by rw [HL.out]; exact hlt)
    simp only [Value.slice.injEq, Option.some.injEq, Addr.mk.injEq] at f1
    obtain ⟨⟨rfl, _⟩, -, -⟩ := f1
    obtain ⟨q0, p0⟩ : ∃ q, w2.cell? ⟨w.heap.size, k * 3, none⟩ = some q := ⟨_, y0⟩
    obtain ⟨q1, p1⟩ : ∃ q, w2.cell? ⟨w.heap.size, k * 3 + 1, none⟩ = some q := ⟨_, y1⟩
    obtain ⟨q2, p2⟩ : ∃ q, w2.cell? ⟨w.heap.size, k * 3 + 2, none⟩ = some q := ⟨_, y2⟩
    have B2 := Lib.hid (BW.out.trans (b2.mono hbs))
    have SS := Lib.hid ST
    clear y0 y1 y2 ST o1 o2 ap b2 OO BW
    go_wp2
    exact ⟨⟨k + 1, by omega, by go_num, Lib.hid SS.out.1, Lib.hid (B2.out.grown SS.out.2 B2.out.size (fun q hq => by have := Option.some.inj hq; omega))⟩, by simp [intOf]; omega⟩

theorem szCue_any (H : Int) (a : Option Addr) (n cap : Nat) (a2 : Option Addr) (n2 cap2 : Nat) (left : Int) (w : World) (h0 : 0 ≤ left) (h1 : left ≤ 1048576) (hn : n ≤ maxLen) (hn2 : n2 ≤ maxLen) :
    Calls Try.prog 49 #[.agg #[.int .i64 H, .slice a n cap, .slice a2 n2 cap2], .int .i64 left] w fun e w' => e = .returned (.int .i64 (szR left (n + n2))) ∧ Below w.heap.size w w' := by
  have C1 := Lib.hid (fun W => szIntS_any a n cap left W h0 h1 hn)
  have B := Lib.hid ((Below.refl w.heap.size w).alloc (Nat.le_refl _) (.cells #[.int .i64 H, .slice a n cap, .slice a2 n2 cap2] 61))
  by_cases c1 : (n : Int) ≤ left
  · have hn0 : ¬ left - (n : Int) < 0 := by omega
    have C2 := Lib.hid (fun W => szIntS_any a2 n2 cap2 (left - n) W (by omega) (by omega) hn2)
    rw [szR_in c1] at C1
    by_cases c2 : (n2 : Int) ≤ left - n
    · have R := Lib.hid (show szR left (n + n2) = left - n - n2 by rw [szR_in (by omega)]; omega)
      have hn1 : ¬ left - (n : Int) - (n2 : Int) < 0 := by omega
      rw [szR_in c2] at C2
      clear c1 c2
      go_enter Try.func49, Try.ntmps49
      go_wp2_with fail
      refine (C1.out _).mono ?_
      rintro e w' ⟨rfl, rfl⟩
      go_wp2_with fail
      refine (C2.out _).mono ?_
      rintro e w' ⟨rfl, rfl⟩
      go_wp2
      go_ret
      exact ⟨by rw [R.out]; rfl, B.out⟩
    · have R := Lib.hid (show szR left (n + n2) = -1 from szR_out (by omega))
      rw [szR_out c2] at C2
      clear c1 c2
      go_enter Try.func49, Try.ntmps49
      go_wp2_with fail
      refine (C1.out _).mono ?_
      rintro e w' ⟨rfl, rfl⟩
      go_wp2_with fail
      refine (C2.out _).mono ?_
      rintro e w' ⟨rfl, rfl⟩
      go_wp2
      go_ret
      exact ⟨by rw [R.out]; rfl, B.out⟩
  · have R := Lib.hid (show szR left (n + n2) = -1 from szR_out (by omega))
    rw [szR_out c1] at C1
    clear c1
    go_enter Try.func49, Try.ntmps49
    go_wp2_with fail
    refine (C1.out _).mono ?_
    rintro e w' ⟨rfl, rfl⟩
    go_wp2
    go_ret
    exact ⟨by rw [R.out]; rfl, B.out⟩
end Go.Proofs.Ytbgogcobkiaejac
