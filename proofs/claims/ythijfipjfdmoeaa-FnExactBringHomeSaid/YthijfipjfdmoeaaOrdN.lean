/- The program's looks at an order: the place of a puppet, whether it is an order, inversions, the first descent, an exchange in place, a copy. Condition: the numbers lie in a row of their own. -/
import Derived.Test.YthijfipjfdmoeaaSrtM
import Derived.Test.YthijfipjfdmoeaaInR
import Derived.Test.YthijfipjfdmoeaaSwpM
import Derived.BigQuiet
import Derived.BigRegion
namespace Go.Proofs.Ythijfipjfdmoeaa
set_option linter.unusedVariables false
set_option linter.unusedSimpArgs false
open Go.RowKit

/-- n places that hold all numbers below n hold each but once, and nothing else. -/
theorem hole (n : Nat) : ∀ (l : List Int), l.length = n → (∀ k : Nat, k < n → (k : Int) ∈ l) → l.Nodup ∧ ∀ x ∈ l, 0 ≤ x ∧ x < n := by
  induction n with
  | zero =>
    intro l h _
    obtain rfl := List.eq_nil_of_length_eq_zero h
    exact ⟨List.Pairwise.nil, fun x hx => by cases hx⟩
  | succ n ih =>
    intro l h hall
    have hm := hall n (by omega)
    have hp := List.perm_cons_erase hm
    have hl : (l.erase (n : Int)).length = n := by rw [List.length_erase_of_mem hm, h]; rfl
    obtain ⟨i1, i2⟩ := ih _ hl (fun k hk => (List.mem_erase_of_ne (by omega)).2 (hall k (by omega)))
    constructor
    · rw [hp.nodup_iff]
      exact List.nodup_cons.2 ⟨fun hx => by have := i2 _ hx; omega, i1⟩
    · intro x hx
      rcases List.mem_cons.1 (hp.mem_iff.1 hx) with e | e
      · omega
      · have := i2 _ e; omega
/-- Are the first k numbers there? -/
def seen (zs : List Int) (k : Nat) : Prop := ∀ p : Nat, p < k → ∃ i, i < zs.length ∧ atI zs i = (p : Int)
theorem place_has {f : Nat → Int} {x : Int} {n : Nat} (h : ¬ placeTo f x n = -1) : ∃ i, i < n ∧ f i = x := by
  induction n with
  | zero => exact absurd rfl h
  | succ n ih =>
    rw [placeTo] at h
    by_cases c : placeTo f x n = -1
    · rw [if_pos c] at h
      by_cases e : f n = x
      · exact ⟨n, by omega, e⟩
      · rw [if_neg e] at h; exact absurd rfl h
    · obtain ⟨i, h1, h2⟩ := ih c
      exact ⟨i, by omega, h2⟩
theorem ord_seen {zs : List Int} (h : seen zs zs.length) (hl : 1 ≤ zs.length ∧ zs.length ≤ 7) : orderOk zs = true := by
  rw [order_iff]
  obtain ⟨h1, h2⟩ := hole zs.length zs rfl fun k hk => by
    obtain ⟨i, hi, e⟩ := h k hk
    rw [← e, atI_of hi]
    exact List.getElem_mem hi
  refine ⟨hl, fun k hk => ?_, fun i j hi hj hij => ?_⟩
  · have := h2 _ (List.getElem_mem hk)
    omega
  · have p := List.pairwise_iff_getElem.1 h1
    rcases Nat.lt_or_gt_of_ne hij with c | c
    · exact p i j hi hj c
    · exact fun e => p j i hj hi c e.symm
theorem ord_unseen {zs : List Int} {p : Nat} (hp : p < zs.length) (h : placeTo (atI zs) (p : Int) zs.length = -1) : orderOk zs = false := by
  cases hh : orderOk zs with
  | false => rfl
  | true =>
    obtain ⟨q, _, _, h3⟩ := place_found (f := atI zs) (x := (p : Int)) (n := zs.length) (ord_has (order_iff.1 hh) hp)
    omega
theorem order_long {zs : List Int} (h : inB (zs.length : Int) 1 7 = false) : orderOk zs = false := by unfold orderOk; rw [h, Bool.and_false]
/-- The first descent, and -1. -/
def fall (zs : List Int) : Int := if invs zs = 0 then -1 else (firstD zs : Int)
theorem desc_eq {f : Nat → Int} {n k : Nat} (hk : k ≤ n) (h1 : ∀ i, i < k → f i < f (i + 1)) (h2 : ¬ f k < f (k + 1)) : desc f n 0 = k := by
  obtain ⟨_, a2, a3, a4⟩ := desc_spec (f := f) n 0 k (by omega) (by omega) h2
  rcases Nat.lt_or_ge (desc f n 0) k with c | c
  · exact absurd (h1 _ c) a3
  · omega
theorem fall_at {zs : List Int} (h : IsOrd zs) {k : Nat} (hk : k + 1 < zs.length) (h1 : ∀ i, i < k → ¬ atI zs (i + 1) < atI zs i) (h2 : atI zs (k + 1) < atI zs k) : fall zs = (k : Int) := by
  obtain ⟨_, o⟩ := ord_at h
  unfold fall
  rw [if_neg, firstD, desc_eq (k := k) (by omega) (fun i hi => ?_) (by omega)]
  · have := h1 i hi
    have := o i (i + 1) (by omega) (by omega) (by omega)
    omega
  · intro hz
    have := inv_zero (f := atI zs) (n := zs.length) hz k (k + 1) (by omega) hk
    omega
theorem fall_not {zs : List Int} (h1 : ∀ i, i + 1 < zs.length → ¬ atI zs (i + 1) < atI zs i) : fall zs = -1 := by
  unfold fall invs
  rw [if_pos (inv_none fun i hi => by have := h1 i hi; omega)]
theorem OwnI.room {w : World} {b : Nat} {A : Option Addr} {n c : Nat} {zs : List Int} (h : OwnI w b (.slice A n c) zs) : n ≤ c := by
  rcases h.2 with ⟨e, _⟩ | ⟨g, cap, cur, e, _, _, h1, _⟩
  · simp only [Value.slice.injEq] at e
    omega
  · simp only [Value.slice.injEq] at e
    omega

set_option maxHeartbeats 800000 in
theorem placeM (v : Value) (zs : List Int) (x : Int) (b : Nat) (w : World) (h : OwnI w b v zs) (hl : zs.length ≤ 2000000) :
    Calls Try.prog 75 #[v, .int .i64 x] w fun e w' => e = .returned (.int .i64 (placeTo (atI zs) x zs.length)) ∧ w' = w := by
  obtain ⟨A, c, rfl⟩ := h.slice
  have O := Lib.hid h
  clear h
  go_enter Try.func75, Try.ntmps75
  go_wp2
  go_loopw [9] (fun iv wr => w = wr ∧ ∃ k : Nat, k ≤ zs.length ∧ iv = .int .i64 (k : Int) ∧ Hid (placeTo (atI zs) x k = -1)) (fun iv _ => zs.length - (intOf iv).toNat)
  case atStart => exact ⟨rfl, 0, by omega, rfl, rfl⟩
  case round =>
    obtain ⟨rfl, k, hk, rfl, HP⟩ := hrel
    by_cases hlt : k < zs.length
    rotate_left
    · obtain rfl : k = zs.length := by omega
      go_wp2
      go_ret
      exact ⟨by rw [HP.out]; rfl, rfl⟩
    have hk0 : (0 : Int) ≤ (k : Int) := by omega
    have hk1 : (k : Int) < (zs.length : Int) := by omega
    have FD := Lib.hid (fun (e : zs[k] = x) => (show placeTo (atI zs) x zs.length = (k : Int) from place_keep hlt HP.out (by rw [atI_of hlt]; exact e)))
    have NF := Lib.hid (fun (e : ¬ zs[k] = x) => place_not HP.out (by rw [atI_of hlt]; exact e))
    obtain ⟨g, _, f1, _, _, z0, _⟩ := O.out.spot hlt
    simp only [Value.slice.injEq] at f1
    obtain ⟨rfl, em, rfl⟩ := f1
    clear em
    generalize zs[k] = y at z0 FD NF
    by_cases he : y = x
    · have R2 := Lib.hid (FD.out he)
      have hbe : (y == x) = true := by simpa using he
      clear he FD NF
      go_wp2
      go_ret
      exact ⟨by rw [R2.out]; rfl, rfl⟩
    · have N2 := Lib.hid (NF.out he)
      have hbe : (y == x) = false := by simpa using he
      clear he FD NF
      go_wp2
      exact ⟨⟨by trivial, k + 1, by omega, by go_num, N2⟩, by simp [intOf]; omega⟩

set_option maxHeartbeats 800000 in
theorem isOkM (v : Value) (zs : List Int) (b : Nat) (w : World) (h : OwnI w b v zs) (hl : zs.length ≤ 2000000) :
    Calls Try.prog 71 #[v] w fun e w' => e = .returned (.bool (orderOk zs)) ∧ w' = w := by
  have CP := Lib.hid (fun x => (placeM v zs x b w h hl).mono fun e w' h => (show _ ∧ w = w' from ⟨h.1, h.2.symm⟩))
  obtain ⟨A, c, rfl⟩ := h.slice
  have C0 := Lib.hid (fun v lo hi W => (inRange_any v lo hi W).mono fun e w' h => (show _ ∧ W = w' from ⟨h.1, h.2.symm⟩))
  clear h
  go_enter Try.func71, Try.ntmps71
  cases hin : inB (zs.length : Int) 1 7 with
  | false =>
    have R := Lib.hid (order_long hin)
    go_wp2_with (go_at_call 39; refine (C0.out _ _ _ _).mono ?_; rintro e w' ⟨rfl, rfl⟩)
    go_ret
    exact ⟨by rw [R.out]; rfl, rfl⟩
  | true =>
  have hl7 : 1 ≤ zs.length ∧ zs.length ≤ 7 := by have : (1 : Int) ≤ zs.length ∧ (zs.length : Int) ≤ 7 := by simpa [inB] using hin
                                                 omega
  go_wp2_with (go_at_call 39; refine (C0.out _ _ _ _).mono ?_; rintro e w' ⟨rfl, rfl⟩)
  go_loopw [10] (fun iv wr => w = wr ∧ ∃ k : Nat, k ≤ zs.length ∧ iv = .int .i64 (k : Int) ∧ Hid (seen zs k)) (fun iv _ => zs.length - (intOf iv).toNat)
  case atStart => exact ⟨rfl, 0, by omega, rfl, Lib.hid (fun p hp => absurd hp (by omega))⟩
  case round =>
    obtain ⟨rfl, k, hk, rfl, HS⟩ := hrel
    by_cases hlt : k < zs.length
    rotate_left
    · obtain rfl : k = zs.length := by omega
      have R := Lib.hid (ord_seen HS.out hl7)
      go_wp2
      go_ret
      exact ⟨by rw [R.out]; rfl, rfl⟩
    have hk0 : (0 : Int) ≤ (k : Int) := by omega
    have hk1 : (k : Int) < (zs.length : Int) := by omega
    have C1 := Lib.hid (CP.out (k : Int))
    have NO := Lib.hid (fun h => ord_unseen (zs := zs) hlt h)
    have YES := Lib.hid (fun h => (show seen zs (k + 1) from fun p hp => by
      rcases Nat.lt_or_ge p k with q | q
      · exact HS.out p q
      · obtain rfl : p = k := by omega
        exact place_has h))
    generalize placeTo (atI zs) (k : Int) zs.length = r at C1 NO YES
    by_cases he : r = -1
    · have R := Lib.hid (NO.out he)
      have hbe : (r == -1) = true := by simpa using he
      clear he NO YES
      go_wp2_with (go_at_call 75; refine C1.out.mono ?_; rintro e w' ⟨rfl, rfl⟩)
      go_ret
      exact ⟨by rw [R.out]; rfl, rfl⟩
    · have R := Lib.hid (YES.out he)
      have hbe : (r == -1) = false := by simpa using he
      clear he NO YES
      go_wp2_with (go_at_call 75; refine C1.out.mono ?_; rintro e w' ⟨rfl, rfl⟩)
      exact ⟨⟨by trivial, k + 1, by omega, by go_num, R⟩, by simp [intOf]; omega⟩
end Go.Proofs.Ythijfipjfdmoeaa
