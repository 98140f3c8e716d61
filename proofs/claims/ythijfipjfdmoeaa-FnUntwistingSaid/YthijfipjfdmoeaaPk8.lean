/- Texts of this seat laid together, each with its own first sentence below: UnpI OraI OrdN OrdQ SrtI HomI EqO UnyM. -/
import Derived.Test.YthijfipjfdmoeaaPk6
import Derived.Test.YthijfipjfdmoeaaPk7
import Derived.Test.YthijfipjfdmoeaaPk2
import Derived.Test.YthijfipjfdmoeaaPk3
import Derived.Test.YthijfipjfdmoeaaPk1
import Derived.Test.YthijfipjfdmoeaaPk5
import Derived.BigQuiet
import Derived.BigRegion
import Derived.Deep.AppendLies
/- The contract of the program's unwindPair. Condition: the crossings lie in a row of their own; the turn has at least one crossing. -/
namespace Go.Proofs.Ythijfipjfdmoeaa
set_option linter.unusedVariables false
set_option linter.unusedSimpArgs false
open Go.RowKit

set_option maxRecDepth 100000 in
set_option maxHeartbeats 1600000 in
theorem pairU (n : Int) (v : Value) (ls : List RCross) (b : Nat) (w : World) (h : OwnCross w b v ls) (hl : ls.length ≤ 2000000) (i k : Int) (h1 : ∀ f, 1 ≤ (fullTurn n i k f).1.length) :
    Calls Try.prog 36 #[.int .i64 n, v, .int .i64 i, .int .i64 k] w (CrossPost w (repL (fullTurn n i k (decide (twistOf n ls i k < 0))).1 (halfOf (twistOf n ls i k)))) := by
  have CT := Lib.hid (fun W h => implTwO n v ls b W h hl i k)
  obtain ⟨A, c, rfl⟩ := h.slice
  have O := Lib.hid h
  have tsm := twistOf_small n ls i k
  clear h
  generalize twistOf n ls i k = t at CT tsm ⊢
  have CF := Lib.hid (fun W => implFull n i k (decide (t < 0)) W)
  have fl := fullTurn_len n i k (decide (t < 0))
  have f1 := h1 (decide (t < 0))
  generalize hr : fullTurn n i k (decide (t < 0)) = r at CF fl f1 ⊢
  obtain ⟨xs, rb⟩ := r
  dsimp only at fl f1 ⊢
  obtain ⟨t2, ht2⟩ : ∃ t2, decide (t < 0) = t2 := ⟨_, rfl⟩
  rw [ht2] at CF
  have e1 : IntKind.i64.wrap (-t) = -t := IntWalk.i64_in _ (by omega)
  obtain ⟨H, hH⟩ : ∃ H, halfOf t = H := ⟨_, rfl⟩
  have h20 : H ≤ 20 := by rw [← hH]; exact half_small tsm
  have eq1 : Int.tdiv (if t < -t then -t else t) 2 = (H : Int) := by
    rw [← hH]
    unfold halfOf absI
    split <;> split <;> rw [Int.tdiv_eq_ediv_of_nonneg (by omega)] <;> omega
  rw [hH]
  have CR := Lib.hid (fun v b W h => repeatX H h20 v xs b W h f1 fl)
  unfold CrossB at CF
  dsimp only at CF
  clear hr fl f1 h1 hH
  go_enter Try.func36, Try.ntmps36
  go_wp2_with fail
  refine (CT.out _ O.out).mono ?_
  rintro e w1 ⟨rfl, b1⟩
  have B1 := Lib.hid b1
  clear b1 CT
  go_wp2_with fail
  refine (CF.out _).mono ?_
  rintro e w2 ⟨vx, rfl, o2, b2⟩
  have O2 := Lib.hid o2
  have B2 := Lib.hid (B1.out.trans (b2.mono B1.out.size))
  clear o2 b2 B1 CF
  obtain ⟨X, cx, rfl⟩ := O2.out.slice
  clear ht2
  go_wp2_with fail
  all_goals
    refine (CR.out _ _ _ O2.out).mono ?_
    rintro e w3 ⟨v3, rfl, o3, b3⟩
    have hs2 := B2.out.size
    have O3 := Lib.hid (o3.mono hs2)
    have B3 := Lib.hid (B2.out.trans (b3.mono hs2))
    clear o3 b3
    go_wp2
    go_ret
    exact ⟨_, rfl, O3.out, B3.out⟩
end Go.Proofs.Ythijfipjfdmoeaa

/- The contract of impl.OrderAfter. Condition: the crossings lie in a row of their own. -/
namespace Go.Proofs.Ythijfipjfdmoeaa
set_option linter.unusedVariables false
set_option linter.unusedSimpArgs false
open Go.RowKit

set_option maxRecDepth 100000 in
set_option maxHeartbeats 1600000 in
theorem implOrdA (n : Int) (v : Value) (ls : List RCross) (b : Nat) (w : World) (h : OwnCross w b v ls) (hl : ls.length ≤ 2000000) :
    Calls Try.prog 47 #[.int .i64 n, v] w (IntsPost w (ordAfter n ls)) := by
  have CK := Lib.hid (fun W h => implCrOk n v ls b W h hl)
  obtain ⟨A, c, rfl⟩ := h.slice
  have O := Lib.hid h
  clear h
  cases hc : crossOk n ls with
  | false =>
    have R := Lib.hid (show ordAfter n ls = [] by unfold ordAfter; rw [hc]; rfl)
    rw [hc] at CK
    go_enter Try.func47, Try.ntmps47
    go_wp2_with (go_at_call 32; refine (CK.out _ O.out).mono ?_; rintro e w1 ⟨rfl, b1⟩; have B1 := Lib.hid b1; clear b1)
    go_ret
    exact ⟨_, rfl, by rw [R.out]; exact ⟨rfl, .inl ⟨rfl, rfl⟩⟩, B1.out⟩
  | true =>
    have hn := (crossOk_has hc).1
    have hn' : 1 ≤ n ∧ n ≤ 7 := by
      unfold inB at hn
      exact of_decide_eq_true hn
    have R := Lib.hid (show ordAfter n ls = nowAt n ls ls.length by unfold ordAfter; rw [if_pos hc])
    have SS := Lib.hid (fun k (h : k < ls.length) => now_swap hc h)
    rw [hc] at CK
    have ST := Lib.hid (fun W => homeM n W hn')
    have NL := Lib.hid (fun k => nowAt_len n ls k)
    have NZ := Lib.hid (nowAt_zero n ls)
    clear hn hc
    go_enter Try.func47, Try.ntmps47
    go_wp2_with (first
      | (go_at_call 32; refine (CK.out _ O.out).mono ?_; rintro e w1 ⟨rfl, b1⟩; have B1 := Lib.hid b1; clear b1)
      | (go_at_call 56; refine (ST.out _).mono ?_; rintro e w2 ⟨v0, rfl, o0, b2⟩; have B2 := Lib.hid (B1.out.trans (b2.mono B1.out.size)); have O0 := Lib.hid (show OwnI w2 w.heap.size v0 (nowAt n ls 0) by rw [NZ.out]; exact o0.mono B1.out.size); clear b2 o0))
    clear B1 CK ST
    go_loopw [16] (fun iv wr => ∃ k : Nat, k ≤ ls.length ∧ iv = .int .i64 (k : Int) ∧ Hid (OwnI wr w.heap.size v0 (nowAt n ls k)) ∧ Hid (Below w.heap.size w wr)) (fun iv _ => ls.length - (intOf iv).toNat)
    case atStart => exact ⟨0, by omega, rfl, O0, B2⟩
    case round =>
      clear O0 B2
      obtain ⟨k, hk, rfl, OO, BW⟩ := hrel
      by_cases hlt : k < ls.length
      rotate_left
      · obtain rfl : k = ls.length := by omega
        go_wp2
        go_ret
        exact ⟨_, rfl, by rw [R.out]; exact OO.out, BW.out⟩
      have hk0 : (0 : Int) ≤ (k : Int) := by omega
      have hk1 : (k : Int) < (ls.length : Int) := by omega
      obtain ⟨g, _, f1, _, _, z0, _⟩ := (O.out.below BW.out).spot hlt
      simp only [Value.slice.injEq] at f1
      obtain ⟨rfl, -, rfl⟩ := f1
      have r0 : wr.cell? ⟨g, k * 2, none⟩ = some (.int .i64 ls[k].f0) := z0 0 _ rfl
      have r1 : wr.cell? ⟨g, k * 2 + 1, none⟩ = some (.bool ls[k].f1) := z0 1 _ rfl
      obtain ⟨i, hi, hi1, hsw⟩ := SS.out k hlt
      have SW := Lib.hid (fun W h => swapM v0 (nowAt n ls k) i w.heap.size W h hi1 (by have := NL.out k; omega))
      rw [hi] at r0
      have NM := Lib.hid hsw
      generalize ls[k].f1 = y at r1
      have hbs := BW.out.size
      have LT := Lib.hid (fun x hx => (OO.out.lt x hx).1)
      clear z0 hi hsw hi1
      go_wp2_with (go_at_call 65; refine (SW.out _ (OO.out.alloc _)).mono ?_; rintro e w3 ⟨rfl, o3, g3⟩; have B3 := Lib.hid ((BW.out.alloc hbs _).grown g3 (by simp; omega) LT.out); have O3 := Lib.hid (show OwnI w3 w.heap.size v0 (nowAt n ls (k + 1)) by rw [NM.out]; exact o3); clear o3 g3)
      exact ⟨⟨k + 1, by omega, by go_num, O3, B3⟩, by simp [intOf]; omega⟩
end Go.Proofs.Ythijfipjfdmoeaa

/- The program's looks at an order: the place of a puppet, whether it is an order, inversions, the first descent, an exchange in place, a copy. Condition: the numbers lie in a row of their own. -/
namespace Go.Proofs.Ythijfipjfdmoeaa
set_option linter.unusedVariables false
set_option linter.unusedSimpArgs false
open Go.RowKit

/-- n places that hold all numbers below n hold each but once, and nothing else. -/
theorem hole (n : Nat) : ∀ (l : List Int), l.length = n → (∀ k : Nat, k < n → (k : Int) ∈ l) → l.Nodup ∧ ∀ x ∈ l, 0 ≤ x ∧ x < n := by
  induction n with
  | zero =>
    intro l h _
    obtain rfl := List.eq_nil_of_length_eq_zero h
    exact ⟨List.Pairwise.nil, fun x hx => by cases hx⟩
  | succ n ih =>
    intro l h hall
    have hm := hall n (by omega)
    have hp := List.perm_cons_erase hm
    have hl : (l.erase (n : Int)).length = n := by rw [List.length_erase_of_mem hm, h]; rfl
    obtain ⟨i1, i2⟩ := ih _ hl (fun k hk => (List.mem_erase_of_ne (by omega)).2 (hall k (by omega)))
    constructor
    · rw [hp.nodup_iff]
      exact List.nodup_cons.2 ⟨fun hx => by have := i2 _ hx; omega, i1⟩
    · intro x hx
      rcases List.mem_cons.1 (hp.mem_iff.1 hx) with e | e
      · omega
      · have := i2 _ e; omega
/-- Are the first k numbers there? -/
def seen (zs : List Int) (k : Nat) : Prop := ∀ p : Nat, p < k → ∃ i, i < zs.length ∧ atI zs i = (p : Int)
theorem place_has {f : Nat → Int} {x : Int} {n : Nat} (h : ¬ placeTo f x n = -1) : ∃ i, i < n ∧ f i = x := by
  induction n with
  | zero => exact absurd rfl h
  | succ n ih =>
    rw [placeTo] at h
    by_cases c : placeTo f x n = -1
    · rw [if_pos c] at h
      by_cases e : f n = x
      · exact ⟨n, by omega, e⟩
      · rw [if_neg e] at h; exact absurd rfl h
    · obtain ⟨i, h1, h2⟩ := ih c
      exact ⟨i, by omega, h2⟩
theorem ord_seen {zs : List Int} (h : seen zs zs.length) (hl : 1 ≤ zs.length ∧ zs.length ≤ 7) : orderOk zs = true := by
  rw [order_iff]
  obtain ⟨h1, h2⟩ := hole zs.length zs rfl fun k hk => by
    obtain ⟨i, hi, e⟩ := h k hk
    rw [← e, atI_of hi]
    exact List.getElem_mem hi
  refine ⟨hl, fun k hk => ?_, fun i j hi hj hij => ?_⟩
  · have := h2 _ (List.getElem_mem hk)
    omega
  · have p := List.pairwise_iff_getElem.1 h1
    rcases Nat.lt_or_gt_of_ne hij with c | c
    · exact p i j hi hj c
    · exact fun e => p j i hj hi c e.symm
theorem ord_unseen {zs : List Int} {p : Nat} (hp : p < zs.length) (h : placeTo (atI zs) (p : Int) zs.length = -1) : orderOk zs = false := by
  cases hh : orderOk zs with
  | false => rfl
  | true =>
    obtain ⟨q, _, _, h3⟩ := place_found (f := atI zs) (x := (p : Int)) (n := zs.length) (ord_has (order_iff.1 hh) hp)
    omega
theorem order_long {zs : List Int} (h : inB (zs.length : Int) 1 7 = false) : orderOk zs = false := by unfold orderOk; rw [h, Bool.and_false]
/-- The first descent, and -1. -/
def fall (zs : List Int) : Int := if invs zs = 0 then -1 else (firstD zs : Int)
theorem desc_eq {f : Nat → Int} {n k : Nat} (hk : k ≤ n) (h1 : ∀ i, i < k → f i < f (i + 1)) (h2 : ¬ f k < f (k + 1)) : desc f n 0 = k := by
  obtain ⟨_, a2, a3, a4⟩ := desc_spec (f := f) n 0 k (by omega) (by omega) h2
  rcases Nat.lt_or_ge (desc f n 0) k with c | c
  · exact absurd (h1 _ c) a3
  · omega
theorem fall_at {zs : List Int} (h : IsOrd zs) {k : Nat} (hk : k + 1 < zs.length) (h1 : ∀ i, i < k → ¬ atI zs (i + 1) < atI zs i) (h2 : atI zs (k + 1) < atI zs k) : fall zs = (k : Int) := by
  obtain ⟨_, o⟩ := ord_at h
  unfold fall
  rw [if_neg, firstD, desc_eq (k := k) (by omega) (fun i hi => ?_) (by omega)]
  · have := h1 i hi
    have := o i (i + 1) (by omega) (by omega) (by omega)
    omega
  · intro hz
    have := inv_zero (f := atI zs) (n := zs.length) hz k (k + 1) (by omega) hk
    omega
theorem fall_not {zs : List Int} (h1 : ∀ i, i + 1 < zs.length → ¬ atI zs (i + 1) < atI zs i) : fall zs = -1 := by
  unfold fall invs
  rw [if_pos (inv_none fun i hi => by have := h1 i hi; omega)]
theorem OwnI.room {w : World} {b : Nat} {A : Option Addr} {n c : Nat} {zs : List Int} (h : OwnI w b (.slice A n c) zs) : n ≤ c := by
  rcases h.2 with ⟨e, _⟩ | ⟨g, cap, cur, e, _, _, h1, _⟩
  · simp only [Value.slice.injEq] at e
    omega
  · simp only [Value.slice.injEq] at e
    omega

set_option maxHeartbeats 800000 in
theorem placeM (v : Value) (zs : List Int) (x : Int) (b : Nat) (w : World) (h : OwnI w b v zs) (hl : zs.length ≤ 2000000) :
    Calls Try.prog 75 #[v, .int .i64 x] w fun e w' => e = .returned (.int .i64 (placeTo (atI zs) x zs.length)) ∧ w' = w := by
  obtain ⟨A, c, rfl⟩ := h.slice
  have O := Lib.hid h
  clear h
  go_enter Try.func75, Try.ntmps75
  go_wp2
  go_loopw [9] (fun iv wr => w = wr ∧ ∃ k : Nat, k ≤ zs.length ∧ iv = .int .i64 (k : Int) ∧ Hid (placeTo (atI zs) x k = -1)) (fun iv _ => zs.length - (intOf iv).toNat)
  case atStart => exact ⟨rfl, 0, by omega, rfl, rfl⟩
  case round =>
    obtain ⟨rfl, k, hk, rfl, HP⟩ := hrel
    by_cases hlt : k < zs.length
    rotate_left
    · obtain rfl : k = zs.length := by omega
      go_wp2
      go_ret
      exact ⟨by rw [HP.out]; rfl, rfl⟩
    have hk0 : (0 : Int) ≤ (k : Int) := by omega
    have hk1 : (k : Int) < (zs.length : Int) := by omega
    have FD := Lib.hid (fun (e : zs[k] = x) => (show placeTo (atI zs) x zs.length = (k : Int) from place_keep hlt HP.out (by rw [atI_of hlt]; exact e)))
    have NF := Lib.hid (fun (e : ¬ zs[k] = x) => place_not HP.out (by rw [atI_of hlt]; exact e))
    obtain ⟨g, _, f1, _, _, z0, _⟩ := O.out.spot hlt
    simp only [Value.slice.injEq] at f1
    obtain ⟨rfl, em, rfl⟩ := f1
    clear em
    generalize zs[k] = y at z0 FD NF
    by_cases he : y = x
    · have R2 := Lib.hid (FD.out he)
      have hbe : (y == x) = true := by simpa using he
      clear he FD NF
      go_wp2
      go_ret
      exact ⟨by rw [R2.out]; rfl, rfl⟩
    · have N2 := Lib.hid (NF.out he)
      have hbe : (y == x) = false := by simpa using he
      clear he FD NF
      go_wp2
      exact ⟨⟨by trivial, k + 1, by omega, by go_num, N2⟩, by simp [intOf]; omega⟩

set_option maxHeartbeats 800000 in
theorem isOkM (v : Value) (zs : List Int) (b : Nat) (w : World) (h : OwnI w b v zs) (hl : zs.length ≤ 2000000) :
    Calls Try.prog 71 #[v] w fun e w' => e = .returned (.bool (orderOk zs)) ∧ w' = w := by
  have CP := Lib.hid (fun x => (placeM v zs x b w h hl).mono fun e w' h => (show _ ∧ w = w' from ⟨h.1, h.2.symm⟩))
  obtain ⟨A, c, rfl⟩ := h.slice
  have C0 := Lib.hid (fun v lo hi W => (inRange_any v lo hi W).mono fun e w' h => (show _ ∧ W = w' from ⟨h.1, h.2.symm⟩))
  clear h
  go_enter Try.func71, Try.ntmps71
  cases hin : inB (zs.length : Int) 1 7 with
  | false =>
    have R := Lib.hid (order_long hin)
    go_wp2_with (go_at_call 39; refine (C0.out _ _ _ _).mono ?_; rintro e w' ⟨rfl, rfl⟩)
    go_ret
    exact ⟨by rw [R.out]; rfl, rfl⟩
  | true =>
  have hl7 : 1 ≤ zs.length ∧ zs.length ≤ 7 := by have : (1 : Int) ≤ zs.length ∧ (zs.length : Int) ≤ 7 := by simpa [inB] using hin
                                                 omega
  go_wp2_with (go_at_call 39; refine (C0.out _ _ _ _).mono ?_; rintro e w' ⟨rfl, rfl⟩)
  go_loopw [10] (fun iv wr => w = wr ∧ ∃ k : Nat, k ≤ zs.length ∧ iv = .int .i64 (k : Int) ∧ Hid (seen zs k)) (fun iv _ => zs.length - (intOf iv).toNat)
  case atStart => exact ⟨rfl, 0, by omega, rfl, Lib.hid (fun p hp => absurd hp (by omega))⟩
  case round =>
    obtain ⟨rfl, k, hk, rfl, HS⟩ := hrel
    by_cases hlt : k < zs.length
    rotate_left
    · obtain rfl : k = zs.length := by omega
      have R := Lib.hid (ord_seen HS.out hl7)
      go_wp2
      go_ret
      exact ⟨by rw [R.out]; rfl, rfl⟩
    have hk0 : (0 : Int) ≤ (k : Int) := by omega
    have hk1 : (k : Int) < (zs.length : Int) := by omega
    have C1 := Lib.hid (CP.out (k : Int))
    have NO := Lib.hid (fun h => ord_unseen (zs := zs) hlt h)
    have YES := Lib.hid (fun h => (show seen zs (k + 1) from fun p hp => by
      rcases Nat.lt_or_ge p k with q | q
      · exact HS.out p q
      · obtain rfl : p = k := by omega
        exact place_has h))
    generalize placeTo (atI zs) (k : Int) zs.length = r at C1 NO YES
    by_cases he : r = -1
    · have R := Lib.hid (NO.out he)
      have hbe : (r == -1) = true := by simpa using he
      clear he NO YES
      go_wp2_with (go_at_call 75; refine C1.out.mono ?_; rintro e w' ⟨rfl, rfl⟩)
      go_ret
      exact ⟨by rw [R.out]; rfl, rfl⟩
    · have R := Lib.hid (YES.out he)
      have hbe : (r == -1) = false := by simpa using he
      clear he NO YES
      go_wp2_with (go_at_call 75; refine C1.out.mono ?_; rintro e w' ⟨rfl, rfl⟩)
      exact ⟨⟨by trivial, k + 1, by omega, by go_num, R⟩, by simp [intOf]; omega⟩
end Go.Proofs.Ythijfipjfdmoeaa

/- The program's first descent and copy of an order; OrderOk. Condition: the numbers lie in a row of their own. -/
namespace Go.Proofs.Ythijfipjfdmoeaa
set_option linter.unusedVariables false
set_option linter.unusedSimpArgs false
open Go.RowKit

set_option maxRecDepth 100000 in
set_option maxHeartbeats 800000 in
theorem fallM (v : Value) (zs : List Int) (b : Nat) (w : World) (h : OwnI w b v zs) (ho : IsOrd zs) :
    Calls Try.prog 64 #[v] w fun e w' => e = .returned (.int .i64 (fall zs)) ∧ Below w.heap.size w w' := by
  have hl7 := ho.len
  obtain ⟨A, c, rfl⟩ := h.slice
  have O := Lib.hid h
  have HO := Lib.hid ho
  have e1 := len_sub (show zs.length ≤ 2000000 by omega) 1 (by omega) (by omega)
  clear h
  go_enter Try.func64, Try.ntmps64
  go_wp2_with fail
  go_loopw [7] (fun iv wr => ∃ k : Nat, k + 1 ≤ zs.length ∧ iv = .int .i64 (k : Int) ∧ Hid (∀ i, i < k → ¬ atI zs (i + 1) < atI zs i) ∧ Hid (Below w.heap.size w wr)) (fun iv _ => zs.length - (intOf iv).toNat)
  case atStart => exact ⟨0, by omega, rfl, Lib.hid (fun i hi => absurd hi (by omega)), Lib.hid (Below.refl _ _)⟩
  case round =>
    obtain ⟨k, hk, rfl, HN, BW⟩ := hrel
    by_cases hlt : k + 1 < zs.length
    rotate_left
    · obtain hkk : k + 1 = zs.length := by omega
      have R := Lib.hid (fall_not (zs := zs) fun i hi => HN.out i (by omega))
      have hk2 : ¬ (k : Int) < (zs.length : Int) - 1 := by omega
      go_wp2
      go_ret
      exact ⟨by rw [R.out]; rfl, BW.out⟩
    have h1 : k < zs.length := by omega
    have hk0 : (0 : Int) ≤ (k : Int) := by omega
    have hk1 : (k : Int) < (zs.length : Int) := by omega
    have hk2 : (k : Int) < (zs.length : Int) - 1 := by omega
    have hk3 : (0 : Int) ≤ (k : Int) + 1 := by omega
    have hk4 : (k : Int) + 1 < (zs.length : Int) := by omega
    have e2 : IntKind.i64.wrap ((k : Int) + 1) = (k : Int) + 1 := IntWalk.i64_in _ (by omega)
    have FD := Lib.hid (fun h => fall_at HO.out hlt HN.out h)
    have NF := Lib.hid (fun (h : ¬ atI zs (k + 1) < atI zs k) => (show ∀ i, i < k + 1 → ¬ atI zs (i + 1) < atI zs i from fun i hi => by
      rcases Nat.lt_or_ge i k with q | q
      · exact HN.out i q
      · obtain rfl : i = k := by omega
        exact h))
    rw [atI_of h1, atI_of hlt] at FD NF
    obtain ⟨g, _, f1, _, _, z0, _⟩ := (O.out.below BW.out).spot h1
    simp only [Value.slice.injEq] at f1
    obtain ⟨rfl, em, rfl⟩ := f1
    clear em
    obtain ⟨_, _, f1, _, _, z1, _⟩ := (O.out.below BW.out).spot hlt
    simp only [Value.slice.injEq, Option.some.injEq, Addr.mk.injEq] at f1
    obtain ⟨⟨rfl, _⟩, _⟩ := f1
    generalize zs[k] = x at z0 FD NF
    generalize zs[k + 1] = y at z1 FD NF
    by_cases he : y < x
    · have R := Lib.hid (FD.out he)
      have dx : decide (y < x) = true := decide_eq_true he
      clear he FD NF
      go_wp2
      go_quiet (fail)
      go_wp2
      go_ret
      exact ⟨by rw [R.out]; rfl, below_drewN BW.out _⟩
    · have N2 := Lib.hid (NF.out he)
      have dx : decide (y < x) = false := decide_eq_false he
      clear he FD NF
      go_wp2
      go_quiet (fail)
      go_wp2
      exact ⟨⟨_, _, _, ⟨k + 1, by omega, by go_num, N2, Lib.hid (below_drewN BW.out _)⟩, rfl, rfl, rfl⟩, by simp [intOf]; omega⟩

set_option maxHeartbeats 800000 in
theorem cloneI_any (v : Value) (zs : List Int) (base : Nat) (w : World) (hown : OwnI w base v zs) (hl : zs.length ≤ 3000000) :
    Calls Try.prog 63 #[v] w fun e w' => ∃ v', e = .returned v' ∧ OwnI w' w.heap.size v' zs ∧ Below w.heap.size w w' := by
  rcases id hown.2 with ⟨rfl, hn⟩ | ⟨g, cap, cur, rfl, _⟩
  · have hy : zs = [] := List.eq_nil_of_length_eq_zero hn
    subst hy
    have ke := fun W => Lib.run_eql_slice_nil (P := Try.prog) W 36 3 none 0 0 0 0 Try.underlying36
    clear hown hn
    go_enter Try.func63, Try.ntmps63
    go_wp2
    go_ret
    exact ⟨_, rfl, ⟨rfl, .inl ⟨rfl, rfl⟩⟩, Below.refl _ _⟩
  · have OWN := Lib.hid (hown.alloc (.cells #[] 3))
    have O0 := Lib.hid (ownI_empty w w.heap.size w.heap.size #[] rfl (Nat.le_refl _) rfl)
    have ke := fun W => Lib.run_eql_slice_nil (P := Try.prog) W 36 3 (some ⟨g, 0, none⟩) zs.length cap 0 0 Try.underlying36
    clear hown
    go_enter Try.func63, Try.ntmps63
    go_wp2_with (at_builtin; refine wpList_rowsI rfl (.tmp 5) (.tmp 6) rfl w.heap.size base (.slice (some ⟨w.heap.size, 0, none⟩) 0 0) (.slice (some ⟨g, 0, none⟩) zs.length cap) [] zs rfl rfl O0.out OWN.out ?_ ?_ ?_; (simp; omega); (simp); intro v' w1 own1 hgrow hat)
    go_ret
    refine ⟨_, rfl, own1, ((Below.refl w.heap.size w).alloc (Nat.le_refl _) _).grown hgrow (by simp) (fun k hk => ?_)⟩
    have : w.heap.size = k := by simpa [Value.ownBlock] using hk
    omega

theorem implOrder (v : Value) (zs : List Int) (b : Nat) (w : World) (h : OwnI w b v zs) (hl : zs.length ≤ 2000000) :
    Calls Try.prog 62 #[v] w fun e w' => e = .returned (.bool (orderOk zs)) ∧ Below w.heap.size w w' := by
  have C := Lib.hid ((isOkM v zs b w h hl).mono fun e w' h => (show _ ∧ w = w' from ⟨h.1, h.2.symm⟩))
  obtain ⟨A, c, rfl⟩ := h.slice
  clear h
  go_enter Try.func62, Try.ntmps62
  go_wp2_with (go_at_call 71; refine C.out.mono ?_; rintro e w' ⟨rfl, rfl⟩)
  go_ret
  exact ⟨rfl, Below.refl _ _⟩
theorem orderQ (v : Value) (zs : List Int) (b : Nat) (w : World) (h : OwnI w b v zs) (hl : zs.length ≤ 2000000) :
    Calls Try.prog 62 #[v] w fun e w' => e = .returned (.bool (orderOk zs)) ∧ w = w' := by
  have C := Lib.hid ((isOkM v zs b w h hl).mono fun e w' h => (show _ ∧ w = w' from ⟨h.1, h.2.symm⟩))
  obtain ⟨A, c, rfl⟩ := h.slice
  clear h
  go_enter Try.func62, Try.ntmps62
  go_wp2_with (go_at_call 71; refine C.out.mono ?_; rintro e w' ⟨rfl, rfl⟩)
  go_ret
  exact ⟨rfl, rfl⟩
end Go.Proofs.Ythijfipjfdmoeaa

/- The contract of the program's SortingSwaps. Condition: the numbers lie in a row of their own. -/
namespace Go.Proofs.Ythijfipjfdmoeaa
set_option linter.unusedVariables false
set_option linter.unusedSimpArgs false
open Go.RowKit

theorem fall_zero {zs : List Int} (h : invs zs = 0) : fall zs = -1 := by unfold fall; rw [if_pos h]
theorem fall_next {zs : List Int} (h : ¬ invs zs = 0) : fall zs = (firstD zs : Int) := by unfold fall; rw [if_neg h]

set_option maxRecDepth 100000 in
set_option maxHeartbeats 800000 in
theorem implSort (v : Value) (zs : List Int) (b : Nat) (w : World) (h : OwnI w b v zs) (hl : zs.length ≤ 2000000) :
    Calls Try.prog 46 #[v] w (IntsPost w (sortSwaps zs)) := by
  obtain ⟨i0, hi0, hz0, hz1, hz2⟩ := info_parts info_int
  have hpos : 0 < 1 := by omega
  have C := Lib.hid (orderQ v zs b w h hl)
  have CC := Lib.hid (cloneI_any v zs b w h (by omega))
  obtain ⟨A, c, rfl⟩ := h.slice
  clear h
  cases hok : orderOk zs with
  | false =>
    have R := Lib.hid (show sortSwaps zs = [] by unfold sortSwaps; rw [hok]; rfl)
    rw [hok] at C
    go_enter Try.func46, Try.ntmps46
    go_wp2_with (go_at_call 62; refine C.out.mono ?_; rintro e w' ⟨rfl, rfl⟩)
    go_ret
    exact ⟨_, rfl, by rw [R.out]; exact ⟨rfl, .inl ⟨rfl, rfl⟩⟩, Below.refl _ _⟩
  | true =>
  rw [hok] at C
  have HO := Lib.hid (order_iff.1 hok)
  have R := Lib.hid (show sortSwaps zs = sortS (invs zs) zs by unfold sortSwaps; rw [hok]; rfl)
  have hi49 := invs_le HO.out
  have hl7 := HO.out.len
  clear hok
  go_enter Try.func46, Try.ntmps46
  go_wp2_with (first | (go_at_call 62; refine C.out.mono ?_; rintro e w' ⟨rfl, rfl⟩) | (go_at_call 63; refine CC.out.mono ?_; rintro e w1 ⟨v1, rfl, o1, b1⟩; have CF := Lib.hid (fallM _ zs _ w1 o1 HO.out); obtain ⟨B, d, rfl⟩ := o1.slice; have O1 := Lib.hid o1; have B1 := Lib.hid b1; clear o1 b1) | (go_at_call 64; refine CF.out.mono ?_; rintro e w2 ⟨rfl, b2⟩))
  have O2 := Lib.hid (O1.out.below b2)
  have B2 := Lib.hid (B1.out.trans (b2.mono B1.out.size))
  clear O1 B1 b2 CF CC C
  go_loopw [4, 5] (fun sv kv wr => ∃ (cur done : List Int) (vs : Value), vs = sv ∧ kv = .int .i64 (fall cur) ∧ Hid (OwnI wr w.heap.size vs done) ∧ Hid (OwnI wr w.heap.size (.slice B zs.length d) cur) ∧ Hid (vs.ownBlock = none ∨ vs.ownBlock ≠ (Value.slice B zs.length d).ownBlock) ∧ Hid (IsOrd cur) ∧ Hid (done ++ sortS (invs cur) cur = sortSwaps zs) ∧ done.length + invs cur = invs zs ∧ Hid (cur.length = zs.length) ∧ Hid (Below w.heap.size w wr)) (fun sv _ _ => invs zs - lenV sv)
  case atStart => exact ⟨zs, [], _, rfl, rfl, Lib.hid ⟨rfl, .inl ⟨rfl, rfl⟩⟩, O2, Lib.hid (.inl rfl), HO, Lib.hid (by rw [R.out]; rfl), by simp, Lib.hid rfl, B2⟩
  case round =>
    clear O2 B2
    obtain ⟨cur, done, vs, rfl, rfl, OV, ON, SEP, HC, EQ, hlen, HCL, BW⟩ := hrel
    obtain ⟨Q, c2, rfl⟩ := OV.out.slice
    by_cases hz : invs cur = 0
    · have R2 := Lib.hid (show done = sortSwaps zs by have := EQ.out; rw [hz, sortS] at this; simpa using this)
      rw [fall_zero hz]
      go_wp2_with fail
      go_ret
      exact ⟨_, rfl, by rw [← R2.out]; exact OV.out, BW.out⟩
    obtain ⟨f1, f2, f3⟩ := first_ok HC.out (by omega)
    obtain ⟨o1, o2, o3⟩ := sort_step HC.out (by omega)
    have NEXT := Lib.hid (show IsOrd (swapL cur (firstD cur)) ∧ done ++ [((firstD cur : Nat) : Int)] ++ sortS (invs (swapL cur (firstD cur))) (swapL cur (firstD cur)) = sortSwaps zs from ⟨o1, by have := EQ.out; rw [o3] at this; rw [List.append_assoc]; exact this⟩)
    have CS := Lib.hid (swapM _ cur (firstD cur) _ wr (HCL.out ▸ ON.out) f1 (by rw [HCL.out]; exact hl))
    rw [HCL.out] at CS
    have hlen2 : done.length + 1 + invs (swapL cur (firstD cur)) = invs zs := by omega
    have hmax : done.length + 1 ≤ maxLen := by simp only [maxLen]; omega
    have hbd : (done.length + 1) * 8 ≤ 140737488355328 := by omega
    have HNL := Lib.hid (show (swapL cur (firstD cur)).length = zs.length by rw [swap_len, HCL.out])
    rw [fall_next hz]
    clear f2 f3 o1 o2 o3 hlen hz
    generalize firstD cur = q at NEXT CS f1 hlen2 HNL
    generalize swapL cur q = nx at NEXT CS hlen2 HNL
    have LT := Lib.hid (fun x hx => (ON.out.lt x hx).1)
    have SEP3 := Lib.hid (show (Value.slice B zs.length d).ownBlock = none ∨ (Value.slice B zs.length d).ownBlock ≠ (Value.slice Q done.length c2).ownBlock from sep_of fun x p1 p2 => by
      rcases SEP.out with s | s
      · rw [s] at p2; cases p2
      · exact s (by rw [p1, p2]))
    have hqn : ¬ (q : Int) = -1 := by omega
    have hqb : ((q : Int) == -1) = false := by simp
    go_wp2_with fail
    refine CS.out.mono ?_
    rintro e w3 ⟨rfl, o3, g3⟩
    have O3 := Lib.hid o3
    have B3 := Lib.hid (BW.out.grown g3 BW.out.size LT.out)
    have hs3 := B3.out.size
    have hown := OV.out.kept g3 SEP.out
    clear o3 g3
    go_wp2_with (at_builtin; refine wpList_append_lies _ rfl (.tmp 20) (.tmp 22) 36 rfl w.heap.size 3 i0 (.int .i64 0) 1 8 Try.underlying36 hi0 hz0 hz1 hz2 rfl hpos (.slice Q done.length c2) _ _ rfl (hown.alloc _) ⟨w3.heap.size, 0, none⟩ 1 1 [.int .i64 (q : Int)] rfl rfl (World.news_of_block (heap_alloc_new w3 _)) ?_ hpos hmax hbd ?_ (w3.heap.size + 1) ?_ ?_; (simp [Value.oneCell']); (simp; omega); (simp); intro gg cap w4 hown1 hgrow hat hlt')
    have O4 := Lib.hid (ownI_snoc hown1)
    have B4 := Lib.hid (ints_snoc_below B3.out hs3 hown hgrow)
    have N4 := Lib.hid ((O3.out.alloc _).kept hgrow SEP3.out)
    have S4 := Lib.hid (show (Value.slice (some ⟨gg, 0, none⟩) (done.length + 1) cap).ownBlock = none ∨ (Value.slice (some ⟨gg, 0, none⟩) (done.length + 1) cap).ownBlock ≠ (Value.slice B zs.length d).ownBlock from sep_of fun x h1 h2 => by
      have h3 : gg = x := Option.some.inj h1
      rcases hat with h | h
      · rcases SEP.out with s | s
        · rw [s] at h; cases h
        · exact s (by rw [h2, h, h3])
      · have := (O3.out.lt x h2).2
        omega)
    have CF := Lib.hid (fallM _ nx _ w4 (HNL.out ▸ N4.out) NEXT.out.1)
    rw [HNL.out] at CF
    go_wp2_with (go_at_call 64; refine CF.out.mono ?_; rintro e w5 ⟨rfl, b5⟩)
    exact ⟨⟨nx, done ++ [(q : Int)], _, rfl, rfl, Lib.hid (by simpa using O4.out.below b5), Lib.hid (N4.out.below b5), (by simpa using S4), Lib.hid NEXT.out.1, Lib.hid NEXT.out.2, by simp; omega, HNL, Lib.hid (B4.out.trans (b5.mono B4.out.size))⟩, by simp [lenV]; omega⟩
end Go.Proofs.Ythijfipjfdmoeaa

/- The contract of the program's BringHome. Condition: the crossings lie in a row of their own. -/
namespace Go.Proofs.Ythijfipjfdmoeaa
set_option linter.unusedVariables false
set_option linter.unusedSimpArgs false
open Go.RowKit

set_option maxRecDepth 100000 in
set_option maxHeartbeats 1600000 in
theorem implHome (n : Int) (v : Value) (ls : List RCross) (b : Nat) (w : World) (h : OwnCross w b v ls) (hl : ls.length ≤ 2000000) :
    Calls Try.prog 19 #[.int .i64 n, v] w (CrossB w (bringHome n ls)) := by
  have CK := Lib.hid (fun W h => implCrOk n v ls b W h hl)
  have CA := Lib.hid (fun W h => implOrdA n v ls b W h hl)
  have CS := Lib.hid (fun v b W h => implSort v (ordAfter n ls) b W h (by have := ordAfter_len n ls; omega))
  obtain ⟨A, c, rfl⟩ := h.slice
  have O := Lib.hid h
  clear h
  cases hc : crossOk n ls with
  | false =>
    have R := Lib.hid (show bringHome n ls = ([], false) by unfold bringHome; rw [hc]; rfl)
    rw [hc] at CK
    go_enter Try.func19, Try.ntmps19
    go_wp2_with (go_at_call 32; refine (CK.out _ O.out).mono ?_; rintro e w1 ⟨rfl, b1⟩; have B1 := Lib.hid b1; clear b1)
    go_ret2
    exact ⟨_, by rw [R.out]; rfl, by rw [R.out]; exact ownCross_none _ _, B1.out⟩
  | true =>
  rw [hc] at CK
  have sl := sortSwaps_len (ordAfter n ls)
  have R := Lib.hid (show bringHome n ls = (frontL (sortSwaps (ordAfter n ls)), true) by unfold bringHome; rw [if_pos hc])
  generalize sortSwaps (ordAfter n ls) = ss at CS sl R
  generalize ordAfter n ls = zs at CA CS
  have FX := Lib.hid (fun v2 b1 b2 v1 xs y W h1 h2 hx => followX v1 v2 xs [y] b1 b2 W h1 h2 hx (by simp))
  clear hc
  go_enter Try.func19, Try.ntmps19
  go_wp2_with fail
  refine (CK.out _ O.out).mono ?_
  rintro e w1 ⟨rfl, b1⟩
  have B1 := Lib.hid b1
  clear b1 CK
  go_wp2_with fail
  refine (CA.out _ (O.out.below B1.out)).mono ?_
  rintro e w2 ⟨v2, rfl, o2, b2⟩
  obtain ⟨Z, cz, rfl⟩ := o2.slice
  have O2 := Lib.hid o2
  have B2 := Lib.hid (B1.out.trans (b2.mono B1.out.size))
  clear b2 o2 B1 CA
  go_wp2_with fail
  refine (CS.out _ _ _ O2.out).mono ?_
  rintro e w3 ⟨v3, rfl, o3, b3⟩
  obtain ⟨S, cs, rfl⟩ := o3.slice
  have S3 := Lib.hid o3
  have hs2 := B2.out.size
  have B3 := Lib.hid (B2.out.trans (b3.mono hs2))
  have L3 := Lib.hid (show Below w3.heap.size w3 w3 from Below.refl _ _)
  clear b3 o3 B2 O2 CS hs2
  go_wp2_with fail
  go_loopw [6, 18] (fun ov iv wr => ∃ (k : Nat) (vo : Value), vo = ov ∧ k ≤ ss.length ∧ iv = .int .i64 (k : Int) ∧ Hid (OwnCross wr w.heap.size vo (frontL (ss.take k))) ∧ Hid (Below w3.heap.size w3 wr) ∧ Hid (Below w.heap.size w wr)) (fun _ iv _ => ss.length - (intOf iv).toNat)
  case atStart => exact ⟨0, _, rfl, by omega, rfl, Lib.hid (ownCross_none _ _), L3, B3⟩
  case round =>
    clear L3 B3
    obtain ⟨k, vo, rfl, hk, rfl, OO, LW, BW⟩ := hrel
    by_cases hlt : k < ss.length
    · have hk0 : (0 : Int) ≤ (k : Int) := by omega
      have hk1 : (k : Int) < (ss.length : Int) := by omega
      have hsz := BW.out.size
      have FM := Lib.hid (frontL_more hlt)
      have hfl : (frontL (ss.take k)).length ≤ 49 := by simp [frontL]; omega
      have HL := Lib.hid hfl
      obtain ⟨g, _, f1, _, _, z0, _⟩ := (S3.out.below LW.out).spot hlt
      simp only [Value.slice.injEq] at f1
      obtain ⟨rfl, em, rfl⟩ := f1
      generalize ss[k] = s at z0 FM
      have ONE := Lib.hid (oneCross wr w.heap.size ⟨s, true⟩ hsz)
      have C := Lib.hid (FX.out _ w.heap.size w.heap.size vo (frontL (ss.take k)) ⟨s, true⟩ _ (OO.out.alloc _) ONE.out (by omega))
      rw [← FM.out] at C
      have hl3 := LW.out.size
      clear em hfl ONE
      go_wp2_with fail
      refine C.out.mono ?_
      rintro e w4 ⟨v4, rfl, o4, b4⟩
      have O4 := Lib.hid (o4.mono (b := w.heap.size) (by simp; omega))
      have L4 := Lib.hid ((LW.out.alloc hl3 _).trans (b4.mono (by simp; omega)))
      have B4 := Lib.hid ((BW.out.alloc hsz _).trans (b4.mono (by simp; omega)))
      clear o4 b4 OO LW BW C
      go_wp2
      exact ⟨⟨k + 1, _, rfl, by omega, by go_num, O4, L4, B4⟩, by simp [intOf]; omega⟩
    · obtain rfl : k = ss.length := by omega
      have F := Lib.hid (show frontL ss = frontL (ss.take ss.length) by rw [List.take_length])
      go_wp2
      go_ret2
      exact ⟨_, by rw [R.out]; rfl, by rw [R.out, F.out]; exact OO.out, BW.out⟩
end Go.Proofs.Ythijfipjfdmoeaa

/- The library's slices.Equal at two orders. Condition: both are rows of their own, equally long. -/
namespace Go.Proofs.Ythijfipjfdmoeaa
set_option linter.unusedVariables false
set_option linter.unusedSimpArgs false
open Go.RowKit

/-- Two rows hold the same numbers. -/
def sameO (zs ys : List Int) : Bool := decide (zs = ys)
set_option maxHeartbeats 400000 in
theorem equalO_any (v u : Value) (zs ys : List Int) (b1 b2 : Nat) (w : World) (h : OwnI w b1 v zs) (h' : OwnI w b2 u ys) (hl : zs.length ≤ 2000000) (hl' : ys.length = zs.length) :
    Calls Try.prog 55 #[v, u] w fun e w' => e = .returned (.bool (sameO zs ys)) ∧ Below w.heap.size w w' := by
  obtain ⟨A, c, e1⟩ := h.slice
  obtain ⟨A', c', e2⟩ := h'.slice
  subst e1 e2
  rw [hl']
  have H := Lib.hid h
  have H' := Lib.hid h'
  have HL := Lib.hid hl'
  clear h h' hl'
  go_enter Try.func55, Try.ntmps55
  go_wp2
  go_loopw [13] (fun iv wr => ∃ r : Nat, r ≤ zs.length ∧ iv = .int .i64 (r : Int) ∧ Hid (zs.take r = ys.take r) ∧ Below w.heap.size w wr) (fun iv _ => zs.length - (intOf iv).toNat)
  case atStart => exact ⟨0, by omega, rfl, Lib.hid rfl, Below.refl _ _⟩
  case round =>
    obtain ⟨r, hr, rfl, HS, hb⟩ := hrel
    by_cases hlt : r < zs.length
    · have hlt' : r < ys.length := by rw [HL.out]; exact hlt
      obtain ⟨g1, d1, e1, _, l1, r1, _⟩ := H.out.spot hlt
      obtain ⟨g2, d2, e2, _, l2, r2, _⟩ := H'.out.spot hlt'
      simp only [Value.slice.injEq] at e1 e2
      obtain ⟨rfl, _, rfl⟩ := e1
      obtain ⟨rfl, _, rfl⟩ := e2
      have hk0 : (0 : Int) ≤ (r : Int) := by omega
      have hk1 : (r : Int) < (zs.length : Int) := by omega
      replace r1 := (hb.cell l1).trans r1
      replace r2 := (hb.cell l2).trans r2
      by_cases e : zs[r] = ys[r]
      · have NX := Lib.hid (show zs.take (r + 1) = ys.take (r + 1) by rw [List.take_succ_eq_append_getElem hlt, List.take_succ_eq_append_getElem hlt', HS.out, e])
        rw [← e] at r2
        clear e
        generalize zs[r] = x at r1 r2
        go_wp2
        go_quiet (fail)
        go_wp2
        exact ⟨⟨r + 1, by omega, by go_num, NX, hb.trans (below_drewN (Below.refl _ _) _)⟩, by simp [intOf]; omega⟩
      · have NE := Lib.hid (show sameO zs ys = false from decide_eq_false fun a => e (by subst a; rfl))
        have hne' : (zs[r] == ys[r]) = false := by simpa using e
        generalize zs[r] = x at r1 e hne'
        generalize ys[r] = y at r2 e hne'
        go_wp2
        go_quiet (fail)
        go_wp2
        go_ret
        exact ⟨by rw [NE.out]; rfl, hb.trans (below_drewN (Below.refl _ _) _)⟩
    · obtain rfl : r = zs.length := by omega
      have EQ := Lib.hid (show sameO zs ys = true from decide_eq_true (by have := HS.out; rw [List.take_length, ← HL.out, List.take_length] at this; exact this))
      go_wp2
      go_ret
      exact ⟨by rw [EQ.out]; rfl, hb⟩
end Go.Proofs.Ythijfipjfdmoeaa

/- All that UnwindAll answers winds back what was wound: plain mathematics. -/
namespace Go.Proofs.Ythijfipjfdmoeaa
set_option linter.unusedVariables false
set_option linter.unusedSimpArgs false

section
variable {N : Nat} {t : List (List Int)}
theorem woundK_mem (t : List (List Int)) (i : Nat) : ∀ k z, z ∈ woundK t i k ↔ ∃ q, i < q ∧ q < k ∧ ent t i q ≠ 0 ∧ z = [(i : Int), (q : Int)] := by
  intro k
  induction k with
  | zero => exact fun z => ⟨fun h => (by cases h), fun ⟨q, _, h, _⟩ => by omega⟩
  | succ k ih =>
    intro z
    rw [woundK, List.mem_append, ih]
    constructor
    · rintro (⟨q, h1, h2, h3, h4⟩ | h)
      · exact ⟨q, h1, by omega, h3, h4⟩
      · split at h
        · next c => exact ⟨k, c.1, by omega, c.2, List.mem_singleton.1 h⟩
        · cases h
    · rintro ⟨q, h1, h2, h3, h4⟩
      rcases Nat.lt_or_ge q k with c | c
      · exact .inl ⟨q, h1, c, h3, h4⟩
      · obtain rfl : q = k := by omega
        exact .inr (by rw [if_pos ⟨h1, h3⟩]; exact List.mem_singleton.2 h4)
theorem woundI_mem (t : List (List Int)) : ∀ m z, z ∈ woundI t m ↔ ∃ p q, p < m ∧ p < q ∧ q < t.length ∧ ent t p q ≠ 0 ∧ z = [(p : Int), (q : Int)] := by
  intro m
  induction m with
  | zero => exact fun z => ⟨fun h => (by cases h), fun ⟨p, q, h, _⟩ => by omega⟩
  | succ m ih =>
    intro z
    rw [woundI, List.mem_append, ih, woundK_mem]
    constructor
    · rintro (⟨p, q, h1, h2⟩ | ⟨q, h1, h2, h3, h4⟩)
      · exact ⟨p, q, by omega, h2⟩
      · exact ⟨m, q, by omega, h1, h2, h3, h4⟩
    · rintro ⟨p, q, h1, h2, h3, h4, h5⟩
      rcases Nat.lt_or_ge p m with c | c
      · exact .inl ⟨p, q, c, h2, h3, h4, h5⟩
      · obtain rfl : p = m := by omega
        exact .inr ⟨q, h2, h3, h4, h5⟩
theorem woundK_nodup (t : List (List Int)) (i : Nat) : ∀ k, (woundK t i k).Nodup := by
  intro k
  induction k with
  | zero => exact List.nodup_nil
  | succ k ih =>
    rw [woundK, List.nodup_append]
    refine ⟨ih, by split <;> simp, fun a ha b hb e => ?_⟩
    obtain ⟨q, _, h2, _, h4⟩ := (woundK_mem t i k a).1 ha
    split at hb
    · rw [List.mem_singleton.1 hb, h4] at e
      have := (List.cons.inj (List.cons.inj e).2).1
      omega
    · cases hb
theorem woundI_nodup (t : List (List Int)) : ∀ m, (woundI t m).Nodup := by
  intro m
  induction m with
  | zero => exact List.nodup_nil
  | succ m ih =>
    rw [woundI, List.nodup_append]
    refine ⟨ih, woundK_nodup t m _, fun a ha b hb e => ?_⟩
    obtain ⟨p, q, h1, _, _, _, h5⟩ := (woundI_mem t m a).1 ha
    obtain ⟨q', _, _, _, h6⟩ := (woundK_mem t m _ b).1 hb
    rw [h5, h6] at e
    have := (List.cons.inj e).1
    omega
end
theorem rep_run {N : Nat} {x : List RCross} (h : x.foldl stepA (startL N) = startL N) : ∀ m, (repL x m).foldl stepA (startL N) = startL N := by
  intro m
  induction m with
  | zero => rfl
  | succ m ih => rw [repL, List.foldl_append, ih, h]
theorem rep_tw {N : Nat} {x : List RCross} (h : x.foldl stepA (startL N) = startL N) (a b : Nat) : ∀ m, tw (startL N) (repL x m) a b = (m : Int) * tw (startL N) x a b := by
  intro m
  induction m with
  | zero => simp [repL, tw]
  | succ m ih => rw [repL, tw_append, rep_run h, ih]; push_cast; rw [Int.add_mul, Int.one_mul]
theorem rep_mem {x : List RCross} {l : RCross} : ∀ m, l ∈ repL x m → l ∈ x := by
  intro m
  induction m with
  | zero => exact fun h => by cases h
  | succ m ih => intro h; rw [repL] at h; rcases List.mem_append.1 h with c | c; exact ih c; exact c
/-- What winds back one pair. -/
theorem unwAt_facts {N : Nat} {ls : List RCross} (hn : 2 ≤ N ∧ N ≤ 7) (hl : (twistTab (N : Int) ls).length = N) {p q : Nat} (hpq : p < q) (hq : q < N) (he : ent (twistTab (N : Int) ls) p q % 2 = 0) :
    (∀ l ∈ unwAt (N : Int) ls [(p : Int), (q : Int)], Fits N l) ∧ (unwAt (N : Int) ls [(p : Int), (q : Int)]).foldl stepA (startL N) = startL N ∧
      ∀ a b, b < a → tw (startL N) (unwAt (N : Int) ls [(p : Int), (q : Int)]) a b = if a = q ∧ b = p then -(ent (twistTab (N : Int) ls) p q) else 0 := by
  have et : twistOf (N : Int) ls (p : Int) (q : Int) = ent (twistTab (N : Int) ls) p q := by
    unfold twistOf
    rw [hl, if_pos ⟨inB_yes (by omega), inB_yes (by omega)⟩, Int.toNat_natCast, Int.toNat_natCast]
  have ef : ∀ f, fullTurn (N : Int) (p : Int) (q : Int) f = (turnL p q f, true) := fun f => by
    unfold fullTurn
    rw [if_pos ⟨inB_yes (by omega), inB_yes (by omega), inB_yes (by omega)⟩, Int.toNat_natCast, Int.toNat_natCast]
  have eu : unwAt (N : Int) ls [(p : Int), (q : Int)] = repL (turnL p q (decide (ent (twistTab (N : Int) ls) p q < 0))) (halfOf (ent (twistTab (N : Int) ls) p q)) := by
    have e0 : atI [(p : Int), (q : Int)] 0 = (p : Int) := rfl
    have e1 : atI [(p : Int), (q : Int)] 1 = (q : Int) := rfl
    unfold unwAt
    rw [e0, e1, et, ef]
  rw [eu]
  generalize ent (twistTab (N : Int) ls) p q = t at he
  have F := turnFacts (n := N) (by omega) hpq hq (decide (t < 0))
  refine ⟨fun l hm => F.ok l (rep_mem _ hm), rep_run F.home _, fun a b hab => ?_⟩
  rw [rep_tw F.home, F.twist a b hab]
  by_cases c : a = q ∧ b = p
  · rw [if_pos c, if_pos c]
    unfold halfOf absI
    by_cases d : t < 0
    · rw [if_pos d, if_pos (decide_eq_true d)]
      omega
    · rw [if_neg d, if_neg (by simpa using d)]
      omega
  · rw [if_neg c, if_neg c, Int.mul_zero]
theorem unwTo_facts {N : Nat} {ls : List RCross} (hn : 2 ≤ N ∧ N ≤ 7) (hl : (twistTab (N : Int) ls).length = N) (he : ∀ p q, p < q → q < N → ent (twistTab (N : Int) ls) p q % 2 = 0) : ∀ k, k ≤ (woundPs (N : Int) ls).length →
    (∀ l ∈ unwTo (N : Int) ls k, Fits N l) ∧ (unwTo (N : Int) ls k).foldl stepA (startL N) = startL N ∧
      ∀ a b, b < a → tw (startL N) (unwTo (N : Int) ls k) a b = if [(b : Int), (a : Int)] ∈ (woundPs (N : Int) ls).take k then -(ent (twistTab (N : Int) ls) b a) else 0 := by
  intro k
  induction k with
  | zero => exact fun _ => ⟨fun l h => (by cases h), rfl, fun a b _ => (by simp [unwTo, tw])⟩
  | succ k ih =>
    intro hk
    obtain ⟨i1, i2, i3⟩ := ih (by omega)
    have hkl : k < (woundPs (N : Int) ls).length := by omega
    have hm : (woundPs (N : Int) ls)[k] ∈ woundPs (N : Int) ls := List.getElem_mem hkl
    have nd : (woundPs (N : Int) ls).Nodup := woundI_nodup _ _
    obtain ⟨p, q, _, h2, h3, h4, h5⟩ := (woundI_mem _ _ _).1 hm
    rw [hl] at h3
    obtain ⟨u1, u2, u3⟩ := unwAt_facts hn hl h2 h3 (he p q h2 h3)
    have eU : unwTo (N : Int) ls (k + 1) = unwTo (N : Int) ls k ++ unwAt (N : Int) ls [(p : Int), (q : Int)] := by rw [unwTo, getD_row hkl, h5]
    rw [eU]
    refine ⟨fun l hx => ?_, by rw [List.foldl_append, i2, u2], fun a b hab => ?_⟩
    · rcases List.mem_append.1 hx with c | c
      · exact i1 l c
      · exact u1 l c
    · rw [tw_append, i2, i3 a b hab, u3 a b hab, List.take_succ_eq_append_getElem hkl, h5]
      by_cases c : a = q ∧ b = p
      · obtain ⟨rfl, rfl⟩ := c
        have hno : [(b : Int), (a : Int)] ∉ (woundPs (N : Int) ls).take k := fun hx => by
          obtain ⟨j, hj, ej⟩ := List.mem_take_iff_getElem.1 hx
          have := (List.pairwise_iff_getElem.1 nd) j k (by omega) hkl (by omega)
          exact this (by rw [ej, h5])
        rw [if_neg hno, if_pos ⟨rfl, rfl⟩, if_pos (List.mem_append_right _ (List.mem_singleton.2 rfl))]
        omega
      · rw [if_neg c]
        by_cases d : [(b : Int), (a : Int)] ∈ (woundPs (N : Int) ls).take k
        · rw [if_pos d, if_pos (List.mem_append_left _ d)]
          omega
        · rw [if_neg d, if_neg (fun hx => by
            rcases List.mem_append.1 hx with x | x
            · exact d x
            · have e := List.mem_singleton.1 x
              have a1 := (List.cons.inj e).1
              have a2 := (List.cons.inj (List.cons.inj e).2).1
              exact c ⟨by omega, by omega⟩)]
          omega
/-- Whoever is at home can be untwisted. -/
theorem unwound {N : Nat} {ls : List RCross} (hN : 2 ≤ N) (hok : crossOk (N : Int) ls = true) (hh : ls.foldl stepA (startL N) = startL N) :
    unwindAll (N : Int) ls = (unwTo (N : Int) ls (woundPs (N : Int) ls).length, true) ∧ ((ls ++ unwTo (N : Int) ls (woundPs (N : Int) ls).length).length ≤ 40 → untw (N : Int) (ls ++ unwTo (N : Int) ls (woundPs (N : Int) ls).length) = true) := by
  obtain ⟨h1, h2, h3, h4⟩ := ok_fits hok
  rw [Int.toNat_natCast] at h1 h4
  have F := twistFacts hok
  have so := start_ord h1
  have sl := startL_len N
  have oo : ordAfter (N : Int) ls = startL N := by unfold ordAfter nowAt; rw [if_pos hok, List.take_length, Int.toNat_natCast]; exact hh
  have iz : invs (startL N) = 0 := inv_none fun i hi => by
    rw [sl] at hi
    rw [start_at (by omega), start_at hi]
    omega
  have hi0 : homeInv (N : Int) ls = 0 := by unfold homeInv; rw [oo, if_pos (order_iff.2 so), iz]; rfl
  have ev : ∀ p q, p < q → q < N → ent (twistTab (N : Int) ls) p q % 2 = 0 := fun p q hp hq => by
    have := (F.even q p hq hp).2
    rw [oo] at this
    rw [F.sym p q (by omega) hq]
    have pl : ∀ x : Nat, x < N → placeOf (startL N) (x : Int) = (x : Int) := fun x hx => by
      unfold placeOf
      rw [if_pos (order_iff.2 so)]
      exact pos_at so (by rw [sl]; exact hx) (start_at hx)
    exact this (by rw [pl p (by omega), pl q hq]; omega)
  obtain ⟨u1, u2, u3⟩ := unwTo_facts (ls := ls) (by omega) F.len ev _ (Nat.le_refl _)
  refine ⟨by unfold unwindAll; rw [if_pos ⟨hok, hi0⟩], fun h40 => ?_⟩
  generalize hu : unwTo (N : Int) ls (woundPs (N : Int) ls).length = u at u1 u2 u3 h40
  have fa : ∀ l ∈ ls ++ u, Fits N l := fun l hx => by
    rcases List.mem_append.1 hx with c | c
    · exact h4 l c
    · exact u1 l c
  have oka : crossOk (N : Int) (ls ++ u) = true := ok_of h1 h40 fa
  have G := twistFacts oka
  have oa : ordAfter (N : Int) (ls ++ u) = startL N := by
    unfold ordAfter nowAt
    rw [if_pos oka, List.take_length, Int.toNat_natCast, List.foldl_append, hh, u2]
  have tt : ∀ xs : List RCross, crossOk (N : Int) xs = true → ∀ i k, i < N → k < N → ent (twistTab (N : Int) xs) i k = tw (startL N) xs i k := by
    intro xs h i k hi hk
    have := ent_tw h (i := i) (k := k) (by rw [Int.toNat_natCast]; exact hi) (by rw [Int.toNat_natCast]; exact hk) xs.length (Nat.le_refl _)
    rw [List.take_length, Int.toNat_natCast] at this
    unfold twistTab
    rw [if_pos h]
    exact this
  have z1 : ∀ a b, a < N → b < a → ent (twistTab (N : Int) (ls ++ u)) a b = 0 := fun a b ha hb => by
    rw [tt _ oka a b ha (by omega), tw_append, hh, u3 a b hb, List.take_length, ← tt ls hok a b ha (by omega), F.sym a b ha (by omega)]
    by_cases c : ent (twistTab (N : Int) ls) b a = 0
    · rw [c]; split <;> rfl
    · have hm : [(b : Int), (a : Int)] ∈ woundPs (N : Int) ls := (woundI_mem (twistTab (N : Int) ls) (twistTab (N : Int) ls).length _).2 ⟨b, a, by rw [F.len]; omega, hb, by rw [F.len]; exact ha, c, rfl⟩
      rw [if_pos hm]
      omega
  have wz : woundPs (N : Int) (ls ++ u) = [] := by
    unfold woundPs
    rw [G.len]
    refine woundI_nil G.sq (fun a b ha hb => ?_) N (Nat.le_refl _)
    rcases Nat.lt_or_ge b a with c | c
    · exact z1 a b ha c
    · rcases Nat.lt_or_ge a b with d | d
      · rw [G.sym a b ha hb]; exact z1 b a hb d
      · obtain rfl : a = b := by omega
        exact G.diag a ha
  unfold untw
  rw [oka, oa, wz, if_pos (order_iff.2 so), iz]
  rfl
end Go.Proofs.Ythijfipjfdmoeaa
