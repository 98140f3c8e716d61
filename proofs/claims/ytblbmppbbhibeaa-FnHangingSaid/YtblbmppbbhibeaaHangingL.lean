/- The law FnHanging, walked over the contracts of the program's functions. No condition. -/
import Derived.Test.YtblbmppbbhibeaaPuldW
import Derived.Test.YtblbmppbbhibeaaPullM
import Derived.Test.YtblbmppbbhibeaaWalkM
import Derived.Test.YtblbmppbbhibeaaHasW
import Derived.Test.YtblbmppbbhibeaaHangI
import Derived.Test.YtblbmppbbhibeaaRowI
import Derived.BigQuiet
namespace Go.Proofs.Ytblbmppbbhibeaa
set_option linter.unusedVariables false
set_option linter.unusedSimpArgs false
section
variable {m : Nat} {ls : List Lb} {zs : List Int}
theorem dist_limb' (hf : Fits m ls) (hl : ls.length + 1 = m) (hr : (joinRun m ls (apart m)).isSome = true) {t x : Nat} (ht : t < ls.length) (hx : touches (limbAt ls t) x) : dist m ls x (other (limbAt ls t) x) = (limbAt ls t).n := by
  rw [← dist_way hf hl hr (es := [t]) ⟨ht, hx, rfl⟩ trivial]
  show (limbAt ls t).n + 0 = _
  omega
theorem dist_step (hf : Fits m ls) (hl : ls.length + 1 = m) (hr : (joinRun m ls (apart m)).isSome = true) {t x : Nat} (ht : t < ls.length) (hx : touches (limbAt ls t) x) (i : Nat) : dist m ls i x ≤ dist m ls i (other (limbAt ls t) x) + (limbAt ls t).n := by
  have h := dist_three hf i (other (limbAt ls t) x) x
  have e := dist_limb' hf hl hr ht hx
  rw [dist_comm] at e
  omega
theorem dist_last (hf : Fits m ls) (hl : ls.length + 1 = m) (hr : (joinRun m ls (apart m)).isSome = true) {i j : Nat} (hi : i < m) (hj : j < m) (hne : i ≠ j) :
    ∃ t, t < ls.length ∧ touches (limbAt ls t) j ∧ dist m ls i j = dist m ls i (other (limbAt ls t) j) + (limbAt ls t).n := by
  obtain ⟨es, hw, hn⟩ := way_some hf hl hr hj hi
  cases es with
  | nil => exact absurd (show j = i from hw).symm hne
  | cons t es =>
    obtain ⟨ht, hx, hw'⟩ := hw
    refine ⟨t, ht, hx, ?_⟩
    have h1 := dist_way hf hl hr (es := t :: es) ⟨ht, hx, hw'⟩ hn
    have h2 := dist_way hf hl hr hw' (noTurn_tail hn)
    have e : wayLen ls (t :: es) = (limbAt ls t).n + wayLen ls es := rfl
    rw [dist_comm i j, dist_comm i (other (limbAt ls t) j)]
    omega

theorem hangTo_succ (j k : Nat) : hangTo m ls zs j (k + 1) = if zs.getD k 0 < 0 then hangTo m ls zs j k else max (hangTo m ls zs j k) (zs.getD k 0 - dist m ls k j) := rfl
theorem hangTo_le {i j k : Nat} (h : i < k) (h0 : 0 ≤ zs.getD i 0) : zs.getD i 0 - dist m ls i j ≤ hangTo m ls zs j k := by
  induction k with
  | zero => omega
  | succ k ih =>
    rw [hangTo_succ]
    by_cases e : i = k
    · subst e
      rw [if_neg (by omega)]
      exact Int.le_max_right _ _
    · have h' := ih (by omega)
      split
      · exact h'
      · exact Int.le_trans h' (Int.le_max_left _ _)
theorem hangTo_none {j k : Nat} (h : ∀ i, i < k → zs.getD i 0 < 0) : hangTo m ls zs j k = -2000 := by
  induction k with
  | zero => rfl
  | succ k ih => rw [hangTo_succ, if_pos (h k (by omega)), ih fun i hi => h i (by omega)]
theorem hangTo_is (hf : Fits m ls) (hl : ls.length ≤ 11) {j k : Nat} (h : ∃ i, i < k ∧ 0 ≤ zs.getD i 0) : ∃ i, i < k ∧ 0 ≤ zs.getD i 0 ∧ hangTo m ls zs j k = zs.getD i 0 - dist m ls i j := by
  induction k with
  | zero => obtain ⟨i, hi, _⟩ := h; omega
  | succ k ih =>
    rw [hangTo_succ]
    by_cases hk : zs.getD k 0 < 0
    · rw [if_pos hk]
      obtain ⟨i, hi, h0⟩ := h
      have hik : i ≠ k := fun e => by subst e; omega
      obtain ⟨i', hi', h0', e⟩ := ih ⟨i, by omega, h0⟩
      exact ⟨i', by omega, h0', e⟩
    · rw [if_neg hk]
      have hd := dist_range hf k j
      by_cases hE : ∃ i, i < k ∧ 0 ≤ zs.getD i 0
      · obtain ⟨i', hi', h0', e⟩ := ih hE
        rcases Int.le_total (hangTo m ls zs j k) (zs.getD k 0 - dist m ls k j) with hm | hm
        · exact ⟨k, by omega, by omega, Int.max_eq_right hm⟩
        · exact ⟨i', by omega, h0', by rw [Int.max_eq_left hm]; exact e⟩
      · have hn : hangTo m ls zs j k = -2000 := hangTo_none fun i hi => by
          rcases Int.lt_or_le (zs.getD i 0) 0 with h | h
          · exact h
          · exact absurd ⟨i, hi, h⟩ hE
        exact ⟨k, by omega, by omega, by rw [hn]; exact Int.max_eq_right (by omega)⟩
end

/-- What is known of a valid body and valid pulls. -/
structure Hung (m : Nat) (ls : List Lb) (zs : List Int) : Prop where
  ok : pullsOk m ls zs = true
  body : bodyOk m ls = true
  fits : Fits m ls
  limbs : ls.length + 1 = m
  small : m ≤ 12
  run : (joinRun m ls (apart m)).isSome = true
  len : zs.length = m
  pulls : ∀ k, k < m → -1 ≤ zs.getD k 0 ∧ zs.getD k 0 ≤ 500
  some : ∃ k, k < m ∧ 0 ≤ zs.getD k 0

section
variable {m : Nat} {ls : List Lb} {zs : List Int}
theorem hung_of (h : pullsOk m ls zs = true) : Hung m ls zs := by
  obtain ⟨h1, h2, h3, h4⟩ := pulls_parts h
  obtain ⟨hb, hc, P, hP⟩ := bodyOk_true h1
  have e : zs.length = m := by omega
  rw [Int.toNat_natCast] at hP
  exact ⟨h, h1, ok_fits h1, by omega, by omega, by rw [hP]; rfl, e, fun k hk => h3 k (by omega), by obtain ⟨k, hk, h0⟩ := h4; exact ⟨k, by omega, h0⟩⟩
variable (H : Hung m ls zs)
include H
theorem hangPose_is : hangPose m ls zs = hangs m ls zs := by
  unfold hangPose
  rw [if_pos H.ok, Int.toNat_natCast]
theorem hang_range (j : Nat) : -2000 ≤ hang m ls zs j ∧ hang m ls zs j ≤ 500 := hangTo_range H.fits (by have := H.limbs; have := H.small; omega) H.pulls j m (Nat.le_refl m)
omit H in
theorem hang_at {i j : Nat} (hi : i < m) (h0 : 0 ≤ zs.getD i 0) : zs.getD i 0 - dist m ls i j ≤ hang m ls zs j := hangTo_le hi h0
theorem hang_is (j : Nat) : ∃ i, i < m ∧ 0 ≤ zs.getD i 0 ∧ hang m ls zs j = zs.getD i 0 - dist m ls i j := hangTo_is H.fits (by have := H.limbs; have := H.small; omega) H.some
omit H in
theorem hang_self {j : Nat} (hj : j < m) (h0 : 0 ≤ zs.getD j 0) : zs.getD j 0 ≤ hang m ls zs j := by
  have h := hang_at (m := m) (ls := ls) (zs := zs) (j := j) hj h0
  rw [dist_self] at h
  omega
theorem hang_step {t x : Nat} (ht : t < ls.length) (hx : touches (limbAt ls t) x) : hang m ls zs (other (limbAt ls t) x) - (limbAt ls t).n ≤ hang m ls zs x := by
  obtain ⟨i, hi, h0, e⟩ := hang_is H (other (limbAt ls t) x)
  have h1 := hang_at (ls := ls) (j := x) hi h0
  have h2 := dist_step H.fits H.limbs H.run ht hx i
  omega
/-- Heights that are those of hanging and a number more, all in the range, make a pose that is held. -/
theorem held_up {hs : List Int} {d : Int} (hl : hs.length = m) (hh : ∀ k, k < m → hs.getD k 0 = hang m ls zs k + d) (h0 : 0 ≤ d) (h1 : d ≤ 1000) : poseOk m ls hs = true ∧ isHeld m ls zs hs = true := by
  have hp : poseOk m ls hs = true := by
    refine pose_parts.2 ⟨H.body, by omega, fun k hk => ?_, fun l hl' => ?_⟩
    · have := hang_range H k
      rw [hh k (by omega)]
      omega
    · obtain ⟨t, ht, rfl⟩ := List.mem_iff_getElem.1 hl'
      rw [← limbAt_lt ht]
      obtain ⟨p, q, hp, hq, hpm, hqm, hpq, _⟩ := fits_at H.fits ht
      have s1 := hang_step H ht (x := p) (.inl hp)
      have s2 := hang_step H ht (x := q) (.inr hq)
      have o1 : other (limbAt ls t) p = q := by unfold other; rw [if_pos hp, hq, Int.toNat_natCast]
      have o2 : other (limbAt ls t) q = p := by unfold other; rw [if_neg (by rw [hp]; omega), hp, Int.toNat_natCast]
      rw [o1] at s1
      rw [o2] at s2
      rw [hp, hq, Int.toNat_natCast, Int.toNat_natCast, hh p hpm, hh q hqm]
      omega
  refine ⟨hp, ?_⟩
  unfold isHeld
  rw [H.ok, hp, Int.toNat_natCast]
  simp only [Bool.true_and, List.all_eq_true, List.mem_range]
  intro k hk
  unfold heldAt pulled
  have h := hh k hk
  by_cases hz : 0 ≤ zs.getD k 0
  · have := hang_self (ls := ls) hk hz
    rw [decide_eq_false (by omega)]
    rfl
  · rw [decide_eq_false hz, Bool.and_false]
    rfl
theorem hang_held : poseOk m ls (hangs m ls zs) = true ∧ isHeld m ls zs (hangs m ls zs) = true := held_up H (d := 0) (hangs_len m ls zs) (fun k hk => by rw [hangs_getD hk]; omega) (by omega) (by omega)
theorem hang_higher : isHeld m ls zs ((hangs m ls zs).map (· + 3)) = true :=
  (held_up H (d := 3) (by rw [List.length_map, hangs_len]) (fun k hk => by
    have hk' : k < (hangs m ls zs).length := by rw [hangs_len]; exact hk
    rw [List.getD_eq_getElem?_getD, List.getElem?_map, List.getElem?_eq_getElem hk', hangs_at hk']
    rfl) (by omega) (by omega)).2
theorem hang_lower {j : Nat} (hj : j < m) : isHeld m ls zs ((hangs m ls zs).set j (hang m ls zs j - 1)) = false := by
  have hlen : ((hangs m ls zs).set j (hang m ls zs j - 1)).length = m := by rw [List.length_set, hangs_len]
  have hj' : j < (hangs m ls zs).length := by rw [hangs_len]; exact hj
  have g0 : ((hangs m ls zs).set j (hang m ls zs j - 1)).getD j 0 = hang m ls zs j - 1 := by
    rw [List.getD_eq_getElem?_getD, List.getElem?_set_self hj']
    rfl
  have g1 : ∀ k, k < m → k ≠ j → ((hangs m ls zs).set j (hang m ls zs j - 1)).getD k 0 = hang m ls zs k := fun k hk hne => by
    rw [List.getD_eq_getElem?_getD, List.getElem?_set_ne (fun e => hne e.symm), ← List.getD_eq_getElem?_getD, hangs_getD hk]
  generalize (hangs m ls zs).set j (hang m ls zs j - 1) = hs at hlen g0 g1
  obtain ⟨i, hi, h0, e⟩ := hang_is H j
  rw [Bool.eq_false_iff]
  intro hT
  unfold isHeld at hT
  rw [Bool.and_eq_true, Bool.and_eq_true, Int.toNat_natCast, List.all_eq_true] at hT
  obtain ⟨-, hp, hh⟩ := hT
  by_cases hij : i = j
  · subst hij
    rw [dist_self] at e
    have := hh i (List.mem_range.2 hj)
    unfold heldAt pulled at this
    rw [g0, decide_eq_true (show hang m ls zs i - 1 < zs.getD i 0 by omega), decide_eq_true h0] at this
    exact absurd this (by decide)
  · obtain ⟨t, ht, hx, ed⟩ := dist_last H.fits H.limbs H.run hi hj hij
    have hk := hang_at (ls := ls) (j := other (limbAt ls t) j) hi h0
    obtain ⟨-, hom, hone, -, -, -⟩ := other_spec H.fits ht hx
    have go := g1 _ hom hone
    obtain ⟨-, -, -, h4⟩ := pose_parts.1 hp
    have h4 := h4 ls[t] (List.getElem_mem ht)
    rw [← limbAt_lt ht] at h4
    rcases hx with hx | hx
    · have o1 : other (limbAt ls t) j = (limbAt ls t).b.toNat := by unfold other; rw [if_pos hx]
      rw [o1] at go hk ed
      rw [hx, Int.toNat_natCast, g0, go] at h4
      omega
    · have hne : ¬ (limbAt ls t).a = (j : Int) := fun ea => by
        obtain ⟨p, q, hp', hq', _, _, hpq, _⟩ := fits_at H.fits ht
        exact hpq (by omega)
      have o1 : other (limbAt ls t) j = (limbAt ls t).a.toNat := by unfold other; rw [if_neg hne]
      rw [o1] at go hk ed
      rw [hx, Int.toNat_natCast, g0, go] at h4
      omega

omit H in
theorem slackB_is {j : Nat} (hj : j < m) : slackB zs (hangs m ls zs) j = (decide (0 ≤ zs.getD j 0) && decide (zs.getD j 0 < hang m ls zs j)) := by
  unfold slackB
  rw [hangs_getD hj, Bool.decide_and]
theorem slacks_is : slacks m ls zs = slackTo zs (hangs m ls zs) m := by
  unfold slacks
  rw [hangPose_is H, hangs_len]
theorem lowest_is : lowest m ls zs = leastTo (hangs m ls zs) m := by
  unfold lowest
  rw [if_pos H.ok, Int.toNat_natCast]
end

theorem slackTo_has (zs hs : List Int) (k j : Nat) : hasL (slackTo zs hs k) (j : Int) = (decide (j < k) && slackB zs hs j) := by
  induction k with
  | zero => simp [slackTo, hasL]
  | succ k ih =>
    have e : hasL (slackTo zs hs (k + 1)) (j : Int) = (hasL (slackTo zs hs k) (j : Int) || hasL (if slackB zs hs k = true then [(k : Int)] else []) (j : Int)) := by
      show decide _ = _
      unfold hasL
      rw [← Bool.decide_or]
      congr 1
      exact propext List.mem_append
    rw [e, ih]
    by_cases h : j = k
    · subst h
      cases hB : slackB zs hs j <;> simp [hasL]
    · have h1 : hasL (if slackB zs hs k = true then [(k : Int)] else []) (j : Int) = false := by
        split
        · simp only [hasL, List.mem_singleton, decide_eq_false_iff_not]; omega
        · simp [hasL]
      rw [h1, Bool.or_false]
      congr 1
      exact decide_eq_decide.2 (by omega)
theorem leastTo_le {hs : List Int} {j k : Nat} (h : j < k) : leastTo hs k ≤ hs.getD j 0 := by
  induction k with
  | zero => omega
  | succ k ih =>
    show min (leastTo hs k) (hs.getD k 0) ≤ _
    by_cases e : j = k
    · subst e
      exact Int.min_le_right _ _
    · exact Int.le_trans (Int.min_le_left _ _) (ih (by omega))
theorem leastTo_ge {hs : List Int} {k : Nat} {d : Int} (h0 : d ≤ hs.getD 0 0) (h : ∀ j, j < k → d ≤ hs.getD j 0) : d ≤ leastTo hs k := by
  induction k with
  | zero => exact h0
  | succ k ih => exact Int.le_min.2 ⟨ih fun j hj => h j (by omega), h k (by omega)⟩

open Go.RowKit

/-- What the law's call keeps while it goes on: its body, the pulls, the pose, the loose strings, all that is elder. -/
structure KeepH (w : World) (B m : Nat) (v : Value) (ls : List Lb) (vp : Value) (zs : List Int) (pv : Value) (hs : List Int) (sv : Value) (ss : List Int) (W : World) : Prop where
  box : BoxAt W B m v
  lim : OwnL W w.heap.size v ls
  pul : OwnI W w.heap.size vp zs
  pos : OwnI W w.heap.size pv hs
  sla : OwnI W w.heap.size sv ss
  bel : Below w.heap.size w W
theorem KeepH.below {w : World} {B m : Nat} {v : Value} {ls : List Lb} {vp : Value} {zs : List Int} {pv : Value} {hs : List Int} {sv : Value} {ss : List Int} {W W' : World} (h : KeepH w B m v ls vp zs pv hs sv ss W) (hb : Below W.heap.size W W') : KeepH w B m v ls vp zs pv hs sv ss W' :=
  ⟨h.box.below hb, h.lim.below hb, h.pul.below hb, h.pos.below hb, h.sla.below hb, h.bel.trans (hb.mono h.bel.size)⟩
theorem up_more {hs : List Int} {k : Nat} (h : k < hs.length) : (hs.take (k + 1)).map (· + 3) = (hs.take k).map (· + 3) ++ [hs[k] + 3] := by
  rw [List.take_add_one, List.getElem?_eq_getElem h, List.map_append]
  rfl

set_option maxRecDepth 100000 in
set_option maxHeartbeats 3200000 in
theorem FnHanging_walk (a : Option Addr) (n cap : Nat) (z : List Int) (w : World) (hr : IsRow .u8 w a n cap z) :
    Calls Try.prog 3 #[.slice a n cap] w fun e w' => e = .returned (.bool true) ∧ Below w.heap.size w w' := by
  have hn := row_len hr
  by_cases hb : 1048576 < n
  · have BG := Lib.hid (fun W => big_yes a n cap W hb hn)
    clear hr
    go_enter Try.func3, Try.ntmps3
    go_wp2_with (go_at_call 10; refine (BG.out _).mono ?_; rintro e w' ⟨rfl, rfl⟩)
    go_ret
    exact ⟨rfl, Below.refl _ _⟩
  · have BG := Lib.hid (fun W => big_no a n cap W (by omega))
    have DH := Lib.hid (hung_any a n cap z w hr (by omega))
    clear hr hb
    go_enter Try.func3, Try.ntmps3
    go_wp2_with (go_at_call 10; refine (BG.out _).mono ?_; rintro e w' ⟨rfl, rfl⟩)
    refine DH.out.mono ?_
    rintro e w1 ⟨m, v, vp, ls, zs, rfl, o1, p1, hok, b1⟩
    have H := Lib.hid (hung_of hok)
    have hzl := Lib.hid H.out.len
    have hm := H.out.small
    have hlm := H.out.limbs
    obtain ⟨A, c, rfl⟩ := o1.slice
    obtain ⟨P, d, rfl⟩ := p1.slice
    rw [hzl.out] at p1 ⊢
    have hll : ls.length ≤ 2000000 := by omega
    have hzz : zs.length ≤ 2000000 := by rw [hzl.out]; omega
    have hm1 : 1 ≤ m := by omega
    have CP := Lib.hid (fun W h1 h2 => hok ▸ implPulls m (.slice A ls.length c) (.slice P m d) ls zs w.heap.size w.heap.size W h1 h2 hll hzz)
    have CQ := Lib.hid (fun vq W h1 h2 => (hang_held H.out).1 ▸ implPose m (.slice A ls.length c) vq ls (hangs m ls zs) w.heap.size w.heap.size W h1 h2 hll (by rw [hangs_len]; omega))
    have CH := Lib.hid (fun W h1 h2 => hangPose_is H.out ▸ implHang m (.slice A ls.length c) (.slice P m d) ls zs w.heap.size w.heap.size W h1 h2 hll hzz)
    have CS := Lib.hid (fun W h1 h2 => implSlack m (.slice A ls.length c) (.slice P m d) ls zs w.heap.size w.heap.size W h1 h2 hll hzz)
    have CL := Lib.hid (fun W h1 h2 => lowest_is H.out ▸ implLow m (.slice A ls.length c) (.slice P m d) ls zs w.heap.size w.heap.size W h1 h2 hll hzz)
    have CI := Lib.hid (fun vh W h1 h2 h3 => (hang_held H.out).2 ▸ implHeld m (.slice A ls.length c) (.slice P m d) vh ls zs (hangs m ls zs) w.heap.size w.heap.size w.heap.size W h1 h2 h3 hll hzz (by rw [hangs_len]; omega))
    have CJ := Lib.hid (fun j (hj : j < m) b3 vh W h1 h2 h3 => hang_lower H.out hj ▸ implHeld m (.slice A ls.length c) (.slice P m d) vh ls zs ((hangs m ls zs).set j (hang m ls zs j - 1)) w.heap.size w.heap.size b3 W h1 h2 h3 hll hzz (by rw [List.length_set, hangs_len]; omega))
    have CK := Lib.hid (fun vh b3 W h1 h2 h3 => hang_higher H.out ▸ implHeld m (.slice A ls.length c) (.slice P m d) vh ls zs ((hangs m ls zs).map (· + 3)) w.heap.size w.heap.size b3 W h1 h2 h3 hll hzz (by rw [List.length_map, hangs_len]; omega))
    have CA := Lib.hid (fun sv (j : Nat) W h => has_any sv (slacks m ls zs) (j : Int) w.heap.size W h (by have := slacks_len m ls zs; omega))
    have X1 := Lib.hid (boxAt_new w1 (m : Int) (.slice A ls.length c))
    have L1 := Lib.hid (o1.alloc (.cells #[.int .i64 (m : Int), .slice A ls.length c] 26))
    have P1 := Lib.hid (p1.alloc (.cells #[.int .i64 (m : Int), .slice A ls.length c] 26))
    have B1 := Lib.hid (b1.alloc b1.size (.cells #[.int .i64 (m : Int), .slice A ls.length c] 26))
    have hs1 := b1.size
    clear o1 p1 b1 hok BG DH
    unfold bodyV at CP CQ CH CS CL CI CJ CK ⊢
    go_wp2_with fail
    refine (CH.out _ L1.out P1.out).mono ?_
    rintro e w2 ⟨pv, rfl, o2, b2⟩
    obtain ⟨Q, q, rfl⟩ := o2.slice
    rw [hangs_len] at o2 ⊢
    have X2 := Lib.hid (X1.out.below b2)
    have L2 := Lib.hid (L1.out.below b2)
    have P2 := Lib.hid (P1.out.below b2)
    have O2 := Lib.hid (o2.mono (b := w.heap.size) (by simp; omega))
    have B2 := Lib.hid (B1.out.trans (b2.mono (by simp; omega)))
    clear o2 b2 X1 L1 P1 B1 CH
    obtain ⟨x0, x1⟩ := X2.out
    go_wp2_with fail
    refine (CQ.out _ _ L2.out O2.out).mono ?_
    rintro e w3 ⟨rfl, b3⟩
    have X3 := Lib.hid (X2.out.below b3)
    have L3 := Lib.hid (L2.out.below b3)
    have P3 := Lib.hid (P2.out.below b3)
    have O3 := Lib.hid (O2.out.below b3)
    have B3 := Lib.hid (B2.out.trans (b3.mono B2.out.size))
    clear b3 X2 L2 P2 O2 B2 CQ x0 x1
    obtain ⟨x0, x1⟩ := X3.out
    go_wp2_with fail
    refine (CI.out _ _ L3.out P3.out O3.out).mono ?_
    rintro e w4 ⟨rfl, b4⟩
    have X4 := Lib.hid (X3.out.below b4)
    have L4 := Lib.hid (L3.out.below b4)
    have P4 := Lib.hid (P3.out.below b4)
    have O4 := Lib.hid (O3.out.below b4)
    have B4 := Lib.hid (B3.out.trans (b4.mono B3.out.size))
    clear b4 X3 L3 P3 O3 B3 CI x0 x1
    obtain ⟨x0, x1⟩ := X4.out
    go_wp2_with fail
    refine (CS.out _ L4.out P4.out).mono ?_
    rintro e w5 ⟨sv, rfl, o5, b5⟩
    have K := Lib.hid (show KeepH w w1.heap.size m (.slice A ls.length c) ls (.slice P m d) zs (.slice Q m q) (hangs m ls zs) sv (slacks m ls zs) w5 from ⟨X4.out.below b5, L4.out.below b5, P4.out.below b5, O4.out.below b5, o5.mono B4.out.size, B4.out.trans (b5.mono B4.out.size)⟩)
    clear o5 b5 X4 L4 P4 O4 B4 CS x0 x1
    go_wp2_with fail
    go_loopw [7] (fun jv wr => ∃ j : Nat, j ≤ m ∧ jv = .int .i64 (j : Int) ∧ Hid (KeepH w w1.heap.size m (.slice A ls.length c) ls (.slice P m d) zs (.slice Q m q) (hangs m ls zs) sv (slacks m ls zs) wr)) (fun jv _ => m - (intOf jv).toNat)
    case atStart => exact ⟨0, by omega, rfl, K.out⟩
    case round =>
      clear K
      obtain ⟨j, hj, rfl, K⟩ := hrel
      obtain ⟨x0, x1⟩ := K.out.box
      by_cases hjt : j < m
      · clear CP CL CK
        have hj0 : (0 : Int) ≤ (j : Int) := by omega
        have hj1 : (j : Int) < (m : Int) := by omega
        obtain ⟨gp, _, e1, _, _, z0, _⟩ := K.out.pul.spot (k := j) (by rw [hzl.out]; exact hjt)
        rw [hzl.out] at e1
        simp only [Value.slice.injEq] at e1
        obtain ⟨rfl, em, rfl⟩ := e1
        clear em
        obtain ⟨gq, _, e1, _, _, z1, _⟩ := K.out.pos.spot (k := j) (by rw [hangs_len]; exact hjt)
        rw [hangs_len] at e1
        simp only [Value.slice.injEq] at e1
        obtain ⟨rfl, em, rfl⟩ := e1
        clear em
        rw [hangs_at] at z1
        have HR := hang_range H.out j
        have SF := Lib.hid (show 0 ≤ zs.getD j 0 → zs.getD j 0 ≤ hang m ls zs j from fun h => hang_self hjt h)
        have HB := Lib.hid (show hasL (slacks m ls zs) (j : Int) = (decide (0 ≤ zs.getD j 0) && decide (zs.getD j 0 < hang m ls zs j)) by rw [slacks_is H.out, slackTo_has, slackB_is hjt, decide_eq_true hjt, Bool.true_and])
        have GD := Lib.hid (getD_of (zs := zs) (k := j) (by rw [hzl.out]; exact hjt))
        rw [GD.out] at SF HB
        have CJJ := Lib.hid (CJ.out j hjt)
        have CAJ := Lib.hid (show ∀ W, OwnI W w.heap.size sv (slacks m ls zs) → Calls Try.prog 16 #[sv, .int .i64 (j : Int)] W (fun e w' => e = .returned (.bool (decide (0 ≤ zs[j]'(by rw [hzl.out]; exact hjt)) && decide (zs[j]'(by rw [hzl.out]; exact hjt) < hang m ls zs j))) ∧ w' = W) from fun W h => by have := CA.out sv j W h; rwa [HB.out] at this)
        have SETQ := Lib.hid (show (hangs m ls zs).length = m from hangs_len m ls zs)
        have hlt := hjt
        generalize zs[j]'(by rw [hzl.out]; exact hjt) = x at z0 SF CAJ
        have NX := Lib.hid (show 0 ≤ x → ¬ hang m ls zs j < x from fun h => by have := SF.out h; omega)
        clear SF HB GD CA CJ
        generalize hang m ls zs j = t at z1 HR CAJ CJJ NX
        have gw : IntKind.i64.wrap (t - 1) = t - 1 := IntWalk.i64_in _ (by omega)
        by_cases hx : 0 ≤ x
        · have nx := NX.out hx
          have g0 : decide (0 ≤ x) = true := decide_eq_true hx
          have g1 : decide (t < x) = false := decide_eq_false nx
          by_cases hs : x < t
          · have g2 : decide (x < t) = true := decide_eq_true hs
            have C := Lib.hid (show ∀ W, OwnI W w.heap.size sv (slacks m ls zs) → Calls Try.prog 16 #[sv, .int .i64 (j : Int)] W (fun e w' => e = .returned (.bool true) ∧ w' = W) from fun W h => by have h' := CAJ.out W h; rw [g0, g2] at h'; exact h')
            clear nx NX CAJ
            go_wp2_with fail
            go_quiet (first | (go_at_call 16; refine Calls.quiet_of_same (C.out _ ?_); exact K.out.sla))
            have BD := below_of_grown (grown_drewN (World.grownBy.refl wr none) nq)
            have K2 := Lib.hid (K.out.below BD)
            have z2 := cell_below z1 BD
            clear BD x0 x1 z0 z1 K C g0 g1 g2 hx hs
            generalize wr.drewN nq = W at K2 z2 ⊢
            have hgq := World.block_lt_of_cell? W _ z2
            go_wp2_with (at_builtin; refine wpList_rowsI rfl (.tmp 88) (.tmp 89) rfl W.heap.size w.heap.size (.slice (some ⟨W.heap.size, 0, none⟩) 0 0) (.slice (some ⟨gq, 0, none⟩) m q) [] (hangs m ls zs) rfl rfl (ownI_empty W W.heap.size W.heap.size #[] rfl (Nat.le_refl _) rfl) (K2.out.pos.alloc _) ?_ ?_ ?_; (simp only [List.length_nil]; rw [SETQ.out]; omega); (simp); intro v' w7 own0 hgrow hat; have own1 : OwnI w7 W.heap.size v' (hangs m ls zs) := own0; obtain ⟨gl, cl, rfl, hgl, _, y0, f0⟩ := own1.spot (k := j) (by rw [SETQ.out]; exact hlt); rw [SETQ.out] at own1 ⊢; have BB : Below W.heap.size W w7 := ((Below.refl _ _).alloc (Nat.le_refl _) _).grown hgrow (by simp) (fun k hk => by have : W.heap.size = k := (by simpa [Value.ownBlock] using hk); omega); have z3 := cell_below z2 BB; obtain ⟨u, hu⟩ : ∃ u, w7.cell? ⟨gl, j, none⟩ = some u := ⟨_, y0⟩; have BS := Lib.hid (BB.setCell (p := ⟨gl, j, none⟩) hgl (.int .i64 (t - 1))); have K3 := Lib.hid (K2.out.below BS.out); have ST := Lib.hid (own1.set SETQ.out.symm j (t - 1)).1; obtain ⟨y2, y3⟩ := K3.out.box; clear y0 own0 own1 hgrow hat BB)
            refine (CJJ.out _ _ _ K3.out.lim K3.out.pul ST.out).mono ?_
            rintro e w9 ⟨rfl, b9⟩
            have K4 := Lib.hid (K3.out.below b9)
            clear b9 K2 K3 ST BS z2 z3 hu f0 y2 y3
            go_wp2
            exact ⟨⟨j + 1, by omega, by go_num, K4.out⟩, by simp [intOf]; omega⟩
          · have g2 : decide (x < t) = false := decide_eq_false hs
            have C := Lib.hid (show ∀ W, OwnI W w.heap.size sv (slacks m ls zs) → Calls Try.prog 16 #[sv, .int .i64 (j : Int)] W (fun e w' => e = .returned (.bool false) ∧ w' = W) from fun W h => by have h' := CAJ.out W h; rw [g0, g2] at h'; exact h')
            clear nx NX CAJ
            go_wp2_with fail
            go_quiet (first | (go_at_call 16; refine Calls.quiet_of_same (C.out _ ?_); exact K.out.sla))
            have BD := below_of_grown (grown_drewN (World.grownBy.refl wr none) nq)
            have K2 := Lib.hid (K.out.below BD)
            have z2 := cell_below z1 BD
            clear BD x0 x1 z0 z1 K C g0 g1 g2 hx hs
            generalize wr.drewN nq = W at K2 z2 ⊢
            have hgq := World.block_lt_of_cell? W _ z2
            go_wp2_with (at_builtin; refine wpList_rowsI rfl (.tmp 88) (.tmp 89) rfl W.heap.size w.heap.size (.slice (some ⟨W.heap.size, 0, none⟩) 0 0) (.slice (some ⟨gq, 0, none⟩) m q) [] (hangs m ls zs) rfl rfl (ownI_empty W W.heap.size W.heap.size #[] rfl (Nat.le_refl _) rfl) (K2.out.pos.alloc _) ?_ ?_ ?_; (simp only [List.length_nil]; rw [SETQ.out]; omega); (simp); intro v' w7 own0 hgrow hat; have own1 : OwnI w7 W.heap.size v' (hangs m ls zs) := own0; obtain ⟨gl, cl, rfl, hgl, _, y0, f0⟩ := own1.spot (k := j) (by rw [SETQ.out]; exact hlt); rw [SETQ.out] at own1 ⊢; have BB : Below W.heap.size W w7 := ((Below.refl _ _).alloc (Nat.le_refl _) _).grown hgrow (by simp) (fun k hk => by have : W.heap.size = k := (by simpa [Value.ownBlock] using hk); omega); have z3 := cell_below z2 BB; obtain ⟨u, hu⟩ : ∃ u, w7.cell? ⟨gl, j, none⟩ = some u := ⟨_, y0⟩; have BS := Lib.hid (BB.setCell (p := ⟨gl, j, none⟩) hgl (.int .i64 (t - 1))); have K3 := Lib.hid (K2.out.below BS.out); have ST := Lib.hid (own1.set SETQ.out.symm j (t - 1)).1; obtain ⟨y2, y3⟩ := K3.out.box; clear y0 own0 own1 hgrow hat BB)
            refine (CJJ.out _ _ _ K3.out.lim K3.out.pul ST.out).mono ?_
            rintro e w9 ⟨rfl, b9⟩
            have K4 := Lib.hid (K3.out.below b9)
            clear b9 K2 K3 ST BS z2 z3 hu f0 y2 y3
            go_wp2
            exact ⟨⟨j + 1, by omega, by go_num, K4.out⟩, by simp [intOf]; omega⟩
        · have g0 : decide (0 ≤ x) = false := decide_eq_false hx
          have C := Lib.hid (show ∀ W, OwnI W w.heap.size sv (slacks m ls zs) → Calls Try.prog 16 #[sv, .int .i64 (j : Int)] W (fun e w' => e = .returned (.bool false) ∧ w' = W) from fun W h => by have h' := CAJ.out W h; rw [g0] at h'; exact h')
          clear NX CAJ
          go_wp2_with fail
          go_quiet (first | (go_at_call 16; refine Calls.quiet_of_same (C.out _ ?_); exact K.out.sla))
          have BD := below_of_grown (grown_drewN (World.grownBy.refl wr none) nq)
          have K2 := Lib.hid (K.out.below BD)
          have z2 := cell_below z1 BD
          clear BD x0 x1 z0 z1 K C g0 hx
          generalize wr.drewN nq = W at K2 z2 ⊢
          have hgq := World.block_lt_of_cell? W _ z2
          go_wp2_with (at_builtin; refine wpList_rowsI rfl (.tmp 88) (.tmp 89) rfl W.heap.size w.heap.size (.slice (some ⟨W.heap.size, 0, none⟩) 0 0) (.slice (some ⟨gq, 0, none⟩) m q) [] (hangs m ls zs) rfl rfl (ownI_empty W W.heap.size W.heap.size #[] rfl (Nat.le_refl _) rfl) (K2.out.pos.alloc _) ?_ ?_ ?_; (simp only [List.length_nil]; rw [SETQ.out]; omega); (simp); intro v' w7 own0 hgrow hat; have own1 : OwnI w7 W.heap.size v' (hangs m ls zs) := own0; obtain ⟨gl, cl, rfl, hgl, _, y0, f0⟩ := own1.spot (k := j) (by rw [SETQ.out]; exact hlt); rw [SETQ.out] at own1 ⊢; have BB : Below W.heap.size W w7 := ((Below.refl _ _).alloc (Nat.le_refl _) _).grown hgrow (by simp) (fun k hk => by have : W.heap.size = k := (by simpa [Value.ownBlock] using hk); omega); have z3 := cell_below z2 BB; obtain ⟨u, hu⟩ : ∃ u, w7.cell? ⟨gl, j, none⟩ = some u := ⟨_, y0⟩; have BS := Lib.hid (BB.setCell (p := ⟨gl, j, none⟩) hgl (.int .i64 (t - 1))); have K3 := Lib.hid (K2.out.below BS.out); have ST := Lib.hid (own1.set SETQ.out.symm j (t - 1)).1; obtain ⟨y2, y3⟩ := K3.out.box; clear y0 own0 own1 hgrow hat BB)
          refine (CJJ.out _ _ _ K3.out.lim K3.out.pul ST.out).mono ?_
          rintro e w9 ⟨rfl, b9⟩
          have K4 := Lib.hid (K3.out.below b9)
          clear b9 K2 K3 ST BS z2 z3 hu f0 y2 y3
          go_wp2
          exact ⟨⟨j + 1, by omega, by go_num, K4.out⟩, by simp [intOf]; omega⟩
      · obtain rfl : j = m := by omega
        clear CJ CA
        go_wp2_with fail
        refine (CL.out _ K.out.lim K.out.pul).mono ?_
        rintro e w6 ⟨rfl, b6⟩
        have K6 := Lib.hid (K.out.below b6)
        have LE := Lib.hid (fun k (hk : k < j) => show leastTo (hangs j ls zs) j ≤ hang j ls zs k by rw [← hangs_getD hk]; exact leastTo_le hk)
        have LG : -2000 ≤ leastTo (hangs j ls zs) j := leastTo_ge (by rw [hangs_getD (by omega)]; exact (hang_range H.out 0).1) (fun k hk => by rw [hangs_getD hk]; exact (hang_range H.out k).1)
        generalize leastTo (hangs j ls zs) j = low at LE LG ⊢
        clear b6 K CL x0 x1
        go_wp2_with fail
        go_loopw [10] (fun kv wq => ∃ k : Nat, k ≤ j ∧ kv = .int .i64 (k : Int) ∧ wq = w6) (fun kv _ => j - (intOf kv).toNat)
        case atStart => exact ⟨0, by omega, rfl, rfl⟩
        case round =>
          obtain ⟨k, hk, rfl, hwq⟩ := hrel
          have hwq := hwq.symm
          subst hwq
          obtain ⟨x0, x1⟩ := K6.out.box
          by_cases hkt : k < j
          · obtain ⟨gq, _, e1, _, _, z1, _⟩ := K6.out.pos.spot (k := k) (by rw [hangs_len]; exact hkt)
            rw [hangs_len] at e1
            simp only [Value.slice.injEq] at e1
            obtain ⟨rfl, em, rfl⟩ := e1
            clear em
            rw [hangs_at] at z1
            have hk0 : (0 : Int) ≤ (k : Int) := by omega
            have hk1 : (k : Int) < (j : Int) := by omega
            have nl : ¬ hang j ls zs k < low := by have := LE.out k hkt; omega
            generalize hang j ls zs k = t at z1 nl
            go_wp2
            exact ⟨⟨k + 1, by omega, by go_num, trivial⟩, by simp [intOf]; omega⟩
          · obtain rfl : k = j := by omega
            clear LE
            have O0 := Lib.hid (ownI_empty w6 w6.heap.size w6.heap.size #[] rfl (Nat.le_refl _) rfl)
            have K7 := Lib.hid (K6.out.below ((Below.refl w6.heap.size w6).alloc (Nat.le_refl _) (.cells #[] 3)))
            obtain ⟨i0, hi0, hz0, hz1, hz2⟩ := info_parts info_int
            have hpos : 0 < 1 := by omega
            go_wp2_with fail
            clear x0 x1
            go_loopw [11, 12] (fun ov iv wr => ∃ (i : Nat) (vo : Value), vo = ov ∧ i ≤ k ∧ iv = .int .i64 (i : Int) ∧ Hid (OwnI wr w6.heap.size vo (((hangs k ls zs).take i).map (· + 3))) ∧ Hid (KeepH w w1.heap.size k (.slice A ls.length c) ls (.slice P k d) zs (.slice Q k q) (hangs k ls zs) sv (slacks k ls zs) wr) ∧ Hid (w6.heap.size ≤ wr.heap.size ∧ Below w6.heap.size w6 wr)) (fun _ iv _ => k - (intOf iv).toNat)
            case atStart => exact ⟨0, _, rfl, by omega, rfl, O0.out, K7.out, by simp, (Below.refl w6.heap.size w6).alloc (Nat.le_refl _) _⟩
            case round =>
              clear O0 K7
              obtain ⟨i, vo, rfl, hi, rfl, HO, HK, HS⟩ := hrel
              obtain ⟨x0, x1⟩ := HK.out.box
              by_cases hit : i < k
              · obtain ⟨gq, _, e1, _, _, z1, _⟩ := HK.out.pos.spot (k := i) (by rw [hangs_len]; exact hit)
                rw [hangs_len] at e1
                simp only [Value.slice.injEq] at e1
                obtain ⟨rfl, em, rfl⟩ := e1
                clear em
                rw [hangs_at] at z1
                have hk0 : (0 : Int) ≤ (i : Int) := by omega
                have hk1 : (i : Int) < (k : Int) := by omega
                have UP := Lib.hid (up_more (hs := hangs k ls zs) (k := i) (by rw [hangs_len]; exact hit))
                rw [hangs_at] at UP
                have HR := hang_range H.out i
                have TL : (((hangs k ls zs).take i).map (· + 3)).length = i := by rw [List.length_map, List.length_take, hangs_len]; omega
                have hmax : (((hangs k ls zs).take i).map (· + 3)).length + 1 ≤ maxLen := by rw [TL]; simp only [maxLen]; omega
                have hbd : ((((hangs k ls zs).take i).map (· + 3)).length + 1) * 8 ≤ 140737488355328 := by rw [TL]; omega
                have OUT := HO.out
                generalize ((hangs k ls zs).take i).map (· + 3) = ts at OUT HO UP hmax hbd
                generalize hang k ls zs i = t at z1 UP HR
                have gw : IntKind.i64.wrap (t + 3) = t + 3 := IntWalk.i64_in _ (by omega)
                clear TL
                go_wp2_with (at_builtin; refine wpList_append_lies _ rfl (.tmp 125) (.tmp 131) 27 rfl w6.heap.size 3 i0 (.int .i64 0) 1 8 Try.underlying27 hi0 hz0 hz1 hz2 rfl hpos vo _ _ rfl (OUT.alloc _) ⟨wr.heap.size, 0, none⟩ 1 1 [.int .i64 (t + 3)] rfl rfl (cell_one_new _ _ _) ?_ hpos hmax hbd ?_ (wr.heap.size + 1) ?_ ?_; (simp [Value.oneCell']); (have := HS.out.1; simp; omega); (simp); intro gg cap' w8 hown1 hgrow hat hlt')
                have BB := ints_snoc_below HS.out.2 HS.out.1 OUT hgrow
                exact ⟨⟨i + 1, _, rfl, by omega, by go_num, (by rw [UP.out]; exact ownI_snoc hown1), K6.out.below BB, BB.size, BB⟩, by simp [intOf]; omega⟩
              · obtain rfl : i = k := by omega
                rw [List.take_of_length_le (Nat.le_of_eq (hangs_len _ _ _))] at HO
                clear K6 HS
                go_wp2_with fail
                refine (CP.out _ HK.out.lim HK.out.pul).mono ?_
                rintro e w8 ⟨rfl, b8⟩
                have HK8 := Lib.hid (HK.out.below b8)
                have HO8 := Lib.hid (HO.out.below b8)
                clear b8 HK HO x0 x1
                obtain ⟨x0, x1⟩ := HK8.out.box
                go_wp2_with fail
                refine (CK.out _ _ _ HK8.out.lim HK8.out.pul HO8.out).mono ?_
                rintro e w9 ⟨rfl, b9⟩
                have HK9 := Lib.hid (HK8.out.below b9)
                clear b9 HK8 HO8 x0 x1
                go_wp2
                go_ret
                exact ⟨rfl, HK9.out.bel⟩
end Go.Proofs.Ytblbmppbbhibeaa
