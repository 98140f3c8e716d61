/- The contracts of the program's ShortSet (a label, a goto) and LackOf. Condition: the players and the numbers lie in rows of their own. -/
import Derived.Test.YtjpalndcfaeihaaPrgB
import Derived.Test.YtjpalndcfaeihaaIntB
import Derived.ScopeJumps
import Derived.WalkMore
import Derived.Scope
namespace Go.Proofs.Ytjpalndcfaeihaa
set_option linter.unusedVariables false
set_option linter.unusedSimpArgs false
open Go.RowKit

/-- A scope whose label is reached from above and from below: what stands behind the label is walked once. -/
theorem wp_scope_enter {P : Program} {a : Act} {w : World} {Q : Exit → Act → World → Prop} {c rest : Code} (l : Nat) (J : Act → World → Prop) (μ : Act → World → Nat) (hf : findLabel c l = some (.seq .skip rest))
    (pass : ∀ a w, J a w → rest.wp P (Exit.jump l (fun a' w' => J a' w' ∧ μ a' w' < μ a w) Q) a w)
    (first : (∀ a w, J a w → rest.wp P (Exit.jump l J Q) a w) → c.wp P (Exit.jump l J Q) a w) : (Code.scope c).wp P Q a w :=
  wp_scope_jumps l J μ hf (first fun a w h => wp_mono (pass a w h) fun e a w q => by
    cases e with
    | goto l' => exact ⟨q.1, q.2.1⟩
    | normal => exact q
    | exit id => exact q
    | ret => exact q
    | panic ch => exact q
    | outgrown => exact q) fun a w h => wp_seq (wp_skip (pass a w h))
theorem short_zero (ls : List RPlayer) (ps : List Int) : shortAt ls ps 0 = none := by
  have e : partOf ps 0 = [] := by
    unfold partOf
    generalize ps.length = n
    induction n with
    | zero => rfl
    | succ n ih => rw [partTo, ih, Nat.zero_testBit, if_neg (by simp)]
  have f : isShort ls [] = false := by
    unfold isShort
    by_cases h : 0 ≤ handsFor ls []
    · rw [show decide (handsFor ls [] < (([] : List Int).length : Int)) = false from decide_eq_false (by simp; omega), Bool.and_false]
    · rw [decide_eq_false h, Bool.false_and]
  unfold shortAt
  rw [e, f, if_neg (by simp)]

set_option maxRecDepth 1000000 in
set_option maxHeartbeats 3200000 in
theorem implShs (v : Value) (ls : List RPlayer) (b : Nat) (w : World) (h : OwnPlayer w b v ls) (hl : ls.length ≤ 2000000) (hr : ∀ k (hk : k < ls.length), ls[k].f0.length ≤ 2000000) (u : Value) (ps : List Int) (b2 : Nat) (h2 : OwnI w b2 u ps) (hp : ps.length ≤ 2000000) :
    Calls Try.prog 12 #[v, u] w (IntsB w (castR (shortSet ls ps))) := by
  have CH := Lib.hid (implHan v ls b w h hl hr u ps b2 h2 hp)
  have CS := Lib.hid (fun W h vp zs b3 h3 hz => implSho v ls b W h hl hr vp zs b3 h3 hz)
  obtain ⟨A, c, rfl⟩ := h.slice
  obtain ⟨D, d, rfl⟩ := h2.slice
  have O := Lib.hid h
  have P := Lib.hid h2
  clear h h2 hr
  cases hok : proofOk ls ps with
  | false =>
    have R := Lib.hid (show castR (shortSet ls ps) = ([], false) by unfold shortSet; rw [hok]; rfl)
    have N := Lib.hid (show handsFor ls ps = -1 by unfold handsFor; rw [hok]; rfl)
    rw [N.out] at CH
    clear hok
    go_enter Try.func12, Try.ntmps12
    go_wp2_with fail
    go_step3
    go_wp2_with (go_at_call 17; refine CH.out.mono ?_; rintro e w1 ⟨rfl, b1⟩; have B1 := Lib.hid b1; clear b1)
    rw [Exit.noGoto_ret]
    go_ret2
    exact ⟨_, by rw [R.out]; rfl, by rw [R.out]; exact ⟨rfl, .inl ⟨rfl, rfl⟩⟩, B1.out⟩
  | true =>
    have hp7 := proof_len hok
    obtain ⟨hpo, hrs⟩ : playersOk ls = true ∧ rising ps 6 = true := by
      have q := hok
      unfold proofOk at q
      rwa [Bool.and_eq_true] at q
    have hf0 : 0 ≤ handsFor ls ps := by
      unfold handsFor
      rw [if_pos hok]
      exact (hfor_small hpo ps ls.length (Nat.le_refl _)).1
    obtain ⟨M, hM⟩ : ∃ M, 1 <<< ps.length = M := ⟨_, rfl⟩
    have hM2 := pow_small hp7
    rw [hM] at hM2
    have R := Lib.hid (show shortSet ls ps = firstOf (shortAt ls ps) M by unfold shortSet; rw [if_pos hok, hM])
    have CC := Lib.hid (fun W => (hM ▸ implCnu D ps.length d W hp7 : Calls Try.prog 39 #[.slice D ps.length d] W fun e w' => e = .returned (.int .i64 (M : Int)) ∧ W = w'))
    have CP := Lib.hid (fun s W h hs => implSub (.slice D ps.length d) ps s b2 W h (by omega) hs)
    have PL := Lib.hid (fun s => partOf_len ps s)
    generalize handsFor ls ps = hf at hf0 CH
    have hfn : (hf == (-1 : Int)) = false := by rw [beq_eq_false_iff_ne]; omega
    clear hok hpo hrs hM
    go_enter Try.func12, Try.ntmps12
    go_wp2_with fail
    refine wp_scope_enter 0 (fun a' w' => ∃ (s : Nat) (u7 u8 u9 u10 u11 u12 u13 u14 u15 u16 u17 u18 u19 u20 u21 u22 u23 u24 u25 : Value), a' = { tmps := #[.slice A ls.length c, .slice D ps.length d, undef, undef, .slice none 0 0, .bool false, .int .i64 (s : Int), u7, u8, u9, u10, u11, u12, u13, u14, u15, u16, u17, u18, u19, u20, u21, u22, u23, u24, u25], defers := [] } ∧ s < M ∧ Hid (∀ q, q ≤ s → shortAt ls ps q = none) ∧ Hid (Below w.heap.size w w')) (fun a' _ => M - (intOf (a'.tmps.getD 6 undef)).toNat) rfl ?_ ?_
    · rintro a' wr ⟨s, u7, u8, u9, u10, u11, u12, u13, u14, u15, u16, u17, u18, u19, u20, u21, u22, u23, u24, u25, rfl, hs, HN, BW⟩
      have hbs := BW.out.size
      have e1 : IntKind.i64.wrap ((s : Int) + 1) = ((s + 1 : Nat) : Int) := IntWalk.i64_in _ (by omega)
      by_cases hlt : s + 1 < M
      rotate_left
      · have hb : (((s + 1 : Nat) : Int) == (M : Int)) = true := by rw [beq_iff_eq]; omega
        have hb2 : ((s : Int) + 1 == (M : Int)) = true := by rw [beq_iff_eq]; omega
        have R2 := Lib.hid (show castR (shortSet ls ps) = ([], false) by rw [R.out, first_none _ fun q hq => HN.out q (by omega)]; rfl)
        go_wp2_with (go_at_call 39; refine (CC.out _).mono ?_; rintro e w' ⟨rfl, rfl⟩)
        simp only [Exit.jump]
        go_ret2
        exact ⟨_, by rw [R2.out]; rfl, by rw [R2.out]; exact ⟨rfl, .inl ⟨rfl, rfl⟩⟩, BW.out⟩
      have hb : (((s + 1 : Nat) : Int) == (M : Int)) = false := by rw [beq_eq_false_iff_ne]; omega
      obtain ⟨s1, hs1⟩ : ∃ s1, s + 1 = s1 := ⟨_, rfl⟩
      rw [hs1] at e1 hb hlt
      have SA := Lib.hid (show shortAt ls ps s1 = if isShort ls (partOf ps s1) = true then some (partOf ps s1) else none from rfl)
      have pl := PL.out s1
      have CP2 := Lib.hid (CP.out s1 wr (P.out.below BW.out) (by omega))
      have HS := Lib.hid hs1
      clear CP hs1 CH
      go_wp2_with (go_at_call 39; refine (CC.out _).mono ?_; rintro e w' ⟨rfl, rfl⟩)
      refine CP2.out.mono ?_
      rintro e w2 ⟨v2, rfl, o2, b2⟩
      obtain ⟨A3, c3, rfl⟩ := o2.slice
      have C3 := Lib.hid (CS.out w2 ((O.out.below BW.out).below b2) _ _ _ o2 (by omega))
      have O2 := Lib.hid (o2.mono hbs)
      have B2 := Lib.hid (BW.out.trans (b2.mono hbs))
      clear o2 b2 CP2
      cases hsh : isShort ls (partOf ps s1) with
      | false =>
        rw [hsh, if_neg (by simp)] at SA
        rw [hsh] at C3
        have HN2 := Lib.hid (show ∀ q, q ≤ s1 → shortAt ls ps q = none from fun q hq => by
          have := HS.out
          rcases (by omega : q ≤ s ∨ q = s1) with c | rfl
          · exact HN.out q c
          · exact SA.out)
        clear HN SA hsh
        go_wp2_with fail
        refine C3.out.mono ?_
        rintro e w3 ⟨rfl, b3⟩
        have B3 := Lib.hid (B2.out.trans (b3.mono B2.out.size))
        clear b3
        go_wp2
        go_step3
        exact ⟨rfl, ⟨s1, _, _, _, _, _, _, _, _, _, _, _, _, _, _, _, _, _, _, _, rfl, hlt, HN2, B3⟩, by have := HS.out; simp [intOf]; omega⟩
      | true =>
        rw [hsh, if_pos rfl] at SA
        rw [hsh] at C3
        have R2 := Lib.hid (show castR (shortSet ls ps) = (partOf ps s1, true) by
          rw [R.out, first_some (fun q hq => HN.out q (by have := HS.out; omega)) SA.out M hlt]; rfl)
        clear HN SA hsh R
        go_wp2_with fail
        refine C3.out.mono ?_
        rintro e w3 ⟨rfl, b3⟩
        have B3 := Lib.hid (B2.out.trans (b3.mono B2.out.size))
        have O3 := Lib.hid (O2.out.below b3)
        clear b3
        go_wp2
        simp only [Exit.jump]
        go_ret2
        exact ⟨_, by rw [R2.out]; rfl, by rw [R2.out]; exact O3.out, B3.out⟩
    · intro hrest
      go_wp2_with (go_at_call 17; refine CH.out.mono ?_; rintro e w1 ⟨rfl, b1⟩; have B1 := Lib.hid b1; clear b1)
      go_step3
      simp only [Exit.then]
      rename_i K_ hK_
      exact hK_ _ _ (hrest _ _ ⟨0, _, _, _, _, _, _, _, _, _, _, _, _, _, _, _, _, _, _, _, rfl, by omega, Lib.hid (fun q hq => by
        obtain rfl : q = 0 := by omega
        exact short_zero ls ps), B1⟩)

set_option maxRecDepth 100000 in
set_option maxHeartbeats 1600000 in
theorem implLac (v : Value) (ls : List RPlayer) (b : Nat) (w : World) (h : OwnPlayer w b v ls) (hl : ls.length ≤ 2000000) (hr : ∀ k (hk : k < ls.length), ls[k].f0.length ≤ 2000000) (u : Value) (ps : List Int) (b2 : Nat) (h2 : OwnI w b2 u ps) (hp : ps.length ≤ 2000000) :
    Calls Try.prog 14 #[v, u] w fun e w' => e = .returned (.int .i64 (lackOf ls ps)) ∧ Below w.heap.size w w' := by
  have CH := Lib.hid (implHan v ls b w h hl hr u ps b2 h2 hp)
  have CF := Lib.hid (fun W h vp zs b3 h3 hz => implHan v ls b W h hl hr vp zs b3 h3 hz)
  obtain ⟨A, c, rfl⟩ := h.slice
  obtain ⟨D, d, rfl⟩ := h2.slice
  have O := Lib.hid h
  have P := Lib.hid h2
  clear h h2 hr
  cases hok : proofOk ls ps with
  | false =>
    have R := Lib.hid (show lackOf ls ps = -1 by unfold lackOf; rw [hok]; rfl)
    have N := Lib.hid (show handsFor ls ps = -1 by unfold handsFor; rw [hok]; rfl)
    rw [N.out] at CH
    clear hok
    go_enter Try.func14, Try.ntmps14
    go_wp2_with (go_at_call 17; refine CH.out.mono ?_; rintro e w1 ⟨rfl, b1⟩; have B1 := Lib.hid b1; clear b1)
    go_ret
    exact ⟨by rw [R.out]; try rfl, B1.out⟩
  | true =>
    have hp7 := proof_len hok
    have hf0 : 0 ≤ handsFor ls ps := by
      have hpo : playersOk ls = true := by
        have q := hok
        unfold proofOk at q
        rw [Bool.and_eq_true] at q
        exact q.1
      unfold handsFor
      rw [if_pos hok]
      exact (hfor_small hpo ps ls.length (Nat.le_refl _)).1
    obtain ⟨M, hM⟩ : ∃ M, 1 <<< ps.length = M := ⟨_, rfl⟩
    have hM2 := (pow_small hp7).2
    rw [hM] at hM2
    have R := Lib.hid (show lackOf ls ps = lackTo ls ps M by unfold lackOf; rw [if_pos hok, hM])
    have CC := Lib.hid (fun W => (hM ▸ implCnu D ps.length d W hp7 : Calls Try.prog 39 #[.slice D ps.length d] W fun e w' => e = .returned (.int .i64 (M : Int)) ∧ W = w'))
    have CP := Lib.hid (fun s W h hs => implSub (.slice D ps.length d) ps s b2 W h (by omega) hs)
    have ML := Lib.hid (lack_small ls ps)
    generalize handsFor ls ps = hf at hf0 CH
    have hfn : (hf == (-1 : Int)) = false := by rw [beq_eq_false_iff_ne]; omega
    clear hok hM
    go_enter Try.func14, Try.ntmps14
    go_wp2_with (first | (go_at_call 17; refine CH.out.mono ?_; rintro e w1 ⟨rfl, b1⟩; have B1 := Lib.hid b1; clear b1) | (go_at_call 39; refine (CC.out _).mono ?_; rintro e w' ⟨rfl, rfl⟩))
    go_loopw [5, 14] (fun bv sv wr => ∃ s : Nat, s ≤ M ∧ bv = .int .i64 (lackTo ls ps s) ∧ sv = .int .i64 (s : Int) ∧ Hid (Below w.heap.size w wr)) (fun _ sv _ => M - (intOf sv).toNat)
    case atStart => exact ⟨0, by omega, rfl, rfl, B1⟩
    case round =>
      clear B1 CH CC
      obtain ⟨s, hs, rfl, rfl, BW⟩ := hrel
      have hbs := BW.out.size
      by_cases hlt : s < M
      rotate_left
      · obtain rfl : s = M := by omega
        go_wp2
        go_ret
        exact ⟨by rw [R.out]; try rfl, BW.out⟩
      have hs0 : (0 : Int) ≤ (s : Int) := by omega
      have hs1 : (s : Int) < (M : Int) := by omega
      have NX := Lib.hid (show lackTo ls ps (s + 1) = if lackTo ls ps s < ((partOf ps s).length : Int) - handsFor ls (partOf ps s) then ((partOf ps s).length : Int) - handsFor ls (partOf ps s) else lackTo ls ps s from rfl)
      have ml := ML.out s
      have pl := partOf_len ps s
      have hh2 := handsFor_small ls (partOf ps s)
      have CP2 := Lib.hid (CP.out s wr (P.out.below BW.out) (by omega))
      generalize lackTo ls ps s = m at ml NX ⊢
      clear CP
      go_wp2_with fail
      refine CP2.out.mono ?_
      rintro e w2 ⟨v2, rfl, o2, b2⟩
      obtain ⟨A3, c3, rfl⟩ := o2.slice
      have C3 := Lib.hid (CF.out w2 ((O.out.below BW.out).below b2) _ _ _ o2 (by omega))
      have B2 := Lib.hid (BW.out.trans (b2.mono hbs))
      clear o2 b2 CP2
      generalize handsFor ls (partOf ps s) = hh at NX C3 hh2
      generalize (partOf ps s).length = n at NX C3 pl
      have ew : IntKind.i64.wrap ((n : Int) - hh) = (n : Int) - hh := IntWalk.i64_in _ (by omega)
      go_wp2_with fail
      refine C3.out.mono ?_
      rintro e w3 ⟨rfl, b3⟩
      have B3 := Lib.hid (B2.out.trans (b3.mono B2.out.size))
      clear b3
      go_wp2
      exact ⟨⟨s + 1, by omega, by rw [NX.out], by go_num, B3⟩, by simp [intOf]; omega⟩
end Go.Proofs.Ytjpalndcfaeihaa
