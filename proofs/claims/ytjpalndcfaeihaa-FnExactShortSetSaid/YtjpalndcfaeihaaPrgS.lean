/- The contracts of spec.ShortSet, MostCast and LackOf. Condition: the players and the numbers lie in rows of their own. -/
import Derived.Test.YtjpalndcfaeihaaPrfS
import Derived.Test.YtjpalndcfaeihaaHasS
import Derived.BigQuiet
namespace Go.Proofs.Ytjpalndcfaeihaa
set_option linter.unusedVariables false
set_option linter.unusedSimpArgs false
open Go.RowKit

/-- What a shift by a length gives, in the three forms that a walk shows. -/
theorem shl_len {n : Nat} (h : n ≤ 7) : wrap64 (2 ^ n) = ((1 <<< n : Nat) : Int) ∧ wrap64 (2 ^ min n 64) = ((1 <<< n : Nat) : Int) ∧ IntKind.i64.wrap (2 ^ n) = ((1 <<< n : Nat) : Int) ∧ IntKind.i64.wrap (2 ^ min n 64) = ((1 <<< n : Nat) : Int) := by
  have e1 := shl_nat64 n (by omega)
  have e2 := shl_nat n (by omega)
  have em : min n 64 = n := Nat.min_eq_left (by omega)
  rw [em] at e2
  rw [em]
  exact ⟨e1, e1, e2, e2⟩

set_option maxRecDepth 100000 in
set_option maxHeartbeats 1600000 in
theorem specShs (v : Value) (ls : List RPlayer) (b : Nat) (w : World) (h : OwnPlayer w b v ls) (hl : ls.length ≤ 2000000) (hr : ∀ k (hk : k < ls.length), ls[k].f0.length ≤ 2000000) (u : Value) (ps : List Int) (b2 : Nat) (h2 : OwnI w b2 u ps) (hp : ps.length ≤ 2000000) :
    Calls Try.prog 26 #[v, u] w (IntsB w (castR (shortSet ls ps))) := by
  have CK := Lib.hid (specHok v ls b w h hl hr u ps b2 h2 hp)
  have CS := Lib.hid (fun W h vp zs b3 h3 hz => specSho v ls b W h hl hr vp zs b3 h3 hz)
  obtain ⟨A, c, rfl⟩ := h.slice
  obtain ⟨A2, c2, rfl⟩ := h2.slice
  have O := Lib.hid h
  have P := Lib.hid h2
  clear h h2 hr
  cases hok : proofOk ls ps with
  | false =>
    have R := Lib.hid (show castR (shortSet ls ps) = ([], false) by unfold shortSet; rw [hok]; rfl)
    rw [hok] at CK
    go_enter Try.func26, Try.ntmps26
    go_wp2_with fail
    refine CK.out.mono ?_
    rintro e w1 ⟨rfl, b1⟩
    have O0 := Lib.hid (ownI_empty w1 w.heap.size w1.heap.size #[] rfl b1.size rfl)
    have B0 := Lib.hid (b1.alloc b1.size (.cells #[] 3))
    clear b1
    go_wp2
    go_ret2
    exact ⟨_, by rw [R.out]; try rfl, by rw [R.out]; exact O0.out, B0.out⟩
  | true =>
    have hp7 := proof_len hok
    obtain ⟨M, hM⟩ : ∃ M, 1 <<< ps.length = M := ⟨_, rfl⟩
    have hM2 := (pow_small hp7).2
    obtain ⟨e1, e2, e3, e4⟩ := shl_len hp7
    rw [hM] at hM2 e1 e2 e3 e4
    have R := Lib.hid (show shortSet ls ps = firstOf (shortAt ls ps) M by unfold shortSet; rw [if_pos hok, hM])
    have CP := Lib.hid (fun s W h hs => specPar (.slice A2 ps.length c2) ps s b2 W h (by omega) hs)
    rw [hok] at CK
    clear hok hM
    go_enter Try.func26, Try.ntmps26
    go_wp2_with fail
    refine CK.out.mono ?_
    rintro e w1 ⟨rfl, b1⟩
    have B1 := Lib.hid b1
    clear b1 CK
    go_wp2_with fail
    go_loopw [6] (fun sv wr => ∃ s : Nat, s ≤ M ∧ sv = .int .i64 (s : Int) ∧ Hid (∀ q, q < s → shortAt ls ps q = none) ∧ Hid (Below w.heap.size w wr)) (fun sv _ => M - (intOf sv).toNat)
    case atStart => exact ⟨0, by omega, rfl, Lib.hid (fun q h => absurd h (by omega)), B1⟩
    case round =>
      clear B1
      obtain ⟨s, hs, rfl, HN, BW⟩ := hrel
      have hbs := BW.out.size
      by_cases hlt : s < M
      rotate_left
      · obtain rfl : s = M := by omega
        have R2 := Lib.hid (show castR (shortSet ls ps) = ([], false) by rw [R.out, first_none _ HN.out]; rfl)
        have O0 := Lib.hid (ownI_empty wr w.heap.size wr.heap.size #[] rfl hbs rfl)
        have B0 := Lib.hid (BW.out.alloc hbs (.cells #[] 3))
        clear R HN
        go_wp2
        go_ret2
        exact ⟨_, by rw [R2.out]; try rfl, by rw [R2.out]; exact O0.out, B0.out⟩
      have hs0 : (0 : Int) ≤ (s : Int) := by omega
      have hs1 : (s : Int) < (M : Int) := by omega
      have SA := Lib.hid (show shortAt ls ps s = if isShort ls (partOf ps s) = true then some (partOf ps s) else none from rfl)
      have pl := partOf_len ps s
      have CP2 := Lib.hid (CP.out s wr (P.out.below BW.out) (by omega))
      clear CP
      go_wp2_with fail
      refine CP2.out.mono ?_
      rintro e w2 ⟨v2, rfl, o2, b2⟩
      obtain ⟨A3, c3, rfl⟩ := o2.slice
      have C3 := Lib.hid (CS.out w2 ((O.out.below BW.out).below b2) _ _ _ o2 (by omega))
      have O2 := Lib.hid (o2.mono hbs)
      have B2 := Lib.hid (BW.out.trans (b2.mono hbs))
      clear o2 b2 CP2
      cases hsh : isShort ls (partOf ps s) with
      | false =>
        rw [hsh, if_neg (by simp)] at SA
        rw [hsh] at C3
        have HN2 := Lib.hid (show ∀ q, q < s + 1 → shortAt ls ps q = none from fun q hq => by
          rcases (by omega : q < s ∨ q = s) with c | rfl
          · exact HN.out q c
          · exact SA.out)
        clear HN SA hsh
        go_wp2_with fail
        refine C3.out.mono ?_
        rintro e w3 ⟨rfl, b3⟩
        have B3 := Lib.hid (B2.out.trans (b3.mono B2.out.size))
        clear b3
        go_wp2
        exact ⟨⟨s + 1, by omega, by go_num, HN2, B3⟩, by simp [intOf]; omega⟩
      | true =>
        rw [hsh, if_pos rfl] at SA
        rw [hsh] at C3
        have R2 := Lib.hid (show castR (shortSet ls ps) = (partOf ps s, true) by rw [R.out, first_some HN.out SA.out M hlt]; rfl)
        clear HN SA hsh R
        go_wp2_with fail
        refine C3.out.mono ?_
        rintro e w3 ⟨rfl, b3⟩
        have B3 := Lib.hid (B2.out.trans (b3.mono B2.out.size))
        have O3 := Lib.hid (O2.out.below b3)
        clear b3
        go_wp2
        go_ret2
        exact ⟨_, by rw [R2.out]; try rfl, by rw [R2.out]; exact O3.out, B3.out⟩

set_option maxRecDepth 100000 in
set_option maxHeartbeats 1600000 in
theorem specMos (v : Value) (ls : List RPlayer) (b : Nat) (w : World) (h : OwnPlayer w b v ls) (hl : ls.length ≤ 2000000) (hr : ∀ k (hk : k < ls.length), ls[k].f0.length ≤ 2000000) (u : Value) (ps : List Int) (b2 : Nat) (h2 : OwnI w b2 u ps) (hp : ps.length ≤ 2000000) :
    Calls Try.prog 30 #[v, u] w fun e w' => e = .returned (.int .i64 (mostCast ls ps)) ∧ Below w.heap.size w w' := by
  have CK := Lib.hid (specHok v ls b w h hl hr u ps b2 h2 hp)
  have CF := Lib.hid (fun W h vp zs b3 h3 hz => specFst v ls b W h hl hr vp zs b3 h3 hz)
  obtain ⟨A, c, rfl⟩ := h.slice
  obtain ⟨A2, c2, rfl⟩ := h2.slice
  have O := Lib.hid h
  have P := Lib.hid h2
  clear h h2 hr
  cases hok : proofOk ls ps with
  | false =>
    have R := Lib.hid (show mostCast ls ps = -1 by unfold mostCast; rw [hok]; rfl)
    rw [hok] at CK
    go_enter Try.func30, Try.ntmps30
    go_wp2_with fail
    refine CK.out.mono ?_
    rintro e w1 ⟨rfl, b1⟩
    have B1 := Lib.hid b1
    clear b1
    go_wp2
    go_ret
    exact ⟨by rw [R.out]; try rfl, B1.out⟩
  | true =>
    have hp7 := proof_len hok
    obtain ⟨M, hM⟩ : ∃ M, 1 <<< ps.length = M := ⟨_, rfl⟩
    have hM2 := (pow_small hp7).2
    obtain ⟨e1, e2, e3, e4⟩ := shl_len hp7
    rw [hM] at hM2 e1 e2 e3 e4
    have R := Lib.hid (show mostCast ls ps = (mostTo ls ps M : Int) by unfold mostCast; rw [if_pos hok, hM])
    have CP := Lib.hid (fun s W h hs => specPar (.slice A2 ps.length c2) ps s b2 W h (by omega) hs)
    have ML := Lib.hid (most_le ls ps)
    rw [hok] at CK
    clear hok hM
    go_enter Try.func30, Try.ntmps30
    go_wp2_with fail
    refine CK.out.mono ?_
    rintro e w1 ⟨rfl, b1⟩
    have B1 := Lib.hid b1
    clear b1 CK
    go_wp2_with fail
    go_loopw [5, 6] (fun bv sv wr => ∃ s : Nat, s ≤ M ∧ bv = .int .i64 (mostTo ls ps s : Int) ∧ sv = .int .i64 (s : Int) ∧ Hid (Below w.heap.size w wr)) (fun _ sv _ => M - (intOf sv).toNat)
    case atStart => exact ⟨0, by omega, rfl, rfl, B1⟩
    case round =>
      clear B1
      obtain ⟨s, hs, rfl, rfl, BW⟩ := hrel
      have hbs := BW.out.size
      by_cases hlt : s < M
      rotate_left
      · obtain rfl : s = M := by omega
        go_wp2
        go_ret
        exact ⟨by rw [R.out]; try rfl, BW.out⟩
      have hs0 : (0 : Int) ≤ (s : Int) := by omega
      have hs1 : (s : Int) < (M : Int) := by omega
      have NX := Lib.hid (show mostTo ls ps (s + 1) = if (partOf ps s).length ≤ mostTo ls ps s then mostTo ls ps s else if (castR (firstCast ls (partOf ps s))).2 = true then (partOf ps s).length else mostTo ls ps s from rfl)
      have ml := ML.out s
      have pl := partOf_len ps s
      have CP2 := Lib.hid (CP.out s wr (P.out.below BW.out) (by omega))
      generalize mostTo ls ps s = m at ml NX ⊢
      clear CP
      go_wp2_with fail
      refine CP2.out.mono ?_
      rintro e w2 ⟨v2, rfl, o2, b2⟩
      obtain ⟨A3, c3, rfl⟩ := o2.slice
      have C3 := Lib.hid (CF.out w2 ((O.out.below BW.out).below b2) _ _ _ o2 (by omega))
      have B2 := Lib.hid (BW.out.trans (b2.mono hbs))
      clear o2 b2 CP2
      generalize (partOf ps s).length = n at NX C3 pl
      by_cases hle : n ≤ m
      · rw [if_pos hle] at NX
        have hle2 : (n : Int) ≤ (m : Int) := by omega
        clear C3
        go_wp2
        exact ⟨⟨s + 1, by omega, by rw [NX.out], by go_num, B2⟩, by simp [intOf]; omega⟩
      · rw [if_neg hle] at NX
        have hle2 : (m : Int) < (n : Int) := by omega
        generalize castR (firstCast ls (partOf ps s)) = r at NX C3
        obtain ⟨rx, rb⟩ := r
        cases rb with
        | false =>
          rw [if_neg (by simp)] at NX
          go_wp2_with fail
          refine C3.out.mono ?_
          rintro e w3 ⟨v3, rfl, o3, b3⟩
          have B3 := Lib.hid (B2.out.trans (b3.mono B2.out.size))
          clear b3 o3
          go_wp2
          exact ⟨⟨s + 1, by omega, by rw [NX.out], by go_num, B3⟩, by simp [intOf]; omega⟩
        | true =>
          rw [if_pos rfl] at NX
          go_wp2_with fail
          refine C3.out.mono ?_
          rintro e w3 ⟨v3, rfl, o3, b3⟩
          have B3 := Lib.hid (B2.out.trans (b3.mono B2.out.size))
          clear b3 o3
          go_wp2
          exact ⟨⟨s + 1, by omega, by rw [NX.out], by go_num, B3⟩, by simp [intOf]; omega⟩

set_option maxRecDepth 100000 in
set_option maxHeartbeats 1600000 in
theorem specLac (v : Value) (ls : List RPlayer) (b : Nat) (w : World) (h : OwnPlayer w b v ls) (hl : ls.length ≤ 2000000) (hr : ∀ k (hk : k < ls.length), ls[k].f0.length ≤ 2000000) (u : Value) (ps : List Int) (b2 : Nat) (h2 : OwnI w b2 u ps) (hp : ps.length ≤ 2000000) :
    Calls Try.prog 31 #[v, u] w fun e w' => e = .returned (.int .i64 (lackOf ls ps)) ∧ Below w.heap.size w w' := by
  have CK := Lib.hid (specHok v ls b w h hl hr u ps b2 h2 hp)
  have CF := Lib.hid (fun W h vp zs b3 h3 hz => specHan v ls b W h hl hr vp zs b3 h3 hz)
  obtain ⟨A, c, rfl⟩ := h.slice
  obtain ⟨A2, c2, rfl⟩ := h2.slice
  have O := Lib.hid h
  have P := Lib.hid h2
  clear h h2 hr
  cases hok : proofOk ls ps with
  | false =>
    have R := Lib.hid (show lackOf ls ps = -1 by unfold lackOf; rw [hok]; rfl)
    rw [hok] at CK
    go_enter Try.func31, Try.ntmps31
    go_wp2_with fail
    refine CK.out.mono ?_
    rintro e w1 ⟨rfl, b1⟩
    have B1 := Lib.hid b1
    clear b1
    go_wp2
    go_ret
    exact ⟨by rw [R.out]; try rfl, B1.out⟩
  | true =>
    have hp7 := proof_len hok
    obtain ⟨M, hM⟩ : ∃ M, 1 <<< ps.length = M := ⟨_, rfl⟩
    have hM2 := (pow_small hp7).2
    obtain ⟨e1, e2, e3, e4⟩ := shl_len hp7
    rw [hM] at hM2 e1 e2 e3 e4
    have R := Lib.hid (show lackOf ls ps = lackTo ls ps M by unfold lackOf; rw [if_pos hok, hM])
    have CP := Lib.hid (fun s W h hs => specPar (.slice A2 ps.length c2) ps s b2 W h (by omega) hs)
    have ML := Lib.hid (lack_small ls ps)
    rw [hok] at CK
    clear hok hM
    go_enter Try.func31, Try.ntmps31
    go_wp2_with fail
    refine CK.out.mono ?_
    rintro e w1 ⟨rfl, b1⟩
    have B1 := Lib.hid b1
    clear b1 CK
    go_wp2_with fail
    go_loopw [5, 6] (fun bv sv wr => ∃ s : Nat, s ≤ M ∧ bv = .int .i64 (lackTo ls ps s) ∧ sv = .int .i64 (s : Int) ∧ Hid (Below w.heap.size w wr)) (fun _ sv _ => M - (intOf sv).toNat)
    case atStart => exact ⟨0, by omega, rfl, rfl, B1⟩
    case round =>
      clear B1
      obtain ⟨s, hs, rfl, rfl, BW⟩ := hrel
      have hbs := BW.out.size
      by_cases hlt : s < M
      rotate_left
      · obtain rfl : s = M := by omega
        go_wp2
        go_ret
        exact ⟨by rw [R.out]; try rfl, BW.out⟩
      have hs0 : (0 : Int) ≤ (s : Int) := by omega
      have hs1 : (s : Int) < (M : Int) := by omega
      have NX := Lib.hid (show lackTo ls ps (s + 1) = if lackTo ls ps s < ((partOf ps s).length : Int) - handsFor ls (partOf ps s) then ((partOf ps s).length : Int) - handsFor ls (partOf ps s) else lackTo ls ps s from rfl)
      have ml := ML.out s
      have pl := partOf_len ps s
      have hf := handsFor_small ls (partOf ps s)
      have CP2 := Lib.hid (CP.out s wr (P.out.below BW.out) (by omega))
      generalize lackTo ls ps s = m at ml NX ⊢
      clear CP
      go_wp2_with fail
      refine CP2.out.mono ?_
      rintro e w2 ⟨v2, rfl, o2, b2⟩
      obtain ⟨A3, c3, rfl⟩ := o2.slice
      have C3 := Lib.hid (CF.out w2 ((O.out.below BW.out).below b2) _ _ _ o2 (by omega))
      have B2 := Lib.hid (BW.out.trans (b2.mono hbs))
      clear o2 b2 CP2
      generalize handsFor ls (partOf ps s) = hh at NX C3 hf
      generalize (partOf ps s).length = n at NX C3 pl
      have ew : IntKind.i64.wrap ((n : Int) - hh) = (n : Int) - hh := IntWalk.i64_in _ (by omega)
      go_wp2_with fail
      refine C3.out.mono ?_
      rintro e w3 ⟨rfl, b3⟩
      have B3 := Lib.hid (B2.out.trans (b3.mono B2.out.size))
      clear b3
      go_wp2
      exact ⟨⟨s + 1, by omega, by rw [NX.out], by go_num, B3⟩, by simp [intOf]; omega⟩
end Go.Proofs.Ytjpalndcfaeihaa
