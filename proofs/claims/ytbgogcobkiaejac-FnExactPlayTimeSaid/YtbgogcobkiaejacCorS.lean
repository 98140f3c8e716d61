/- The contract of spec.CueOrder. Condition: the cues lie in a row of their own. -/
import Derived.Test.YtbgogcobkiaejacCocS
import Derived.Test.YtbgogcobkiaejacPk3
namespace Go.Proofs.Ytbgogcobkiaejac
set_option linter.unusedVariables false
set_option linter.unusedSimpArgs false
open Go.RowKit

def lenC : Value → Nat
  | .slice _ n _ => n
  | _ => 0

set_option maxRecDepth 100000 in
set_option maxHeartbeats 3200000 in
theorem specOrd (v : Value) (ls : List RCue) (b : Nat) (w : World) (h : OwnCue w b v ls) (hl : bulkCue ls ≤ 1048576) :
    Calls Try.prog 51 #[v] w (IntsPost w (cueOrder ls)) := by
  have CK := Lib.hid (fun W h => specCOk v ls b W h hl)
  have CW := Lib.hid (fun hn W h => specWaits v ls b W h hn hl)
  obtain ⟨A, c, rfl⟩ := h.slice
  have O := Lib.hid h
  clear h
  have E0 := Lib.hid (ownI_empty w w.heap.size w.heap.size #[] rfl (Nat.le_refl _) rfl)
  have B0 := Lib.hid ((Below.refl w.heap.size w).alloc (Nat.le_refl _) (.cells #[] 3))
  have OA := Lib.hid (O.out.alloc (.cells #[] 3))
  have hbl := bulkCue_len ls
  cases hok : cuesOk ls with
  | false =>
    have R := Lib.hid (show cueOrder ls = [] by unfold cueOrder; rw [hok]; rfl)
    rw [hok] at CK
    clear hok
    go_enter Try.func51, Try.ntmps51
    go_wp2_with fail
    refine (CK.out _ OA.out).mono ?_
    rintro e w1 ⟨rfl, b1⟩
    have B1 := Lib.hid (B0.out.trans (b1.mono B0.out.size))
    have E1 := Lib.hid (E0.out.below b1)
    clear b1
    go_wp2
    go_ret
    exact ⟨_, rfl, by rw [R.out]; exact E1.out, B1.out⟩
  | true =>
    have hn := (cuesOk_has hok).1.2
    have R := Lib.hid (show cueOrder ls = (ordTo (waitSet ls) ls.length ls.length).1 by unfold cueOrder; rw [if_pos hok])
    have PR := Lib.hid (fun m hm => ord_at hok m hm)
    rw [hok] at CK
    have PS := Lib.hid (fun k (hk : k < ls.length) => (show (waitSet ls).getD k 0 < 4096 by have := close_lt ls (m := ls.length) (Nat.le_refl _) hk; have := pow_small hn; unfold waitSet; omega))
    have WL := Lib.hid (show (natI (waitSet ls)).length = ls.length by rw [natI_len, waitSet_len])
    have WA := Lib.hid (fun k (hk : k < ls.length) => (show (natI (waitSet ls))[k]'(by rw [natI_len, waitSet_len]; exact hk) = (((waitSet ls).getD k 0 : Nat) : Int) from natI_at _ (by rw [waitSet_len]; exact hk)))
    have OL := Lib.hid (fun m => ord_len (waitSet ls) ls.length m)
    have OM := Lib.hid (fun m => (show ordTo (waitSet ls) ls.length (m + 1) = ((ordTo (waitSet ls) ls.length m).1 ++ [nextTo (waitSet ls) (ordTo (waitSet ls) ls.length m).2 ls.length], (ordTo (waitSet ls) ls.length m).2 ||| 1 <<< (nextTo (waitSet ls) (ordTo (waitSet ls) ls.length m).2 ls.length).toNat) from rfl))
    have PW := Lib.hid (pow_small hn)
    clear hok
    go_enter Try.func51, Try.ntmps51
    go_wp2_with fail
    refine (CK.out _ OA.out).mono ?_
    rintro e w1 ⟨rfl, b1⟩
    have B1 := Lib.hid (B0.out.trans (b1.mono B0.out.size))
    have E1 := Lib.hid (E0.out.below b1)
    have O1 := Lib.hid (OA.out.below b1)
    have hs1 := b1.size
    simp only [World.size_alloc] at hs1
    clear b1 E0 B0 OA CK
    go_wp2_with fail
    refine (CW.out hn _ O1.out).mono ?_
    rintro e w2 ⟨vw, rfl, o2, b2⟩
    obtain ⟨W, cw, ew⟩ := o2.slice
    rw [WL.out] at ew
    subst ew
    have W2 := Lib.hid o2
    have E2 := Lib.hid (E1.out.below b2)
    have B2 := Lib.hid (B1.out.trans (b2.mono B1.out.size))
    have SEP := Lib.hid (fun q hq => (o2.lt q hq).1)
    have S0 := Lib.hid (show (Value.slice (some ⟨w.heap.size, 0, none⟩) 0 0).ownBlock = none ∨ (Value.slice (some ⟨w.heap.size, 0, none⟩) 0 0).ownBlock ≠ (Value.slice W ls.length cw).ownBlock from sep_of fun q e1 e2 => by have := SEP.out q e2; have e : w.heap.size = q := Option.some.inj e1; omega)
    clear o2 b2 E1 B1 O1 CW
    go_wp2_with fail
    go_loopw [3, 5] (fun ov dv wr => ∃ (m : Nat) (A2 : Option Addr) (c2 : Nat), ov = .slice A2 m c2 ∧ m ≤ ls.length ∧ dv = .int .i64 (((ordTo (waitSet ls) ls.length m).2 : Nat) : Int) ∧ Hid (OwnI wr w.heap.size (.slice A2 m c2) (ordTo (waitSet ls) ls.length m).1) ∧ Hid (OwnI wr w1.heap.size (.slice W ls.length cw) (natI (waitSet ls))) ∧ Hid ((Value.slice A2 m c2).ownBlock = none ∨ (Value.slice A2 m c2).ownBlock ≠ (Value.slice W ls.length cw).ownBlock) ∧ Hid (Below w.heap.size w wr)) (fun ov _ _ => ls.length - lenC ov)
    case atStart => exact ⟨0, _, _, rfl, by omega, rfl, E2, W2, S0, B2⟩
    case round =>
      clear E2 W2 S0 B2
      obtain ⟨m, A2, c2, rfl, hm, rfl, OO, OW, SE, BW⟩ := hrel
      by_cases hlt : m < ls.length
      rotate_left
      · obtain rfl : m = ls.length := by omega
        have F := Lib.hid (R.out ▸ OO.out)
        go_wp2
        go_ret
        exact ⟨_, rfl, F.out, BW.out⟩
      have hm1 : (m : Int) < (ls.length : Int) := by omega
      obtain ⟨P, hx⟩ := PR.out m (by omega)
      obtain ⟨p, hp, hnx, -⟩ := hx hlt
      have hdl : (ordTo (waitSet ls) ls.length m).2 < 4096 := by have := small_of P.low; have := PW.out; omega
      have NX := Lib.hid (show ordTo (waitSet ls) ls.length (m + 1) = ((ordTo (waitSet ls) ls.length m).1 ++ [(p : Int)], (ordTo (waitSet ls) ls.length m).2 ||| 1 <<< p) by rw [OM.out, hnx, Int.toNat_natCast])
      have HN := Lib.hid hnx
      have hol := OL.out m
      clear P hx hnx
      generalize (ordTo (waitSet ls) ls.length m).2 = D at HN NX hdl ⊢
      generalize (ordTo (waitSet ls) ls.length m).1 = us at OO NX hol
      go_wp2_with fail
      go_loopw [6, 7] (fun nv kv wx => wr = wx ∧ ∃ k : Nat, k ≤ ls.length ∧ kv = .int .i64 (k : Int) ∧ nv = .int .i64 (nextTo (waitSet ls) D k)) (fun _ kv _ => ls.length - (intOf kv).toNat)
      case atStart => exact ⟨rfl, 0, by omega, rfl, rfl⟩
      case round =>
        obtain ⟨rfl, k, hk, rfl, rfl⟩ := hrel
        by_cases hgo : k < ls.length ∧ nextTo (waitSet ls) D k < 0
        · obtain ⟨hlk, hneg⟩ := hgo
          have hk0 : (0 : Int) ≤ (k : Int) := by omega
          have hk1 : (k : Int) < (ls.length : Int) := by omega
          have NK := Lib.hid (show nextTo (waitSet ls) D (k + 1) = if freeB (waitSet ls) D k = true then (k : Int) else -1 by rw [nextTo, if_pos hneg])
          obtain ⟨gw, _, f1, -, -, z0, -⟩ := OW.out.spot (k := k) (by rw [WL.out]; exact hlk)
          simp only [Value.slice.injEq] at f1
          obtain ⟨rfl, -, -⟩ := f1
          rw [WA.out k hlk] at z0
          have hs := PS.out k hlk
          have ebit := bit_nat2 D k (by omega) (by omega)
          have eor := or_nat (s := (waitSet ls).getD k 0) (t := D) (by omega) (by omega)
          have FB := Lib.hid (show freeB (waitSet ls) D k = (!D.testBit k && decide ((waitSet ls).getD k 0 ||| D = D)) from rfl)
          generalize (waitSet ls).getD k 0 = s at z0 eor FB hs
          have hx1 : nextTo (waitSet ls) D k = -1 := by
            rcases next_cases (waitSet ls) D k with ⟨q, _⟩ | ⟨j, _, q, _⟩
            · exact q
            · omega
          rw [hx1]
          clear hx1 hneg
          by_cases cb : D.testBit k = true
          · rw [if_pos cb] at ebit
            have N2 := Lib.hid (show nextTo (waitSet ls) D (k + 1) = -1 by rw [NK.out, FB.out, cb]; rfl)
            clear NK FB cb eor
            go_wp2
            exact ⟨⟨by trivial, k + 1, by omega, by go_num, by rw [N2.out]⟩, by simp [intOf]; omega⟩
          · rw [if_neg cb] at ebit
            have cb : D.testBit k = false := by simpa using cb
            by_cases hq : s ||| D = D
            · have N2 := Lib.hid (show nextTo (waitSet ls) D (k + 1) = (k : Int) by rw [NK.out, FB.out, cb, decide_eq_true hq]; rfl)
              rw [hq] at eor
              clear NK FB cb hq
              go_wp2
              exact ⟨⟨by trivial, k + 1, by omega, by go_num, by rw [N2.out]⟩, by simp [intOf]; omega⟩
            · have N2 := Lib.hid (show nextTo (waitSet ls) D (k + 1) = -1 by rw [NK.out, FB.out, cb, decide_eq_false hq]; rfl)
              have hqb : (((s ||| D : Nat) : Int) == (D : Int)) = false := by simp; omega
              generalize s ||| D = st at eor hqb
              clear NK FB cb hq
              go_wp2
              exact ⟨⟨by trivial, k + 1, by omega, by go_num, by rw [N2.out]⟩, by simp [intOf]; omega⟩
        · have hnk : nextTo (waitSet ls) D k = (p : Int) := by
            rcases (by omega : k = ls.length ∨ 0 ≤ nextTo (waitSet ls) D k) with rfl | q
            · exact HN.out
            · rw [← next_stay (waitSet ls) D hk q]; exact HN.out
          rw [hnk]
          have hp0 : ¬ (p : Int) < 0 := by omega
          have hpn : (0 : Int) ≤ (p : Int) := by omega
          have esh := shl_nat64 p (by omega)
          have esm : wrap64 (2 ^ min p 64) = ((1 <<< p : Nat) : Int) := by rw [Nat.min_eq_left (by omega)]; exact esh
          have h1p : 1 <<< p < 4096 := by
            rw [Nat.shiftLeft_eq, Nat.one_mul]
            have q : 2 ^ p < 2 ^ 12 := Nat.pow_lt_pow_right (by omega) (by omega)
            omega
          have h1q : 1 <<< p < 2 ^ 62 := by
            clear esh esm
            generalize 1 <<< p = t at h1p ⊢
            omega
          have hdq : D < 2 ^ 62 := by
            clear esh esm h1q h1p
            omega
          have eor := or_nat (s := D) (t := 1 <<< p) hdq h1q
          have ON := Lib.hid (oneI wr wr.heap.size (p : Int) (Nat.le_refl _))
          have hbs := BW.out.size
          generalize 1 <<< p = t at esh esm eor NX
          generalize (D ||| t) = D2 at eor NX
          clear hnk HN hp h1p h1q hdq
          by_cases hlk : k < ls.length
          case' pos => have hk1 : (k : Int) < (ls.length : Int) := by omega
          case' neg => have hk1 : ¬ (k : Int) < (ls.length : Int) := by omega
          all_goals
            clear hgo hlk
            go_wp2_with (at_builtin; refine wpList_rowsI rfl (.tmp 46) (.tmp 48) rfl w.heap.size wr.heap.size _ _ us [(p : Int)] rfl rfl (OO.out.alloc _) ON.out ?_ ?_ ?_; (simp <;> omega); (simp <;> omega); intro v3 w3 o3 g3 hat3; have hol3 : (us ++ [(p : Int)]).length = m + 1 := by (rw [List.length_append, hol]; rfl))
            obtain ⟨A3, c3, e3⟩ := o3.slice
            rw [hol3] at e3
            have B3 := Lib.hid (madeR (BW.out.alloc hbs _) (by simp; omega) (OO.out.alloc _) g3)
            have O3 : Hid (OwnI w3 w.heap.size (.slice A3 (m + 1) c3) (ordTo (waitSet ls) ls.length (m + 1)).1) := Lib.hid (by rw [NX.out, ← e3]; exact o3)
            have W3 := Lib.hid ((OW.out.alloc _).kept g3 (sep_flip SE.out))
            have S3 : Hid ((Value.slice A3 (m + 1) c3).ownBlock = none ∨ (Value.slice A3 (m + 1) c3).ownBlock ≠ (Value.slice W ls.length cw).ownBlock) := Lib.hid (by
              rw [← e3]
              rcases hat3 with q | q
              · rw [q]; exact SE.out
              · rw [q]; exact sep_of fun x e1 e2 => by have := (OW.out.lt x e2).2; have := Option.some.inj e1; simp at this; omega)
            exact ⟨⟨m + 1, A3, c3, e3, by omega, by rw [NX.out], O3, W3, S3, B3⟩, by rw [e3]; simp [lenC]; omega⟩
end Go.Proofs.Ytbgogcobkiaejac
