/- Texts of this seat laid together, each with its own first sentence below: CgsS CstS FewS. -/
import Derived.Test.YtanlfkkmnnjpeaaPk2
import Derived.Test.YtanlfkkmnnjpeaaPk7
import Derived.Test.YtanlfkkmnnjpeaaPk6
import Derived.Test.YtanlfkkmnnjpeaaPk5
import Derived.Test.YtanlfkkmnnjpeaaPk4
import Derived.Deep.RegionHeld3
/- The contract of spec.CastingsOf. Condition: the players and the numbers lie in rows of their own. -/
namespace Go.Proofs.Ytanlfkkmnnjpeaa
set_option linter.unusedVariables false
set_option linter.unusedSimpArgs false
open Go.RowKit

/-- The last j digits of x. -/
def digT (b : Nat) : Nat → Nat → List Int
  | 0, _ => []
  | j + 1, x => ((x / b ^ j % b : Nat) : Int) :: digT b j x
theorem digT_len (b : Nat) : ∀ j x, (digT b j x).length = j := by
  intro j
  induction j with
  | zero => intro _; rfl
  | succ j ih => intro x; rw [digT, List.length_cons, ih]
theorem dig_split (b : Nat) (x : Nat) : ∀ j m, dig b (m + j) x = dig b m (x / b ^ j) ++ digT b j x := by
  intro j
  induction j with
  | zero => intro m; simp [digT]
  | succ j ih =>
    intro m
    rw [show m + (j + 1) = (m + 1) + j by omega, ih (m + 1), dig, Nat.div_div_eq_div_mul, ← Nat.pow_succ, digT, List.append_assoc]
    rfl
theorem dig_all (b n x : Nat) : dig b n x = digT b n x := by
  have h := dig_split b x n 0
  rw [Nat.zero_add] at h
  rw [h, dig]
  rfl
/-- The row with the last j digits written. -/
def fillTo (b n x j : Nat) : List Int := List.replicate (n - j) 0 ++ digT b j x
theorem fill_len {b n x j : Nat} (h : j ≤ n) : (fillTo b n x j).length = n := by
  unfold fillTo
  rw [List.length_append, List.length_replicate, digT_len]
  omega
theorem fill_next {b n x j : Nat} (h : j < n) : (fillTo b n x j).set (n - 1 - j) ((x / b ^ j % b : Nat) : Int) = fillTo b n x (j + 1) := by
  unfold fillTo
  obtain ⟨m, hm⟩ : ∃ m, n - j = m + 1 := ⟨n - j - 1, by omega⟩
  rw [show n - (j + 1) = m by omega, hm, show n - 1 - j = m by omega, digT, List.replicate_succ', List.append_assoc, List.set_append_right _ _ (by rw [List.length_replicate]; exact Nat.le_refl _), List.length_replicate, Nat.sub_self]
  rfl
theorem fill_zero (b n x : Nat) : fillTo b n x 0 = List.replicate n 0 := by simp [fillTo, digT]
theorem fill_all (b n x : Nat) : fillTo b n x n = dig b n x := by rw [dig_all]; simp [fillTo]
theorem pow_max {b k : Nat} (hb : b ≤ 6) (hk : k ≤ 4) : b ^ k ≤ 1296 :=
  Nat.le_trans (Nat.pow_le_pow_left hb k) (Nat.le_trans (Nat.pow_le_pow_right (by omega) hk) (by decide))

set_option maxRecDepth 100000 in
set_option maxHeartbeats 3200000 in
theorem specCgs (v : Value) (ls : List RPlayer) (b : Nat) (w : World) (h : OwnPlayer w b v ls) (hl : ls.length ≤ 2000000) (hr : ∀ k (hk : k < ls.length), ls[k].f0.length ≤ 2000000) (u : Value) (ps : List Int) (b2 : Nat) (h2 : OwnI w b2 u ps) (hp : ps.length ≤ 2000000) :
    Calls Try.prog 28 #[v, u] w (RowsPost w (castingsOf ls ps)) := by
  obtain ⟨i0, hi0, hz0, hz1, hz2⟩ := info_parts info_int
  have CK := Lib.hid (fun W h h2 => specHok v ls b W h hl hr u ps b2 h2 hp)
  have CC := Lib.hid (fun W h h2 x cs b3 h3 hc => specCas v ls b W h hl hr u ps b2 h2 hp x cs b3 h3 hc)
  obtain ⟨A, c, rfl⟩ := h.slice
  obtain ⟨D, d, rfl⟩ := h2.slice
  have O := Lib.hid h
  have P := Lib.hid h2
  have OA := Lib.hid (h.alloc (.cells #[] 33))
  have PA := Lib.hid (h2.alloc (.cells #[] 33))
  have E0 := Lib.hid (emptyR w w.heap.size w.heap.size #[] rfl (Nat.le_refl _) rfl)
  have B0 := Lib.hid ((Below.refl w.heap.size w).alloc (Nat.le_refl _) (.cells #[] 33))
  clear h h2 hr
  cases hok : proofOk ls ps with
  | false =>
    have R := Lib.hid (show castingsOf ls ps = [] by unfold castingsOf; rw [hok]; rfl)
    rw [hok] at CK
    clear hok
    go_enter Try.func28, Try.ntmps28
    go_wp2_with fail
    refine (CK.out _ OA.out PA.out).mono ?_
    rintro e w1 ⟨rfl, b1⟩
    have E1 := Lib.hid (E0.out.below b1)
    have B1 := Lib.hid (B0.out.trans (b1.mono B0.out.size))
    clear b1
    go_wp2
    go_ret
    exact ⟨_, rfl, by rw [R.out]; exact E1.out, B1.out⟩
  | true =>
  have hkk : playersOk ls = true ∧ rising ps 6 = true := by unfold proofOk at hok; rwa [Bool.and_eq_true] at hok
  have hn := (playersOk_has hkk.1).1
  rw [hok] at CK
  by_cases h4 : ps.length ≤ 4
  rotate_left
  · have R := Lib.hid (show castingsOf ls ps = [] by unfold castingsOf; rw [decide_eq_false h4, Bool.and_false]; rfl)
    have h5 : (4 : Int) < (ps.length : Int) := by omega
    clear hok hkk h4
    go_enter Try.func28, Try.ntmps28
    go_wp2_with fail
    refine (CK.out _ OA.out PA.out).mono ?_
    rintro e w1 ⟨rfl, b1⟩
    have E1 := Lib.hid (E0.out.below b1)
    have B1 := Lib.hid (B0.out.trans (b1.mono B0.out.size))
    clear b1
    go_wp2
    go_ret
    exact ⟨_, rfl, by rw [R.out]; exact E1.out, B1.out⟩
  have h5 : ¬ (4 : Int) < (ps.length : Int) := by omega
  obtain ⟨f, hf⟩ : ∃ f : Nat → Option (List Int), f = fun x => castOr ls ps (dig ls.length ps.length x) := ⟨_, rfl⟩
  have R := Lib.hid (show castingsOf ls ps = castsTo f (ls.length ^ ps.length) by unfold castingsOf; rw [hok, decide_eq_true h4, hf]; rfl)
  have FX := Lib.hid (fun x => (show castsTo f (x + 1) = if isCasting ls ps (dig ls.length ps.length x) = true then castsTo f x ++ [dig ls.length ps.length x] else castsTo f x by
    rw [castsTo, hf]
    show (match castOr ls ps (dig ls.length ps.length x) with | some c => _ | none => _) = _
    unfold castOr
    split
    · next h => split at h
                · next q => rw [if_pos q, ← Option.some.inj h]
                · cases h
    · next h => split at h
                · cases h
                · next q => rw [if_neg q]))
  have FL := Lib.hid (fun x => casts_len f x)
  have PW := Lib.hid (fun k (hk : k ≤ ps.length) => pow_max hn.2 (show k ≤ 4 by omega))
  have PS := Lib.hid (fun k => (show ls.length ^ (k + 1) = ls.length ^ k * ls.length from Nat.pow_succ ..))
  clear hok hkk h4 hf
  go_enter Try.func28, Try.ntmps28
  go_wp2_with fail
  refine (CK.out _ OA.out PA.out).mono ?_
  rintro e w1 ⟨rfl, b1⟩
  have E1 := Lib.hid (E0.out.below b1)
  have B1 := Lib.hid (B0.out.trans (b1.mono B0.out.size))
  clear b1 E0 B0 CK OA PA
  go_wp2_with fail
  go_loopw [6, 7] (fun tv kv wr => w1 = wr ∧ ∃ k : Nat, k ≤ ps.length ∧ tv = .int .i64 ((ls.length ^ k : Nat) : Int) ∧ kv = .int .i64 (k : Int)) (fun _ kv _ => ps.length - (intOf kv).toNat)
  case atStart => exact ⟨rfl, 0, by omega, by rfl, rfl⟩
  case round =>
    obtain ⟨rfl, k, hk, rfl, rfl⟩ := hrel
    by_cases hlt : k < ps.length
    · have hk1 : (k : Int) < (ps.length : Int) := by omega
      have hp1 := PW.out (k + 1) (by omega)
      have ep := PS.out k
      obtain ⟨T2, hT2⟩ : ∃ T2, ls.length ^ (k + 1) = T2 := ⟨_, rfl⟩
      rw [hT2] at hp1 ep
      have HT2 := Lib.hid hT2
      clear hT2
      generalize ls.length ^ k = T1 at ep ⊢
      have ew : IntKind.i64.wrap ((T1 : Int) * (ls.length : Int)) = (T2 : Int) := by
        rw [show (T1 : Int) * (ls.length : Int) = (T2 : Int) by rw [ep]; push_cast; rfl]
        exact IntWalk.i64_in _ (by omega)
      clear ep
      go_wp2
      exact ⟨⟨trivial, k + 1, by omega, by rw [HT2.out], by go_num⟩, by simp [intOf]; omega⟩
    obtain rfl : k = ps.length := by omega
    have hT := PW.out ps.length (Nat.le_refl _)
    generalize ls.length ^ ps.length = T at hT R
    go_wp2_with fail
    have NF := Lib.hid (fun j (h : j ≤ ps.length) x => fill_len (b := ls.length) (n := ps.length) (x := x) h)
    have FN := Lib.hid (fun j (h : j < ps.length) x => fill_next (b := ls.length) (n := ps.length) (x := x) h)
    have F0 := Lib.hid (fun x => fill_zero ls.length ps.length x)
    have FA := Lib.hid (fun x => fill_all ls.length ps.length x)
    have DV := Lib.hid (fun x j => (show x / ls.length ^ (j + 1) = x / ls.length ^ j / ls.length by rw [Nat.pow_succ, Nat.div_div_eq_div_mul]))
    have DL := Lib.hid (fun x j => (Nat.div_le_self x (ls.length ^ j)))
    go_loopw [5, 8] (fun ov xv wr => ∃ (x : Nat) (vo : Value), vo = ov ∧ x ≤ T ∧ xv = .int .i64 (x : Int) ∧ Hid (OwnR wr w.heap.size vo (castsTo f x)) ∧ Hid (Below w.heap.size w wr)) (fun _ xv _ => T - (intOf xv).toNat)
    case atStart => exact ⟨0, _, rfl, by omega, rfl, E1, B1⟩
    case round =>
      clear E1 B1
      obtain ⟨x, vo, rfl, hx, rfl, OO, BW⟩ := hrel
      by_cases hxt : x < T
      rotate_left
      · obtain rfl : x = T := by omega
        have F := Lib.hid (R.out ▸ OO.out)
        go_wp2
        go_ret
        exact ⟨_, rfl, F.out, BW.out⟩
      obtain ⟨w2, rfl⟩ : ∃ w2, w2 = wr := ⟨wr, rfl⟩
      have hx1 : (x : Int) < (T : Int) := by omega
      have en : IntKind.i64.wrap ((ps.length : Int) - 1) = (ps.length : Int) - 1 := IntWalk.i64_in _ (by omega)
      have hbs := BW.out.size
      go_wp2_with (
        refine wpList_make_full _ rfl _ _ 33 rfl w2.heap.size 3 i0 (.int .i64 0) 1 Try.underlying33 hi0 hz0 hz1 .i64 .i64 _ _ ps.length rfl rfl rfl rfl (by rw [hz2]; omega) (by simp only [maxLen]; omega) (by simp) ?_
        intro w3 own3 grown3
        have O3 := Lib.hid (F0.out x ▸ madeZero own3)
        have B3 := Lib.hid (below_of_grown grown3)
        clear own3 grown3)
      go_loopw [10, 11] (fun rv kv wx => ∃ j : Nat, j ≤ ps.length ∧ rv = .int .i64 ((x / ls.length ^ j : Nat) : Int) ∧ kv = .int .i64 ((ps.length : Int) - 1 - (j : Int)) ∧ Hid (OwnI wx w2.heap.size (.slice (some ⟨w2.heap.size, 0, none⟩) ps.length ps.length) (fillTo ls.length ps.length x j)) ∧ Hid (Below w2.heap.size w2 wx)) (fun _ kv _ => (intOf kv + 1).toNat)
      case atStart => exact ⟨0, by omega, by simp, by simp, O3, B3⟩
      case round =>
        clear O3 B3
        obtain ⟨j, hj, rfl, rfl, OC, BX⟩ := hrel
        have BZ := Lib.hid (BW.out.trans (BX.out.mono BW.out.size))
        by_cases hlj : j < ps.length
        rotate_left
        · obtain rfl : j = ps.length := by omega
          have hng : ¬ (0 : Int) ≤ (ps.length : Int) - 1 - (ps.length : Int) := by omega
          have hkm : (ps.length : Int) - 1 - (ps.length : Int) = -1 := by omega
          rw [hkm]
          have CE := Lib.hid (FA.out x ▸ OC.out)
          have NX := Lib.hid (FX.out x)
          have CL := Lib.hid (NF.out ps.length (Nat.le_refl _) x)
          rw [FA.out x] at CL
          have hfl := FL.out x
          clear hng hkm OC
          generalize dig ls.length ps.length x = cs at CE NX CL
          have hcs : cs.length ≤ 2000000 := by have := CL.out; omega
          have CX := Lib.hid (CC.out wr (O.out.below BZ.out) (P.out.below BZ.out) _ cs _ (by have h := CE.out; exact h) hcs)
          have HW := Lib.hid (BX.out.size)
          cases hq : isCasting ls ps cs with
          | false =>
            have N2 := Lib.hid (show castsTo f (x + 1) = castsTo f x by rw [NX.out, hq]; rfl)
            rw [hq] at CX
            clear hq NX hfl hcs
            go_wp2_with fail
            refine CX.out.mono ?_
            rintro e w4 ⟨rfl, b4⟩
            have B4 := Lib.hid (BX.out.trans (b4.mono BX.out.size))
            have O4 := Lib.hid (OO.out.below B4.out)
            have B5 := Lib.hid (BZ.out.trans (b4.mono BZ.out.size))
            clear b4 OO BX BZ BW
            go_wp2
            exact ⟨⟨x + 1, vo, rfl, by omega, by go_num, Lib.hid (by rw [N2.out]; exact O4.out), B5⟩, by simp [intOf]; omega⟩
          | true =>
            have N2 := Lib.hid (show castsTo f (x + 1) = castsTo f x ++ [cs] by rw [NX.out, hq]; rfl)
            rw [hq] at CX
            clear hq NX hcs
            go_wp2_with fail
            refine CX.out.mono ?_
            rintro e w4 ⟨rfl, b4⟩
            have B4 := Lib.hid (BX.out.trans (b4.mono BX.out.size))
            have C4 := Lib.hid (CE.out.below b4)
            have B5 := Lib.hid (BZ.out.trans (b4.mono BZ.out.size))
            have hs4 := B5.out.size
            clear b4 BX BZ CE CX
            generalize hV : (Value.slice (some ⟨w2.heap.size, 0, none⟩) ps.length ps.length) = cv at C4
            have OR := Lib.hid (oneRow w4 cv w4.heap.size (Nat.le_refl _))
            subst hV
            go_wp2_with (at_builtin; refine wpList_rowR rfl (.tmp 64) (.tmp 66) rfl w2 w.heap.size w4.heap.size _ _ (Value.slice (some ⟨w2.heap.size, 0, none⟩) ps.length ps.length) (castsTo f x) cs rfl rfl OO.out (B4.out.alloc B4.out.size _) (C4.out.alloc _) hbs OR.out (by omega) ?_; intro v5 w5 o5 g5 hat5)
            have B6 := Lib.hid ((B5.out.alloc hs4 _).grown g5 (by simp; omega) (fun q hq => (OO.out.lt q hq).1))
            have O6 : Hid (OwnR w5 w.heap.size v5 (castsTo f (x + 1))) := Lib.hid (N2.out ▸ o5)
            exact ⟨⟨x + 1, v5, rfl, by omega, by go_num, O6, B6⟩, by simp [intOf] <;> omega⟩
        have hk0 : (0 : Int) ≤ (ps.length : Int) - 1 - (j : Int) := by omega
        obtain ⟨i, hi⟩ : ∃ i : Nat, i = ps.length - 1 - j := ⟨_, rfl⟩
        have hii : (ps.length : Int) - 1 - (j : Int) = (i : Int) := by omega
        have hil : i < ps.length := by omega
        rw [hii]
        have hi0_ : (0 : Int) ≤ (i : Int) := by omega
        have hi1_ : (i : Int) < (ps.length : Int) := by omega
        have hlen := NF.out j hj x
        obtain ⟨_, _, f1, -, -, z0, zf⟩ := OC.out.spot (k := i) (by rw [hlen]; exact hil)
        simp only [Value.slice.injEq, Option.some.injEq, Addr.mk.injEq] at f1
        obtain ⟨⟨rfl, _⟩, -, -⟩ := f1
        obtain ⟨z, hz⟩ : ∃ z, wr.cell? ⟨w2.heap.size, i, none⟩ = some z := ⟨_, z0⟩
        have SET := Lib.hid (OC.out.set hlen.symm i ((x / ls.length ^ j % ls.length : Nat) : Int))
        have N2 := Lib.hid (show (fillTo ls.length ps.length x j).set i ((x / ls.length ^ j % ls.length : Nat) : Int) = fillTo ls.length ps.length x (j + 1) by rw [hi]; exact FN.out j hlj x)
        have dv := DV.out x j
        have dl := DL.out x j
        have hne : ((ls.length : Int) == 0) = false := by rw [beq_eq_false_iff_ne]; omega
        have hne2 : ¬ (ls.length : Int) = 0 := by omega
        generalize x / ls.length ^ j = y at dv dl SET N2 ⊢
        have hdl := Nat.div_le_self y ls.length
        have hml := Nat.mod_lt y (show 0 < ls.length by omega)
        have em0 : (y : Int) % (ls.length : Int) = ((y % ls.length : Nat) : Int) := by push_cast; rfl
        have ed0 : (y : Int) / (ls.length : Int) = ((y / ls.length : Nat) : Int) := by push_cast; rfl
        generalize y / ls.length = yd at ed0 hdl dv ⊢
        generalize y % ls.length = ym at em0 hml SET N2 ⊢
        have ed : wrap64 (yd : Int) = (yd : Int) := by unfold wrap64; omega
        have em : wrap64 (ym : Int) = (ym : Int) := by unfold wrap64; omega
        have hdn : (ps.length : Int) - 1 - (j : Int) - 1 = (ps.length : Int) - 1 - ((j + 1 : Nat) : Int) := by omega
        have hdi : IntKind.i64.wrap ((i : Int) - 1) = (i : Int) - 1 := IntWalk.i64_in _ (by omega)
        have HI := Lib.hid (show (i : Int) - 1 = (ps.length : Int) - 1 - ((j + 1 : Nat) : Int) by omega)
        have BY := Lib.hid (BX.out.grown SET.out.2 BX.out.size (fun q hq => by have := Option.some.inj hq; omega))
        have S2 := Lib.hid (N2.out ▸ SET.out.1)
        have DQ := Lib.hid dv
        clear hi hii hdn dv dl hml hdl SET N2 OC BX BZ hlen z0
        go_wp2
        exact ⟨⟨j + 1, by omega, by rw [DQ.out, ed], by rw [HI.out], S2, BY⟩, by simp [intOf] <;> omega⟩
end Go.Proofs.Ytanlfkkmnnjpeaa

/- The contract of spec.l15Costs at valid players and a valid night. Condition: the players and the rows of numbers are the call's own. -/
namespace Go.Proofs.Ytanlfkkmnnjpeaa
set_option linter.unusedVariables false
set_option linter.unusedSimpArgs false
open Go.RowKit

set_option maxRecDepth 100000 in
set_option maxHeartbeats 6400000 in
theorem specCst (v : Value) (ls : List RPlayer) (b : Nat) (w : World) (h : OwnPlayer w b v ls) (u : Value) (nt : List (List Int)) (b2 : Nat) (h2 : OwnR w b2 u nt) (hok : nightOk ls nt = true) :
    Calls Try.prog 60 #[v, u] w (RowsPost w (costTab ls nt)) := by
  obtain ⟨i0, hi0, hz0, hz1, hz2⟩ := info_parts info_int
  obtain ⟨j0, hj0, jz0, jz1, jz2⟩ := info_parts info_ints
  obtain ⟨hpl, hn6, h4⟩ := nok_has hok
  have hn := (playersOk_has hpl).1
  have CG := Lib.hid (fun W h ps v2 b2 h2 (hp : ps.length ≤ 4) => specCgs v ls b W h (by omega) (fun k hk => by have := player_fine ((playersOk_has hpl).2 k hk); omega) v2 ps b2 h2 (by omega))
  obtain ⟨A, c, rfl⟩ := h.slice
  obtain ⟨D, d, rfl⟩ := h2.slice
  have O := Lib.hid h
  have N := Lib.hid h2
  have gR : ∀ (zss : List (List Int)) t (ht : t < zss.length), zss.getD t [] = zss[t] := fun zss t ht => by rw [List.getD_eq_getElem?_getD, List.getElem?_eq_getElem ht]; rfl
  have GR := Lib.hid gR
  have N4 := Lib.hid (fun m (hm : m < nt.length) => (show (nt.getD m []).length ≤ 4 by rw [gR nt m hm]; exact (h4 m hm).1))
  have TL := Lib.hid (fun j (h : j ≤ nt.length) => (tab_len h : (tabTo ls nt j).length = nt.length))
  have TN := Lib.hid (fun j (h : j < nt.length) => tab_next (ls := ls) h)
  have TA := Lib.hid (fun j m (h : nt.length - j ≤ m) (hm : m < nt.length) (hj : j ≤ nt.length) => tab_at (ls := ls) h hm hj)
  have T0 := Lib.hid (tab_zero (ls := ls) (nt := nt))
  have R := Lib.hid (show costTab ls nt = tabTo ls nt nt.length from rfl)
  have CL := Lib.hid (fun m (hm : m < nt.length) => (costAt_len ls hm))
  have CM := Lib.hid (fun m (hm : m < nt.length) k => cost_max hok hm k)
  have CN := Lib.hid (fun m (hm : m + 1 < nt.length) i hi => cost_next ls hm (i := i) hi)
  have CZ := Lib.hid (fun m (hm : m + 1 = nt.length) => (show costAt ls nt m = List.replicate (csM ls nt m).length 0 by
    refine List.ext_getElem (by rw [List.length_replicate]; exact costAt_len ls (by omega)) fun i h1 h2 => ?_
    have e := cost_last ls hm (i := i) (by rw [List.length_replicate] at h2; exact h2)
    rw [List.getD_eq_getElem?_getD, List.getElem?_eq_getElem h1] at e
    rw [List.getElem_replicate]
    exact e))
  have CF := Lib.hid (fun m (hm : m < nt.length) => (show (csM ls nt m).length ≤ 1296 from castings_few hpl (by rw [gR nt m hm]; exact (h4 m hm).1)))
  have CR := Lib.hid (fun m (hm : m < nt.length) k (hk : k < (csM ls nt m).length) => (show ((csM ls nt m).getD k []).length ≤ 4 by
    rw [gR _ k hk, castings_row (List.getElem_mem hk), gR nt m hm]; exact (h4 m hm).1))
  have BN := Lib.hid (fun (row : List Int) (d : List (List Int)) (ps c nx : List Int) k => (show bestK row d ps c nx (k + 1) = if row.getD k 0 < 0 then bestK row d ps c nx k else if bestK row d ps c nx k < 0 ∨ row.getD k 0 + changesB ps c nx (d.getD k []) < bestK row d ps c nx k then row.getD k 0 + changesB ps c nx (d.getD k []) else bestK row d ps c nx k from rfl))
  clear h h2 hok hpl h4 hn gR
  go_enter Try.func60, Try.ntmps60
  go_wp2_with (
    refine wpList_make_full _ rfl _ _ 25 rfl w.heap.size 33 j0 (.slice none 0 0) 1 Try.underlying25 hj0 jz0 jz1 .i64 .i64 _ _ nt.length rfl rfl rfl rfl (by rw [jz2]; omega) (by simp only [maxLen]; omega) (Nat.le_refl _) ?_
    intro w1 own1 grown1
    have O1 := Lib.hid (show OwnR w1 w.heap.size (.slice (some ⟨w.heap.size, 0, none⟩) nt.length nt.length) (tabTo ls nt 0) by
      rw [T0.out]
      refine ownR_made ?_
      have e : (madeCells (Value.slice none 0 0).cells (nt.length * 1)).toList = List.replicate nt.length (Value.slice none 0 0) := by
        refine List.ext_getElem (by simp [size_madeCells]) fun i h1 h2 => ?_
        simp only [madeCells, Array.getElem_toList, Array.getElem_map, Array.getElem_range, List.getElem_replicate]
        rw [show i % (Value.slice none 0 0).cells.size = 0 from Nat.mod_one i]
        rfl
      rw [← e]
      exact own1)
    have B1 := Lib.hid (below_of_grown grown1)
    clear own1 grown1)
  have hn0 : IntKind.i64.wrap ((nt.length : Int) - 1) = (nt.length : Int) - 1 := IntWalk.i64_in _ (by omega)
  generalize hG : w.heap.size = G at O1
  have HGE := Lib.hid hG
  clear hG
  go_loopw [7] (fun mv wr => ∃ j : Nat, j ≤ nt.length ∧ mv = .int .i64 ((nt.length : Int) - 1 - (j : Int)) ∧ Hid (OwnR wr G (.slice (some ⟨G, 0, none⟩) nt.length nt.length) (tabTo ls nt j)) ∧ Hid (Below w.heap.size w wr)) (fun mv _ => (intOf mv + 1).toNat)
  case atStart => exact ⟨0, by omega, by simp, O1, B1⟩
  case round =>
    clear O1 B1
    obtain ⟨j, hj, rfl, OO, BW⟩ := hrel
    obtain ⟨w2, rfl⟩ : ∃ w2, w2 = wr := ⟨wr, rfl⟩
    by_cases hlj : j < nt.length
    rotate_left
    · obtain rfl : j = nt.length := by omega
      have hng : ¬ (0 : Int) ≤ (nt.length : Int) - 1 - (nt.length : Int) := by omega
      have hkm : (nt.length : Int) - 1 - (nt.length : Int) = -1 := by omega
      have F := Lib.hid (show OwnR w2 w.heap.size (.slice (some ⟨G, 0, none⟩) nt.length nt.length) (costTab ls nt) by rw [R.out, HGE.out]; exact OO.out)
      rw [hkm]
      go_wp2
      go_ret
      exact ⟨_, rfl, F.out, BW.out⟩
    obtain ⟨m, hm⟩ : ∃ m : Nat, m = nt.length - 1 - j := ⟨_, rfl⟩
    have hmi : (nt.length : Int) - 1 - (j : Int) = (m : Int) := by omega
    have hml : m < nt.length := by omega
    have HJ := Lib.hid (show m + 1 + j = nt.length by omega)
    rw [hmi]
    have hm0 : (0 : Int) ≤ (m : Int) := by omega
    have hm1 : (m : Int) < (nt.length : Int) := by omega
    have DN := Lib.hid (show IntKind.i64.wrap ((m : Int) - 1) = (nt.length : Int) - 1 - ((j + 1 : Nat) : Int) by rw [IntWalk.i64_in _ (by omega)]; omega)
    have tl := TL.out j hj
    have tn := TN.out j hlj
    rw [← hm] at tn
    have ta := fun q => TA.out j (m + 1) (by omega) q hj
    have TL2 := Lib.hid tl
    obtain ⟨gn, _, P1, p1_, f1, x1, -, p1⟩ := (N.out.below BW.out).spotD hml
    simp only [Value.slice.injEq] at f1
    obtain ⟨rfl, -, -⟩ := f1
    obtain ⟨row, hrow⟩ : ∃ row, row = costAt ls nt m := ⟨_, rfl⟩
    obtain ⟨cs, hcs⟩ : ∃ cs, cs = csM ls nt m := ⟨_, rfl⟩
    have RL := Lib.hid (show row.length = cs.length by rw [hrow, hcs]; exact CL.out m hml)
    have hcf : cs.length ≤ 1296 := by rw [hcs]; exact CF.out m hml
    have CRX := Lib.hid (fun k (hk : k < cs.length) => (show (cs.getD k []).length ≤ 4 by rw [hcs] at hk ⊢; exact CR.out m hml k hk))
    have GX := Lib.hid (CG.out w2 (O.out.below BW.out) (nt.getD m []) _ _ p1 (N4.out m hml))
    have hbs := BW.out.size
    rw [show castingsOf ls (nt.getD m []) = cs from hcs.symm] at GX
    -- the table within this round
    obtain ⟨TI, hTI⟩ : ∃ TI : Nat → List (List Int), TI = fun i => (tabTo ls nt j).set m (rowUpTo row i) := ⟨_, rfl⟩
    have TIL := Lib.hid (fun i => (show (TI i).length = nt.length by rw [hTI]; show ((tabTo ls nt j).set m _).length = _; rw [List.length_set, tl]))
    have TIM := Lib.hid (fun i => (show (TI i).getD m [] = rowUpTo row i by rw [hTI, List.getD_eq_getElem?_getD, List.getElem?_set_self (by rw [tl]; exact hml)]; rfl))
    have TIN := Lib.hid (fun i (q : m + 1 < nt.length) => (show (TI i).getD (m + 1) [] = costAt ls nt (m + 1) by rw [hTI, List.getD_eq_getElem?_getD, List.getElem?_set_ne (by omega), ← List.getD_eq_getElem?_getD]; exact ta q))
    have TIS := Lib.hid (fun i (hi : i < row.length) => (show (TI i).set m (((TI i).getD m []).set i (row.getD i 0)) = TI (i + 1) by rw [TIM.out i, rowUp_next hi, hTI]; show ((tabTo ls nt j).set m _).set m _ = _; rw [List.set_set]))
    have TIQ := Lib.hid (fun i => (show TI i = (tabTo ls nt j).set m (rowUpTo row i) by rw [hTI]))
    have TIE := Lib.hid (show TI row.length = tabTo ls nt (j + 1) by rw [hTI, ← tn]; show (tabTo ls nt j).set m (rowUpTo row row.length) = _; rw [rowUp_all, hrow])
    have TIZ := Lib.hid (show TI 0 = (tabTo ls nt j).set m (List.replicate row.length 0) by rw [hTI, ← rowUp_zero])
    have RLX := Lib.hid (fun i (hi : i ≤ row.length) => (rowUp_len hi))
    have RZ := Lib.hid (fun (q : m + 1 = nt.length) => (show row = List.replicate row.length 0 by
      have e := CZ.out m q
      rw [← hrow] at e
      have e2 : row.length = (csM ls nt m).length := by rw [e, List.length_replicate]
      rw [e2]
      exact e))
    have CNX := Lib.hid (fun (q : m + 1 < nt.length) i (hi : i < cs.length) => (show row.getD i 0 = bestK (costAt ls nt (m + 1)) (csM ls nt (m + 1)) (nt.getD m []) (cs.getD i []) (nt.getD (m + 1) []) (csM ls nt (m + 1)).length by rw [hrow, hcs]; exact CN.out m q i (by rw [← hcs]; exact hi)))
    clear hTI hrow hcs tn ta p1 hm hmi tl
    generalize (nt.getD m []).length = nl at x1 GX
    go_wp2_with fail
    refine GX.out.mono ?_
    rintro e w3 ⟨vc, rfl, oc, bc⟩
    obtain ⟨Cc, cc, rfl⟩ := oc.slice
    have O3 := Lib.hid (OO.out.below bc)
    have B3 := Lib.hid (BW.out.trans (bc.mono BW.out.size))
    have h3 := bc.size
    have C3 := Lib.hid oc
    have HG := Lib.hid (show G < w2.heap.size ∧ G < w3.heap.size from ⟨(OO.out.lt G rfl).2, (O3.out.lt G rfl).2⟩)
    clear bc oc OO GX
    go_wp2_with (
      refine wpList_make_full _ rfl _ _ 33 rfl w3.heap.size 3 i0 (.int .i64 0) 1 Try.underlying33 hi0 hz0 hz1 .i64 .i64 _ _ cs.length rfl rfl rfl rfl (by rw [hz2]; omega) (by simp only [maxLen]; omega) (Nat.le_refl _) ?_
      intro w4 own4 grown4
      have U4 := Lib.hid (madeZero own4)
      have B4 := Lib.hid (below_of_grown grown4)
      clear own4 grown4
      obtain ⟨_, _, Q1, q1_, f1, y1, yf, -⟩ := (O3.out.below B4.out).spotD (k := m) (by rw [TL2.out]; exact hml)
      simp only [Value.slice.injEq, Option.some.injEq, Addr.mk.injEq] at f1
      obtain ⟨⟨rfl, _⟩, -, -⟩ := f1
      have ST := Lib.hid (show OwnR (w4.setCell ⟨G, m, none⟩ (.slice (some ⟨w3.heap.size, 0, none⟩) cs.length cs.length)) G (.slice (some ⟨G, 0, none⟩) nt.length nt.length) (TI 0) ∧ w4.grownBy (w4.setCell ⟨G, m, none⟩ (.slice (some ⟨w3.heap.size, 0, none⟩) cs.length cs.length)) (some G) by
        have q := OwnR.set (zss := tabTo ls nt j) (c := nt.length) (g := G) (k := m) (by rw [TL2.out]; exact O3.out) B4.out U4.out (by have := HG.out; omega) (by rw [TL2.out]; exact hml)
        rw [TL2.out] at q
        rw [TIZ.out, RL.out]
        exact q)
      have CE := Lib.hid (show (w4.setCell ⟨G, m, none⟩ (.slice (some ⟨w3.heap.size, 0, none⟩) cs.length cs.length)).cell? ⟨G, m, none⟩ = some (.slice (some ⟨w3.heap.size, 0, none⟩) cs.length cs.length) from World.cell?_setCell_same _ _ _ y1)
      have C4 := Lib.hid ((C3.out.bound.below B4.out).in (grownIn_of ST.out.2) (fun q hq => by have := Option.some.inj hq; have := HG.out; omega))
      have B5 := Lib.hid ((B3.out.trans (B4.out.mono (by omega))).grown ST.out.2 (by have := B4.out.size; omega) (fun q hq => by have := Option.some.inj hq; have := HGE.out; omega))
      have H4 := Lib.hid (show w3.heap.size < (w4.setCell ⟨G, m, none⟩ (.slice (some ⟨w3.heap.size, 0, none⟩) cs.length cs.length)).heap.size from Nat.lt_of_lt_of_le (U4.out.lt _ rfl).2 ST.out.2.size))
    generalize w4.setCell ⟨G, m, none⟩ (.slice (some ⟨w3.heap.size, 0, none⟩) cs.length cs.length) = w5 at ST CE C4 B5 H4 ⊢
    have O5 := Lib.hid ST.out.1
    clear ST U4 B4 O3 B3 C3 BW y1 yf x1
    generalize hT3 : w3.heap.size = T3 at CE C4 H4 h3 HG
    have BZ := Lib.hid (Below.refl T3 w5)
    clear hT3
    go_loopw [9] (fun iv wr => ∃ i : Nat, i ≤ cs.length ∧ iv = .int .i64 (i : Int) ∧ Hid (OwnR wr G (.slice (some ⟨G, 0, none⟩) nt.length nt.length) (TI i)) ∧ Hid (wr.cell? ⟨G, m, none⟩ = some (.slice (some ⟨T3, 0, none⟩) cs.length cs.length)) ∧ Hid (Below T3 w5 wr) ∧ Hid (Below w.heap.size w wr)) (fun iv _ => cs.length - (intOf iv).toNat)
    case atStart => exact ⟨0, by omega, rfl, O5, CE, BZ, B5⟩
    case round =>
      clear O5 CE BZ B5
      obtain ⟨i, hi, rfl, OO, CE, BZ, BW⟩ := hrel
      obtain ⟨wi, rfl⟩ : ∃ wi, wi = wr := ⟨wr, rfl⟩
      by_cases hgo : i < cs.length ∧ m + 1 < nt.length
      rotate_left
      · have F := Lib.hid (show OwnR wi G (.slice (some ⟨G, 0, none⟩) nt.length nt.length) (tabTo ls nt (j + 1)) by
          have q := OO.out
          rw [← TIE.out]
          by_cases hc : i < cs.length
          · have e : m + 1 = nt.length := by omega
            have z := RZ.out e
            have t1 := TIM.out i
            have e2 : TI i = TI row.length := by
              have a1 := TIQ.out i
              have a2 := TIQ.out row.length
              rw [a1, a2]
              rw [z, rowUp_flat _ (by have := RL.out; omega), List.length_replicate, rowUp_flat _ (Nat.le_refl _)]
            rw [← e2]
            exact q
          · rw [RL.out, show cs.length = i by omega]
            exact q)
        by_cases hc : i < cs.length
        · have hc1 : (i : Int) < (cs.length : Int) := by omega
          have hmn : ¬ (m : Int) < (nt.length : Int) - 1 := by omega
          go_wp2
          exact ⟨⟨j + 1, by omega, by first | rw [DN.out] | (congr 1; have := HJ.out; push_cast; omega), F, BW⟩, by simp [intOf] <;> omega⟩
        · have hc1 : ¬ (i : Int) < (cs.length : Int) := by omega
          go_wp2
          exact ⟨⟨j + 1, by omega, by first | rw [DN.out] | (congr 1; have := HJ.out; push_cast; omega), F, BW⟩, by simp [intOf] <;> omega⟩
      obtain ⟨hic, hmn'⟩ := hgo
      have hc1 : (i : Int) < (cs.length : Int) := by omega
      have hc0 : (0 : Int) ≤ (i : Int) := by omega
      have hmn : (m : Int) < (nt.length : Int) - 1 := by omega
      have ew1 : IntKind.i64.wrap ((m : Int) + 1) = (m : Int) + 1 := IntWalk.i64_in _ (by omega)
      have hmp : (0 : Int) ≤ (m : Int) + 1 := by omega
      have hmq : (m : Int) + 1 < (nt.length : Int) := by omega
      obtain ⟨_, _, P2, p2_, f1, x2, -, p2⟩ := (N.out.below BW.out).spotD hmn'
      simp only [Value.slice.injEq, Option.some.injEq, Addr.mk.injEq] at f1
      obtain ⟨⟨rfl, _⟩, -, -⟩ := f1
      obtain ⟨ds, hds⟩ : ∃ ds, ds = csM ls nt (m + 1) := ⟨_, rfl⟩
      obtain ⟨rw1, hrw⟩ : ∃ r, r = costAt ls nt (m + 1) := ⟨_, rfl⟩
      have DL := Lib.hid (show rw1.length = ds.length by rw [hds, hrw]; exact CL.out (m + 1) hmn')
      have hdf : ds.length ≤ 1296 := by rw [hds]; exact CF.out (m + 1) hmn'
      have DRX := Lib.hid (fun k (hk : k < ds.length) => (show (ds.getD k []).length ≤ 4 by rw [hds] at hk ⊢; exact CR.out (m + 1) hmn' k hk))
      have RMX := Lib.hid (fun k => (show -1 ≤ rw1.getD k 0 ∧ rw1.getD k 0 ≤ 100 by rw [hrw]; exact CM.out (m + 1) hmn' k))
      have BE := Lib.hid (show row.getD i 0 = bestK rw1 ds (nt.getD m []) (cs.getD i []) (nt.getD (m + 1) []) ds.length by rw [hds, hrw]; exact CNX.out hmn' i hic)
      have TIX := Lib.hid (show (TI i).getD (m + 1) [] = rw1 by rw [hrw]; exact TIN.out i hmn')
      have GX := Lib.hid (CG.out wi (O.out.below BW.out) (nt.getD (m + 1) []) _ _ p2 (N4.out (m + 1) hmn'))
      rw [show castingsOf ls (nt.getD (m + 1) []) = ds from hds.symm] at GX
      have BMX := Lib.hid (fun k => best_max (row := rw1) (d := ds) (c := cs.getD i []) (N4.out m hml) (N4.out (m + 1) hmn') (fun k => (RMX.out k).2) (by omega) k)
      have CHX := Lib.hid (fun af => ch16 (cast := cs.getD i []) (af := af) (N4.out m hml) (N4.out (m + 1) hmn'))
      clear p2 hds hrw
      generalize (nt.getD (m + 1) []).length = nl2 at x2 GX
      go_wp2_with fail
      refine GX.out.mono ?_
      rintro e w6 ⟨vd, rfl, od, bd⟩
      obtain ⟨Dd, dd, rfl⟩ := od.slice
      have D6 := Lib.hid od
      have T6 := Lib.hid (OO.out.below bd)
      have C6 := Lib.hid (((C4.out.low BZ.out).below bd).own)
      have B6 := Lib.hid (BW.out.trans (bd.mono BW.out.size))
      have CE6 := Lib.hid (show w6.cell? ⟨G, m, none⟩ = some (.slice (some ⟨T3, 0, none⟩) cs.length cs.length) from cell_below CE.out bd)
      have BZ6 := Lib.hid (BZ.out.trans (bd.mono (by have := BZ.out.size; have := H4.out; omega)))
      have h6 := bd.size
      clear od bd GX x2 OO CE BW BZ
      go_wp2_with fail
      go_loopw [11, 12] (fun bv kv wr => ∃ k : Nat, k ≤ ds.length ∧ bv = .int .i64 (bestK rw1 ds (nt.getD m []) (cs.getD i []) (nt.getD (m + 1) []) k) ∧ kv = .int .i64 (k : Int) ∧ Hid (Below w6.heap.size w6 wr)) (fun _ kv _ => ds.length - (intOf kv).toNat)
      case atStart => exact ⟨0, by omega, rfl, rfl, Lib.hid (Below.refl _ _)⟩
      case round =>
        obtain ⟨k, hk, rfl, rfl, BK⟩ := hrel
        by_cases hlk : k < ds.length
        rotate_left
        · obtain rfl : k = ds.length := by omega
          rw [← BE.out]
          obtain ⟨g', c', y0, ⟨z0, y1⟩, yf, y2, y3, y4, y5⟩ := (T6.out.below BK.out).putD (TIL.out i) hml (i := i) (by rw [TIM.out, RLX.out i (by have := RL.out; omega), RL.out]; exact hic) (row.getD i 0)
          rw [TIS.out i (by rw [RL.out]; exact hic)] at y2
          have y6 := cell_below CE6.out BK.out
          rw [y0] at y6
          simp only [Option.some.injEq, Value.slice.injEq, Addr.mk.injEq, and_true] at y6
          obtain ⟨rfl, y7, -⟩ := y6
          have O7 := Lib.hid y2
          have C7 := Lib.hid (show (wr.setCell ⟨g', i, none⟩ (.int .i64 (row.getD i 0))).cell? ⟨G, m, none⟩ = some (.slice (some ⟨g', 0, none⟩) cs.length cs.length) from y3.cell (cell_below CE6.out BK.out) (by intro e; have q : G = g' := Option.some.inj e; have := HG.out; omega))
          have Z7 := Lib.hid ((BZ6.out.trans (BK.out.mono (by have := BZ6.out.size; have := H4.out; omega))).grown y3 (by have := BZ6.out.size; have := BK.out.size; have := H4.out; omega) (fun q hq => by have := Option.some.inj hq; omega))
          have B7 := Lib.hid ((B6.out.trans (BK.out.mono B6.out.size)).grown y3 (by have := B6.out.size; have := BK.out.size; omega) (fun q hq => by have := Option.some.inj hq; have := HG.out; have := HGE.out; omega))
          have x0 := cell_below CE6.out BK.out
          obtain ⟨t0, ht0⟩ : ∃ t, wr.cell? ⟨g', i, none⟩ = some t := ⟨_, y1⟩
          clear y0 y1 y2 y3 y4 y5 y7 T6 D6 BK BE
          generalize row.getD i 0 = be at O7 C7 Z7 B7 ⊢
          go_wp2
          exact ⟨⟨i + 1, by omega, by go_num, O7, C7, Z7, B7⟩, by simp [intOf]; omega⟩
        have hk0 : (0 : Int) ≤ (k : Int) := by omega
        have hk1 : (k : Int) < (ds.length : Int) := by omega
        have BWK := Lib.hid (B6.out.trans (BK.out.mono B6.out.size))
        obtain ⟨_, _, R1, r1_, f1, a1, -, ro⟩ := (T6.out.below BK.out).spotD (k := m + 1) (by rw [TIL.out]; exact hmn')
        rw [TIL.out] at f1
        simp only [Value.slice.injEq, Option.some.injEq, Addr.mk.injEq] at f1
        obtain ⟨⟨rfl, _⟩, -, -⟩ := f1
        rw [TIX.out] at a1 ro
        obtain ⟨gr, _, f1, -, -, a2, -⟩ := ro.spotD (k := k) (by rw [DL.out]; exact hlk)
        simp only [Value.slice.injEq] at f1
        obtain ⟨rfl, -, -⟩ := f1
        rw [DL.out] at a1
        obtain ⟨_, _, P1, p1_, f1, a3, -, o3⟩ := (N.out.below BWK.out).spotD hml
        simp only [Value.slice.injEq, Option.some.injEq, Addr.mk.injEq] at f1
        obtain ⟨⟨rfl, _⟩, -, -⟩ := f1
        obtain ⟨_, _, P2, p2_, f1, a4, -, o4⟩ := (N.out.below BWK.out).spotD hmn'
        simp only [Value.slice.injEq, Option.some.injEq, Addr.mk.injEq] at f1
        obtain ⟨⟨rfl, _⟩, -, -⟩ := f1
        obtain ⟨gc, _, P3, p3_, f1, a5, -, o5⟩ := (C6.out.below BK.out).spotD hic
        simp only [Value.slice.injEq] at f1
        obtain ⟨rfl, -, -⟩ := f1
        obtain ⟨gd, _, P4, p4_, f1, a6, -, o6⟩ := (D6.out.below BK.out).spotD hlk
        simp only [Value.slice.injEq] at f1
        obtain ⟨rfl, -, -⟩ := f1
        have rm := RMX.out k
        have bn := Lib.hid (BN.out rw1 ds (nt.getD m []) (cs.getD i []) (nt.getD (m + 1) []) k)
        have bm := BMX.out k
        have cm := CHX.out (ds.getD k [])
        have CB := Lib.hid (fun W (hb : Below wr.heap.size wr W) => specChb _ _ _ _ (nt.getD m []) (cs.getD i []) (nt.getD (m + 1) []) (ds.getD k []) _ _ _ _ W (o3.below hb) (o5.below hb) (o4.below hb) (o6.below hb) (by have := N4.out m hml; omega) (by have := CRX.out i hic; omega) (by have := N4.out (m + 1) hmn'; omega) (by have := DRX.out k hlk; omega))
        obtain ⟨NK, hNK⟩ : ∃ t, t = bestK rw1 ds (nt.getD m []) (cs.getD i []) (nt.getD (m + 1) []) (k + 1) := ⟨_, rfl⟩
        rw [← hNK] at bn
        have HNK := Lib.hid hNK
        clear ro o3 o4 o5 o6 hNK
        generalize bestK rw1 ds (nt.getD m []) (cs.getD i []) (nt.getD (m + 1) []) k = bs at bn bm ⊢
        generalize changesB (nt.getD m []) (cs.getD i []) (nt.getD (m + 1) []) (ds.getD k []) = ch at CB bn cm
        generalize (nt.getD m []).length = n3 at a3 CB
        generalize (nt.getD (m + 1) []).length = n4 at a4 CB
        generalize (cs.getD i []).length = n5 at a5 CB
        generalize (ds.getD k []).length = n6 at a6 CB
        generalize rw1.getD k 0 = e at a2 rm bn
        have XC := Lib.hid (show wr.cell? ⟨G, m + 1, none⟩ = some (.slice (some ⟨gr, 0, none⟩) ds.length r1_) ∧ wr.cell? ⟨gr, k, none⟩ = some (.int .i64 e) ∧ wr.cell? ⟨gn, m, none⟩ = some (.slice P1 n3 p1_) ∧ wr.cell? ⟨gc, i, none⟩ = some (.slice P3 n5 p3_) ∧ wr.cell? ⟨gn, m + 1, none⟩ = some (.slice P2 n4 p2_) ∧ wr.cell? ⟨gd, k, none⟩ = some (.slice P4 n6 p4_) from ⟨a1, a2, a3, a5, a4, a6⟩)
        by_cases he : e < 0
        · have N2 := Lib.hid (show NK = bs by rw [bn.out, if_pos he])
          clear CB XC bn
          go_wp2
          exact ⟨⟨k + 1, by omega, by rw [← HNK.out, N2.out], by go_num, BK⟩, by simp [intOf]; omega⟩
        have ex : IntKind.i64.wrap (e + ch) = e + ch := IntWalk.i64_in _ (by omega)
        have bn2 := Lib.hid (show NK = if bs < 0 ∨ e + ch < bs then e + ch else bs by rw [bn.out, if_neg he])
        clear bn
        go_wp2_with fail
        go_region_held3 (fun W => W.cell? ⟨G, m + 1, none⟩ = some (.slice (some ⟨gr, 0, none⟩) ds.length r1_) ∧ W.cell? ⟨gr, k, none⟩ = some (.int .i64 e) ∧ W.cell? ⟨gn, m, none⟩ = some (.slice P1 n3 p1_) ∧ W.cell? ⟨gc, i, none⟩ = some (.slice P3 n5 p3_) ∧ W.cell? ⟨gn, m + 1, none⟩ = some (.slice P2 n4 p2_) ∧ W.cell? ⟨gd, k, none⟩ = some (.slice P4 n6 p4_))
          (first | exact XC.out | exact X2.out)
          (first | (go_at_call 35; refine (CB.out _ (Below.refl _ _).drew).mono ?_; rintro e w2 ⟨rfl, b2⟩; have b3 := undrew b2; have X2 := Lib.hid (show _ ∧ _ ∧ _ ∧ _ ∧ _ ∧ _ from ⟨cell_below XC.out.1 b3, cell_below XC.out.2.1 b3, cell_below XC.out.2.2.1 b3, cell_below XC.out.2.2.2.1 b3, cell_below XC.out.2.2.2.2.1 b3, cell_below XC.out.2.2.2.2.2 b3⟩)))
        have BK2 := Lib.hid (BK.out.trans ((undrew b2).mono BK.out.size))
        clear b2 b3 XC X2 CB a1 a2 a3 a4 a5 a6 BK BWK
        generalize e + ch = x at bn2
        by_cases hb0 : bs < 0
        · have N2 := Lib.hid (show NK = x by rw [bn2.out, if_pos (.inl hb0)])
          have hx0 : decide (bs < 0) = true := decide_eq_true hb0
          go_wp2
          exact ⟨⟨k + 1, by omega, by rw [← HNK.out, N2.out], by go_num, BK2⟩, by simp [intOf]; omega⟩
        · by_cases hxb : x < bs
          · have N2 := Lib.hid (show NK = x by rw [bn2.out, if_pos (.inr hxb)])
            go_wp2
            exact ⟨⟨k + 1, by omega, by rw [← HNK.out, N2.out], by go_num, BK2⟩, by simp [intOf]; omega⟩
          · have N2 := Lib.hid (show NK = bs by rw [bn2.out, if_neg (by omega)])
            go_wp2
            exact ⟨⟨k + 1, by omega, by rw [← HNK.out, N2.out], by go_num, BK2⟩, by simp [intOf]; omega⟩
end Go.Proofs.Ytanlfkkmnnjpeaa

/- The contract of spec.FewestChanges. Condition: the players and the rows of numbers are the call's own. -/
namespace Go.Proofs.Ytanlfkkmnnjpeaa
set_option linter.unusedVariables false
set_option linter.unusedSimpArgs false
open Go.RowKit

set_option maxRecDepth 100000 in
set_option maxHeartbeats 3200000 in
theorem specFew (v : Value) (ls : List RPlayer) (b : Nat) (w : World) (h : OwnPlayer w b v ls) (hl : ls.length ≤ 2000000) (hr : ∀ k (hk : k < ls.length), ls[k].f0.length ≤ 2000000) (u : Value) (nt : List (List Int)) (b2 : Nat) (h2 : OwnR w b2 u nt) (hn : nt.length ≤ 2000000) (hnr : ∀ k (hk : k < nt.length), nt[k].length ≤ 2000000) :
    Calls Try.prog 36 #[v, u] w fun e w' => e = .returned (.int .i64 (fewest ls nt)) ∧ Below w.heap.size w w' := by
  have CK := Lib.hid (specNOk v ls b w h hl hr u nt b2 h2 hn hnr)
  have CT := Lib.hid (fun W h h2 hok => specCst v ls b W h u nt b2 h2 hok)
  obtain ⟨A, c, rfl⟩ := h.slice
  obtain ⟨D, d, rfl⟩ := h2.slice
  have O := Lib.hid h
  have N := Lib.hid h2
  clear h h2 hr hnr
  cases hok : nightOk ls nt with
  | false =>
    have R := Lib.hid (show fewest ls nt = -1 by unfold fewest; rw [hok]; rfl)
    rw [hok] at CK
    clear hok
    go_enter Try.func36, Try.ntmps36
    go_wp2_with (go_at_call 23; refine CK.out.mono ?_; rintro e w1 ⟨rfl, b1⟩; have B1 := Lib.hid b1; clear b1)
    go_ret
    exact ⟨by rw [R.out]; try rfl, B1.out⟩
  | true =>
    have R := Lib.hid (show fewest ls nt = fewTo (costAt ls nt 0) (costAt ls nt 0).length by unfold fewest; rw [if_pos hok])
    have h1 := (nok_has hok).2.1
    have CTX := Lib.hid (fun W h h2 => CT.out W h h2 hok)
    have RL := Lib.hid (show (costTab ls nt).length = nt.length from costTab_len)
    have R0 := Lib.hid (show (costTab ls nt).getD 0 [] = costAt ls nt 0 from costTab_at (by omega))
    have RF := Lib.hid (show (costAt ls nt 0).length ≤ 1296 by rw [costAt_len ls (by omega)]; exact castings_few (nok_has hok).1 (by rw [getR (by omega)]; exact ((nok_has hok).2.2 0 (by omega)).1))
    rw [hok] at CK
    clear hok CT
    go_enter Try.func36, Try.ntmps36
    go_wp2_with (go_at_call 23; refine CK.out.mono ?_; rintro e w1 ⟨rfl, b1⟩; have B1 := Lib.hid b1; have O1 := Lib.hid (O.out.below b1); have N1 := Lib.hid (N.out.below b1); clear b1)
    refine (CTX.out _ O1.out N1.out).mono ?_
    rintro e w2 ⟨vt, rfl, ot, bt⟩
    obtain ⟨g, _, A1, c1, rfl, x0, -, o1⟩ := ot.spotD (k := 0) (by rw [RL.out]; omega)
    rw [RL.out]
    rw [R0.out] at x0 o1
    have B2 := Lib.hid (B1.out.trans (bt.mono B1.out.size))
    have hn0 : (0 : Int) < (nt.length : Int) := by omega
    have rf := RF.out
    clear ot bt O1 N1 CK CTX RF
    generalize costAt ls nt 0 = row at x0 o1 R rf
    have OR := Lib.hid o1
    clear o1
    go_wp2_with fail
    go_loopw [5, 7] (fun bv kv wr => w2 = wr ∧ ∃ k : Nat, k ≤ row.length ∧ bv = .int .i64 (fewTo row k) ∧ kv = .int .i64 (k : Int)) (fun _ kv _ => row.length - (intOf kv).toNat)
    case atStart => exact ⟨rfl, 0, by omega, rfl, rfl⟩
    case round =>
      obtain ⟨rfl, k, hk, rfl, rfl⟩ := hrel
      by_cases hlk : k < row.length
      rotate_left
      · obtain rfl : k = row.length := by omega
        rw [← R.out]
        go_wp2
        go_ret
        exact ⟨rfl, B2.out⟩
      have hk0 : (0 : Int) ≤ (k : Int) := by omega
      have hk1 : (k : Int) < (row.length : Int) := by omega
      obtain ⟨gr, _, f1, -, -, z0, -⟩ := OR.out.spotD hlk
      simp only [Value.slice.injEq] at f1
      obtain ⟨rfl, -, -⟩ := f1
      have FN := Lib.hid (show fewTo row (k + 1) = if 0 ≤ row.getD k 0 ∧ (fewTo row k < 0 ∨ row.getD k 0 < fewTo row k) then row.getD k 0 else fewTo row k from rfl)
      obtain ⟨NK, hNK⟩ : ∃ t, t = fewTo row (k + 1) := ⟨_, rfl⟩
      rw [← hNK] at FN
      have HNK := Lib.hid hNK
      clear hNK
      generalize row.getD k 0 = x at z0 FN
      generalize fewTo row k = bs at FN ⊢
      by_cases hx : 0 ≤ x
      rotate_left
      · have N2 := Lib.hid (show NK = bs by rw [FN.out, if_neg (fun q => hx q.1)])
        go_wp2
        exact ⟨⟨trivial, k + 1, by omega, by rw [← HNK.out, N2.out], by go_num⟩, by simp [intOf]; omega⟩
      by_cases hb0 : bs < 0
      · have N2 := Lib.hid (show NK = x by rw [FN.out, if_pos ⟨hx, .inl hb0⟩])
        go_wp2
        exact ⟨⟨trivial, k + 1, by omega, by rw [← HNK.out, N2.out], by go_num⟩, by simp [intOf]; omega⟩
      by_cases hxb : x < bs
      · have N2 := Lib.hid (show NK = x by rw [FN.out, if_pos ⟨hx, .inr hxb⟩])
        go_wp2
        exact ⟨⟨trivial, k + 1, by omega, by rw [← HNK.out, N2.out], by go_num⟩, by simp [intOf]; omega⟩
      · have N2 := Lib.hid (show NK = bs by rw [FN.out, if_neg (by omega)])
        go_wp2
        exact ⟨⟨trivial, k + 1, by omega, by rw [← HNK.out, N2.out], by go_num⟩, by simp [intOf]; omega⟩
end Go.Proofs.Ytanlfkkmnnjpeaa
