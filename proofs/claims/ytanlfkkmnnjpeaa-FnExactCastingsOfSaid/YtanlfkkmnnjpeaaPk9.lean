/- Texts of this seat laid together, each with its own first sentence below: BntS WyK. -/
import Derived.Test.YtanlfkkmnnjpeaaPk8
import Derived.Test.YtanlfkkmnnjpeaaPk6
import Derived.Test.YtanlfkkmnnjpeaaPk1
import Derived.Test.YtanlfkkmnnjpeaaPk7
import Derived.Shelf.Abstract
/- The contract of spec.BestNight. Condition: the players and the rows of numbers are the call's own. -/
namespace Go.Proofs.Ytanlfkkmnnjpeaa
set_option linter.unusedVariables false
set_option linter.unusedSimpArgs false
open Go.RowKit

theorem firstIx_is {p : Nat → Bool} {i : Nat} (h0 : ∀ q, q < i → p q = false) (h1 : p i = true) : ∀ n, i < n → firstIx p n = some i := by
  intro n
  have no : ∀ m, m ≤ i → firstIx p m = none := by
    intro m
    induction m with
    | zero => intro _; rfl
    | succ m ih => intro hm; rw [firstIx, ih (by omega)]; show (if p m = true then some m else none) = none; rw [h0 m (by omega), if_neg (by simp)]
  induction n with
  | zero => intro h; omega
  | succ n ih =>
    intro hi
    rw [firstIx]
    rcases (by omega : i < n ∨ i = n) with q | rfl
    · rw [ih q]
    · rw [no i (Nat.le_refl _)]; show (if p i = true then some i else none) = some i; rw [if_pos h1]
theorem firstIx_none {p : Nat → Bool} : ∀ n, (∀ q, q < n → p q = false) → firstIx p n = none := by
  intro n
  induction n with
  | zero => intro _; rfl
  | succ n ih => intro h; rw [firstIx, ih (fun q hq => h q (by omega))]; show (if p n = true then some n else none) = none; rw [h n (by omega), if_neg (by simp)]

set_option maxRecDepth 100000 in
set_option maxHeartbeats 6400000 in
theorem specBnt (v : Value) (ls : List RPlayer) (b : Nat) (w : World) (h : OwnPlayer w b v ls) (hl : ls.length ≤ 2000000) (hr : ∀ k (hk : k < ls.length), ls[k].f0.length ≤ 2000000) (u : Value) (nt : List (List Int)) (b2 : Nat) (h2 : OwnR w b2 u nt) (hn : nt.length ≤ 2000000) (hnr : ∀ k (hk : k < nt.length), nt[k].length ≤ 2000000) :
    Calls Try.prog 37 #[v, u] w (RowsB w (bestNight ls nt)) := by
  have CK := Lib.hid (fun W h h2 => specFew v ls b W h hl hr u nt b2 h2 hn hnr)
  have CT := Lib.hid (fun W h h2 hok => specCst v ls b W h u nt b2 h2 hok)
  have CGX := Lib.hid (fun W h ps v2 b2 h2 (hp : ps.length ≤ 4) => specCgs v ls b W h hl hr v2 ps b2 h2 (by omega))
  obtain ⟨A, c, rfl⟩ := h.slice
  obtain ⟨D, d, rfl⟩ := h2.slice
  have O := Lib.hid h
  have N := Lib.hid h2
  have OA := Lib.hid (h.alloc (.cells #[] 33))
  have NA := Lib.hid (h2.alloc (.cells #[] 33))
  have E0 := Lib.hid (emptyR w w.heap.size w.heap.size #[] rfl (Nat.le_refl _) rfl)
  have B0 := Lib.hid ((Below.refl w.heap.size w).alloc (Nat.le_refl _) (.cells #[] 33))
  clear h h2 hr hnr
  by_cases hf : fewest ls nt < 0
  · have R := Lib.hid (show bestNight ls nt = ([], false) by unfold bestNight; rw [if_pos hf])
    generalize fewest ls nt = x at CK hf
    go_enter Try.func37, Try.ntmps37
    go_wp2_with fail
    refine (CK.out _ OA.out NA.out).mono ?_
    rintro e w1 ⟨rfl, b1⟩
    have E1 := Lib.hid (E0.out.below b1)
    have B1 := Lib.hid (B0.out.trans (b1.mono B0.out.size))
    clear b1
    go_wp2
    go_ret2
    exact ⟨_, by rw [R.out]; rfl, by rw [R.out]; exact E1.out, B1.out⟩
  have hok : nightOk ls nt = true := by
    cases q : nightOk ls nt with
    | true => rfl
    | false => exact absurd (show fewest ls nt < 0 by unfold fewest; rw [q, if_neg (by simp)]; omega) hf
  have CM := Lib.hid (fun m (hm : m ≤ nt.length) => come hok (show 0 ≤ fewest ls nt by omega) m hm)
  have R := Lib.hid (show bestNight ls nt = ((nightTo ls nt nt.length).1, true) by unfold bestNight; rw [if_neg hf])
  have NT := Lib.hid (fun m => (show nightTo ls nt (m + 1) = match firstIx (pickAt ls nt m ((nightTo ls nt m).1.getD (m - 1) []) (nightTo ls nt m).2) (csM ls nt m).length with | some i => ((nightTo ls nt m).1 ++ [(csM ls nt m).getD i []], (costAt ls nt m).getD i 0) | none => nightTo ls nt m from rfl))
  have h1 := (nok_has hok).2.1
  have N4 := Lib.hid (fun m (hm : m < nt.length) => (show (nt.getD m []).length ≤ 4 by rw [getR hm]; exact ((nok_has hok).2.2 m hm).1))
  have CF := Lib.hid (fun m (hm : m < nt.length) => (show (csM ls nt m).length ≤ 1296 from castings_few (nok_has hok).1 (N4.out m hm)))
  have CR := Lib.hid (fun m (hm : m < nt.length) k (hk : k < (csM ls nt m).length) => (show ((csM ls nt m).getD k []).length ≤ 4 by rw [getR hk, castings_row (List.getElem_mem hk)]; exact N4.out m hm))
  have CO := Lib.hid (fun m (hm : m < nt.length) k => cost_max hok hm k)
  have CL := Lib.hid (fun m (hm : m < nt.length) => costAt_len ls hm)
  have RL := Lib.hid (show (costTab ls nt).length = nt.length from costTab_len)
  have RA := Lib.hid (fun m (hm : m < nt.length) => (costTab_at hm : (costTab ls nt).getD m [] = costAt ls nt m))
  have CTX := Lib.hid (fun W h h2 => CT.out W h h2 hok)
  have F0 := Lib.hid (show nightTo ls nt 0 = ([], fewest ls nt) from rfl)
  have hf0 : ¬ fewest ls nt < 0 := hf
  have FL := Lib.hid (show (nightTo ls nt 0).2 = fewest ls nt from rfl)
  clear hok CT hf
  rw [← FL.out] at CK hf0
  generalize hx0 : (nightTo ls nt 0).2 = x0 at CK hf0
  have HX0 := Lib.hid hx0
  clear hx0
  go_enter Try.func37, Try.ntmps37
  go_wp2_with fail
  refine (CK.out _ OA.out NA.out).mono ?_
  rintro e w1 ⟨rfl, b1⟩
  have E1 := Lib.hid (E0.out.below b1)
  have O1 := Lib.hid (OA.out.below b1)
  have N1 := Lib.hid (NA.out.below b1)
  have B1 := Lib.hid (B0.out.trans (b1.mono B0.out.size))
  have hs1 : w.heap.size < w1.heap.size := by have := b1.size; simp at this; omega
  clear b1 E0 B0 OA NA CK
  go_wp2_with fail
  refine (CTX.out _ O1.out N1.out).mono ?_
  rintro e w2 ⟨vt, rfl, ot, bt⟩
  obtain ⟨At, ct, et⟩ := ot.slice
  rw [RL.out] at et
  subst et
  have TB := Lib.hid ot.bound
  have E2 := Lib.hid (E1.out.below bt)
  have B2 := Lib.hid (B1.out.trans (bt.mono B1.out.size))
  have hs2 := bt.size
  clear ot bt E1 O1 N1 B1 CTX
  generalize hT : w2.heap.size = T at TB hs2
  have HT := Lib.hid hT
  clear hT
  rw [← HX0.out]
  go_wp2_with fail
  go_loopw [6, 7, 9] (fun ov lv mv wr => ∃ (m : Nat) (vo : Value), vo = ov ∧ m ≤ nt.length ∧ lv = .int .i64 (nightTo ls nt m).2 ∧ mv = .int .i64 (m : Int) ∧ Hid (OwnR wr w.heap.size vo (nightTo ls nt m).1) ∧ Hid (∀ q, vo.ownBlock = some q → q = w.heap.size ∨ T ≤ q) ∧ Hid (OwnRB wr w1.heap.size T (.slice At nt.length ct) (costTab ls nt)) ∧ Hid (T ≤ wr.heap.size) ∧ Hid (Below w.heap.size w wr)) (fun _ _ mv _ => nt.length - (intOf mv).toNat)
  case atStart => exact ⟨0, _, rfl, by omega, rfl, rfl, E2, Lib.hid (fun q hq => .inl (Option.some.inj hq).symm), TB, Lib.hid (by rw [HT.out]; exact Nat.le_refl _), B2⟩
  case round =>
    clear E2 TB B2
    obtain ⟨m, vo, rfl, hm, rfl, rfl, OO, SE, TB, HTL, BW⟩ := hrel
    obtain ⟨wm, rfl⟩ : ∃ wm, wm = wr := ⟨wr, rfl⟩
    by_cases hlt : m < nt.length
    rotate_left
    · obtain rfl : m = nt.length := by omega
      have F := Lib.hid OO.out
      go_wp2
      go_ret2
      exact ⟨_, by rw [R.out]; rfl, by rw [R.out]; exact F.out, BW.out⟩
    have hm0 : (0 : Int) ≤ (m : Int) := by omega
    have hm1 : (m : Int) < (nt.length : Int) := by omega
    obtain ⟨gn, _, P1, p1_, f1, x1, -, p1⟩ := (N.out.below BW.out).spotD hlt
    simp only [Value.slice.injEq] at f1
    obtain ⟨rfl, -, -⟩ := f1
    obtain ⟨cs, hcs⟩ : ∃ cs, cs = csM ls nt m := ⟨_, rfl⟩
    have hcf : cs.length ≤ 1296 := by rw [hcs]; exact CF.out m hlt
    have CRX := Lib.hid (fun k (hk : k < cs.length) => (show (cs.getD k []).length ≤ 4 by rw [hcs] at hk ⊢; exact CR.out m hlt k hk))
    obtain ⟨row, hrow⟩ : ∃ row, row = costAt ls nt m := ⟨_, rfl⟩
    have RWL := Lib.hid (show row.length = cs.length by rw [hrow, hcs]; exact CL.out m hlt)
    have ROW := Lib.hid (show (costTab ls nt).getD m [] = row by rw [hrow]; exact RA.out m hlt)
    have ROX := Lib.hid (fun k => (show -1 ≤ row.getD k 0 ∧ row.getD k 0 ≤ 100 by rw [hrow]; exact CO.out m hlt k))
    have cm := CM.out m hm
    have cm2 := CM.out (m + 1) (by omega)
    obtain ⟨rows, hrows⟩ : ∃ r, r = (nightTo ls nt m).1 := ⟨_, rfl⟩
    obtain ⟨left, hleft⟩ : ∃ r, r = (nightTo ls nt m).2 := ⟨_, rfl⟩
    have RSL := Lib.hid (show rows.length = m by rw [hrows]; exact cm.len)
    have RS4 := Lib.hid (fun (h0 : 0 < m) => (show (rows.getD (m - 1) []).length ≤ 4 by
      obtain ⟨i, h1, h2⟩ := cm.cast (m - 1) (by omega)
      rw [hrows, h2]
      exact CR.out (m - 1) (by omega) i h1))
    have PK := Lib.hid (fun i => (show pickAt ls nt m (rows.getD (m - 1) []) left i = (decide (0 ≤ row.getD i 0) && decide (stepAt nt m (rows.getD (m - 1) []) (cs.getD i []) + row.getD i 0 = left)) by unfold pickAt; rw [hrow, hcs]))
    have YES := Lib.hid (fun i (hi : i < cs.length) (h0 : ∀ q, q < i → pickAt ls nt m (rows.getD (m - 1) []) left q = false) (h1 : pickAt ls nt m (rows.getD (m - 1) []) left i = true) => (show nightTo ls nt (m + 1) = (rows ++ [cs.getD i []], row.getD i 0) by
      have e := NT.out m
      rw [← hrows, ← hleft, ← hcs, ← hrow, firstIx_is h0 h1 _ hi] at e
      exact e))
    have NOT := Lib.hid (fun (h0 : ∀ q, q < cs.length → pickAt ls nt m (rows.getD (m - 1) []) left q = false) => (show False by
      have e := NT.out m
      rw [← hrows, ← hleft, ← hcs, ← hrow, firstIx_none _ h0] at e
      have e : nightTo ls nt (m + 1) = nightTo ls nt m := e
      have := cm2.len
      rw [e] at this
      have := cm.len
      omega))
    have GX := Lib.hid (CGX.out wm (O.out.below BW.out) (nt.getD m []) _ _ p1 (N4.out m hlt))
    rw [show castingsOf ls (nt.getD m []) = cs from hcs.symm] at GX
    rw [← hrows] at OO
    rw [← hleft]
    have LB := Lib.hid (show -1 ≤ left ∧ True from ⟨by rw [hleft]; have := cm.left; omega, trivial⟩)
    clear hcs hrow hrows hleft cm cm2 p1
    generalize (nt.getD m []).length = nl at x1 GX
    go_wp2_with fail
    refine GX.out.mono ?_
    rintro e w3 ⟨vc, rfl, oc, bc⟩
    obtain ⟨Cc, cc, rfl⟩ := oc.slice
    have C3 := Lib.hid oc
    have BC := Lib.hid bc
    have B3 := Lib.hid (BW.out.trans (bc.mono BW.out.size))
    have hs3 := bc.size
    have hbw := BW.out.size
    clear oc bc GX x1
    go_wp2_with fail
    go_loopw [6, 7, 11] (fun ov lv iv wr => ∃ i : Nat, vo = ov ∧ lv = .int .i64 left ∧ i ≤ cs.length ∧ iv = .int .i64 (i : Int) ∧ Hid (∀ q, q < i → pickAt ls nt m (rows.getD (m - 1) []) left q = false) ∧ Hid (Below w3.heap.size w3 wr)) (fun _ _ iv _ => cs.length - (intOf iv).toNat)
    case atStart => exact ⟨0, rfl, rfl, by omega, rfl, Lib.hid (fun q hq => absurd hq (by omega)), Lib.hid (Below.refl _ _)⟩
    case round =>
      obtain ⟨i, rfl, rfl, hi, rfl, NP, BI⟩ := hrel
      obtain ⟨wi, rfl⟩ : ∃ wi, wi = wr := ⟨wr, rfl⟩
      by_cases hic : i < cs.length
      rotate_left
      · exact (NOT.out (fun q hq => NP.out q (by omega))).elim
      have hi0 : (0 : Int) ≤ (i : Int) := by omega
      have hi1 : (i : Int) < (cs.length : Int) := by omega
      have BWI := Lib.hid (B3.out.trans (BI.out.mono B3.out.size))
      have BMI := Lib.hid (BC.out.trans (BI.out.mono BC.out.size))
      have TI := Lib.hid ((TB.out.below BMI.out))
      have OI := Lib.hid (OO.out.below BMI.out)
      obtain ⟨_, _, P1, p1_, f1, a1, -, o1⟩ := (N.out.below BWI.out).spotD hlt
      simp only [Value.slice.injEq, Option.some.injEq, Addr.mk.injEq] at f1
      obtain ⟨⟨rfl, _⟩, -, -⟩ := f1
      obtain ⟨gc, _, P3, p3_, f1, a3, -, o3⟩ := (C3.out.below BI.out).spotD hic
      simp only [Value.slice.injEq] at f1
      obtain ⟨rfl, -, -⟩ := f1
      obtain ⟨gt, _, T1, t1_, f1, a4, -, o4⟩ := TI.out.own.spotD (k := m) (by rw [RL.out]; exact hlt)
      rw [RL.out] at f1
      simp only [Value.slice.injEq] at f1
      obtain ⟨rfl, -, -⟩ := f1
      rw [ROW.out] at a4 o4
      obtain ⟨gr, _, f1, -, -, a5, -⟩ := o4.spotD (k := i) (by rw [RWL.out]; exact hic)
      simp only [Value.slice.injEq] at f1
      obtain ⟨rfl, -, -⟩ := f1
      rw [RWL.out] at a4
      have rm := ROX.out i
      have pk := Lib.hid (PK.out i)
      have NX := Lib.hid (fun (h : pickAt ls nt m (rows.getD (m - 1) []) left i = false) => (show ∀ q, q < i + 1 → pickAt ls nt m (rows.getD (m - 1) []) left q = false from fun q hq => by
        rcases (by omega : q < i ∨ q = i) with s | rfl
        · exact NP.out q s
        · exact h))
      have YX := Lib.hid (fun h => YES.out i hic NP.out h)
      have crx := CRX.out i hic
      obtain ⟨cl, hcl⟩ : ∃ n, (cs.getD i []).length = n := ⟨_, rfl⟩
      rw [hcl] at a3 o3 crx
      clear hcl
      obtain ⟨e, hex⟩ : ∃ e, row.getD i 0 = e := ⟨_, rfl⟩
      rw [hex] at a5 rm pk YX
      have REX := Lib.hid hex
      clear hex
      rcases Nat.eq_zero_or_pos m with hm00 | hmp
      · have ST := Lib.hid (show stepAt nt m (rows.getD (m - 1) []) (cs.getD i []) = 0 by unfold stepAt; rw [if_neg (by omega)])
        rw [ST.out, Int.zero_add] at pk
        have hmz : ¬ (0 : Int) < (m : Int) := by omega
        have BSI := Lib.hid (Below.refl wi.heap.size wi)
        have BS := Lib.hid BI.out
        clear hm00
        by_cases he : 0 ≤ e
        rotate_left
        · have N2 := Lib.hid (NX.out (by rw [pk.out, decide_eq_false he]; rfl))
          clear YX NX pk
          go_wp2
          exact ⟨⟨i + 1, rfl, rfl, by omega, by go_num, N2, BS⟩, by simp [intOf]; omega⟩
        have ex : IntKind.i64.wrap e = e := IntWalk.i64_in _ (by omega)
        by_cases hq : e = left
        rotate_left
        · have hqb : (e == left) = false := by rw [beq_eq_false_iff_ne]; exact hq
          have N2 := Lib.hid (NX.out (by rw [pk.out, decide_eq_true he, decide_eq_false hq]; rfl))
          clear YX NX pk hq
          go_wp2
          exact ⟨⟨i + 1, rfl, rfl, by omega, by go_num, N2, BS⟩, by simp [intOf]; omega⟩
        have NN := Lib.hid (YX.out (by rw [pk.out, decide_eq_true he, decide_eq_true hq]; rfl))
        have hqb : (e == left) = true := by rw [hq]; simp
        have C9 := Lib.hid ((show OwnI wi wm.heap.size (.slice P3 cl p3_) (cs.getD i []) from o3).below BSI.out)
        have OR := Lib.hid (oneRow wi (.slice P3 cl p3_) wi.heap.size (Nat.le_refl _))
        have BMS := Lib.hid (BMI.out.trans (BSI.out.mono BMI.out.size))
        have BWS := Lib.hid (BWI.out.trans (BSI.out.mono BWI.out.size))
        have hsw := BWS.out.size
        have hsm := BMS.out.size
        have hrl := RSL.out
        have TS2 := Lib.hid (TI.out.below BSI.out)
        clear YX NX pk hq o3 o1 o4 RSL
        generalize cs.getD i [] = ci at C9 NN
        have hrl2 : rows.length ≤ 4000000 := by omega
        clear hrl
        go_wp2_with (first | (
          at_builtin
          refine wpList_rowR rfl (.tmp 83) (.tmp 88) rfl wm w.heap.size wi.heap.size vo _ (.slice P3 cl p3_) rows ci rfl rfl OO.out (BMS.out.alloc hsm _) (C9.out.alloc _) hbw OR.out hrl2 ?_
          intro v5 w5 o5 g5 hat5
          have T5 := Lib.hid ((TS2.out.below ((Below.refl _ _).alloc (Nat.le_refl _) _)).outOf (grownIn_of g5) (fun k hk => by rcases SE.out k hk with q | q <;> first | (left; omega) | (right; exact q)))
          obtain ⟨gt2, _, T2, t2_, f1, a6, -, o6⟩ := T5.out.own.spotD (k := m) (by rw [RL.out]; exact hlt)
          rw [RL.out] at f1
          simp only [Value.slice.injEq, Option.some.injEq, Addr.mk.injEq] at f1
          obtain ⟨⟨rfl, _⟩, -, -⟩ := f1
          rw [ROW.out] at a6 o6
          obtain ⟨gr2, _, f2, -, -, a7, -⟩ := o6.spotD (k := i) (by rw [RWL.out]; exact hic)
          simp only [Value.slice.injEq] at f2
          obtain ⟨rfl, -, -⟩ := f2
          rw [RWL.out] at a6
          rw [REX.out] at a7
          have B9 := Lib.hid ((BWS.out.alloc hsw _).grown g5 (by simp; omega) (fun q hq => (OO.out.lt q hq).1))
          have O9 := Lib.hid (show OwnR w5 w.heap.size v5 (nightTo ls nt (m + 1)).1 by rw [NN.out]; exact o5)
          have S9 := Lib.hid (show ∀ q, v5.ownBlock = some q → q = w.heap.size ∨ T ≤ q from fun q hq => by
            rcases hat5 with t | t
            · exact SE.out q (by rw [← t]; exact hq)
            · rw [t] at hq
              have q1 := Option.some.inj hq
              have q2 := HTL.out
              have q3 := hsm
              right
              simp only [World.size_alloc] at q1
              omega)
          have H9 := Lib.hid (show T ≤ w5.heap.size by have := HTL.out; have := g5.size; simp only [World.size_alloc] at this; omega)
          clear o5 g5 hat5 o6))
        exact ⟨⟨m + 1, v5, rfl, by omega, by rw [NN.out], by go_num, O9, S9, T5, H9, B9⟩, by simp [intOf]; omega⟩
      · have hmz : (0 : Int) < (m : Int) := by omega
        obtain ⟨j, hj⟩ : ∃ j : Nat, j = m - 1 := ⟨_, rfl⟩
        have hjm : (m : Int) - 1 = (j : Int) := by omega
        have hjw : IntKind.i64.wrap ((m : Int) - 1) = (j : Int) := by rw [hjm]; exact IntWalk.i64_in _ (by omega)
        have hjj : IntKind.i64.wrap (j : Int) = (j : Int) := IntWalk.i64_in _ (by omega)
        have hj0 : (0 : Int) ≤ (j : Int) := by omega
        have hj1 : (j : Int) < (nt.length : Int) := by omega
        have hjl : j < nt.length := by omega
        have rs4 := RS4.out hmp
        have ST := Lib.hid (show stepAt nt m (rows.getD (m - 1) []) (cs.getD i []) = changesB (nt.getD j []) (rows.getD j []) (nt.getD m []) (cs.getD i []) by unfold stepAt; rw [if_pos hmp, ← hj])
        rw [ST.out] at pk
        rw [← hj] at rs4
        obtain ⟨go, co, Q1, q1_, f1, b1, -, o7⟩ := OI.out.spotD (k := j) (by have := RSL.out; omega)
        have hjr : (j : Int) < (rows.length : Int) := by have := RSL.out; omega
        subst f1
        obtain ⟨_, _, Q2, q2_, f1, b2_, -, o8⟩ := (N.out.below BWI.out).spotD hjl
        simp only [Value.slice.injEq, Option.some.injEq, Addr.mk.injEq] at f1
        obtain ⟨⟨rfl, _⟩, -, -⟩ := f1
        have CB := Lib.hid (fun W (hb : Below wi.heap.size wi W) => specChb _ _ _ _ (nt.getD j []) (rows.getD j []) (nt.getD m []) (cs.getD i []) _ _ _ _ W (o8.below hb) (o7.below hb) (o1.below hb) (o3.below hb) (by have := N4.out j hjl; omega) (by omega) (by have := N4.out m hlt; omega) (by have := CRX.out i hic; omega))
        have cx := ch16 (ps := nt.getD j []) (cast := rows.getD j []) (nx := nt.getD m []) (af := cs.getD i []) (N4.out j hjl) (N4.out m hlt)
        clear o7 o8 ST hj hmp
        generalize hst : changesB (nt.getD j []) (rows.getD j []) (nt.getD m []) (cs.getD i []) = st at CB pk cx
        clear hst
        generalize (nt.getD j []).length = n3 at b2_ CB
        generalize (nt.getD m []).length = n4 at a1 CB
        generalize (rows.getD j []).length = n6 at b1 CB
        have XC := Lib.hid (show wi.cell? ⟨gn, j, none⟩ = some (.slice Q2 n3 q2_) ∧ wi.cell? ⟨go, j, none⟩ = some (.slice Q1 n6 q1_) ∧ wi.cell? ⟨gn, m, none⟩ = some (.slice P1 n4 p1_) ∧ wi.cell? ⟨gc, i, none⟩ = some (.slice P3 cl p3_) from ⟨b2_, b1, a1, a3⟩)
        have A3 := Lib.hid a3
        have hll : True := trivial
        clear a3
        go_wp2_with fail
        go_region_held3 (fun W => W.cell? ⟨gn, j, none⟩ = some (.slice Q2 n3 q2_) ∧ W.cell? ⟨go, j, none⟩ = some (.slice Q1 n6 q1_) ∧ W.cell? ⟨gn, m, none⟩ = some (.slice P1 n4 p1_) ∧ W.cell? ⟨gc, i, none⟩ = some (.slice P3 cl p3_))
          (first | exact XC.out | exact X2.out)
          (first | (go_at_call 35; refine (CB.out _ (Below.refl _ _).drew).mono ?_; rintro e wS ⟨rfl, b2⟩; have b3 := undrew b2; have X2 := Lib.hid (show _ ∧ _ ∧ _ ∧ _ from ⟨cell_below XC.out.1 b3, cell_below XC.out.2.1 b3, cell_below XC.out.2.2.1 b3, cell_below XC.out.2.2.2 b3⟩)))
        have BSI := Lib.hid (undrew b2)
        have BS := Lib.hid (BI.out.trans (BSI.out.mono BI.out.size))
        have a3 := cell_below A3.out BSI.out
        replace a4 := cell_below a4 BSI.out
        replace a5 := cell_below a5 BSI.out
        clear b2 b3 XC X2 CB b1 b2_ a1 A3
        by_cases he : 0 ≤ e
        rotate_left
        · have N2 := Lib.hid (NX.out (by rw [pk.out, decide_eq_false he]; rfl))
          clear YX NX pk
          go_wp2
          exact ⟨⟨i + 1, rfl, rfl, by omega, by go_num, N2, BS⟩, by simp [intOf]; omega⟩
        have ex : IntKind.i64.wrap (st + e) = st + e := IntWalk.i64_in _ (by omega)
        by_cases hq : st + e = left
        rotate_left
        · have hqb : ((st + e) == left) = false := by rw [beq_eq_false_iff_ne]; exact hq
          have N2 := Lib.hid (NX.out (by rw [pk.out, decide_eq_true he, decide_eq_false hq]; rfl))
          clear YX NX pk hq
          go_wp2
          exact ⟨⟨i + 1, rfl, rfl, by omega, by go_num, N2, BS⟩, by simp [intOf]; omega⟩
        have NN := Lib.hid (YX.out (by rw [pk.out, decide_eq_true he, decide_eq_true hq]; rfl))
        have hqb : ((st + e) == left) = true := by rw [hq]; simp
        have C9 := Lib.hid ((show OwnI wi wm.heap.size (.slice P3 cl p3_) (cs.getD i []) from o3).below BSI.out)
        have OR := Lib.hid (oneRow wS (.slice P3 cl p3_) wS.heap.size (Nat.le_refl _))
        have BMS := Lib.hid (BMI.out.trans (BSI.out.mono BMI.out.size))
        have BWS := Lib.hid (BWI.out.trans (BSI.out.mono BWI.out.size))
        have hsw := BWS.out.size
        have hsm := BMS.out.size
        have hrl := RSL.out
        have TS2 := Lib.hid (TI.out.below BSI.out)
        clear YX NX pk hq o3 o1 o4 RSL
        generalize cs.getD i [] = ci at C9 NN
        have hrl2 : rows.length ≤ 4000000 := by omega
        clear hrl
        go_wp2_with (first | (
          at_builtin
          refine wpList_rowR rfl (.tmp 83) (.tmp 88) rfl wm w.heap.size wS.heap.size (.slice (some ⟨go, 0, none⟩) rows.length co) _ (.slice P3 cl p3_) rows ci rfl rfl OO.out (BMS.out.alloc hsm _) (C9.out.alloc _) hbw OR.out hrl2 ?_
          intro v5 w5 o5 g5 hat5
          have T5 := Lib.hid ((TS2.out.below ((Below.refl _ _).alloc (Nat.le_refl _) _)).outOf (grownIn_of g5) (fun k hk => by rcases SE.out k hk with q | q <;> first | (left; omega) | (right; exact q)))
          obtain ⟨gt2, _, T2, t2_, f1, a6, -, o6⟩ := T5.out.own.spotD (k := m) (by rw [RL.out]; exact hlt)
          rw [RL.out] at f1
          simp only [Value.slice.injEq, Option.some.injEq, Addr.mk.injEq] at f1
          obtain ⟨⟨rfl, _⟩, -, -⟩ := f1
          rw [ROW.out] at a6 o6
          obtain ⟨gr2, _, f2, -, -, a7, -⟩ := o6.spotD (k := i) (by rw [RWL.out]; exact hic)
          simp only [Value.slice.injEq] at f2
          obtain ⟨rfl, -, -⟩ := f2
          rw [RWL.out] at a6
          rw [REX.out] at a7
          have B9 := Lib.hid ((BWS.out.alloc hsw _).grown g5 (by simp; omega) (fun q hq => (OO.out.lt q hq).1))
          have O9 := Lib.hid (show OwnR w5 w.heap.size v5 (nightTo ls nt (m + 1)).1 by rw [NN.out]; exact o5)
          have S9 := Lib.hid (show ∀ q, v5.ownBlock = some q → q = w.heap.size ∨ T ≤ q from fun q hq => by
            rcases hat5 with t | t
            · exact SE.out q (by rw [← t]; exact hq)
            · rw [t] at hq
              have q1 := Option.some.inj hq
              have q2 := HTL.out
              have q3 := hsm
              right
              simp only [World.size_alloc] at q1
              omega)
          have H9 := Lib.hid (show T ≤ w5.heap.size by have := HTL.out; have := g5.size; simp only [World.size_alloc] at this; omega)
          clear o5 g5 hat5 o6))
        exact ⟨⟨m + 1, v5, rfl, by omega, by rw [NN.out], by go_num, O9, S9, T5, H9, B9⟩, by simp [intOf]; omega⟩
end Go.Proofs.Ytanlfkkmnnjpeaa

/- Rows of the program's ways (two slices and a number each); the slices may be shared. No condition. -/
namespace Go.Proofs.Ytanlfkkmnnjpeaa
set_option linter.unusedVariables false
set_option linter.unusedSimpArgs false
open Go.RowKit

structure RWay where
  u1 : Value
  u2 : Value
  ps : List Int
  cs : List Int
  ah : Int
def RWay.zero : RWay := ⟨.slice none 0 0, .slice none 0 0, [], [], 0⟩
def RWay.vals (l : RWay) : List Value := [l.u1, l.u2, .int .i64 l.ah]
def RWay.agg (l : RWay) : Value := .agg #[l.u1, l.u2, .int .i64 l.ah]
def flatW (xs : List RWay) : List Value := xs.flatMap RWay.vals
theorem flatW_len (xs : List RWay) : (flatW xs).length = xs.length * 3 := by
  unfold flatW
  induction xs with
  | nil => rfl
  | cons x xs ih => rw [List.flatMap_cons, List.length_append, ih, List.length_cons, show x.vals.length = 3 from rfl]; omega
theorem flatW_at (xs : List RWay) (k j : Nat) (hj : j < 3) (hk : k < xs.length) : (flatW xs)[k * 3 + j]? = xs[k].vals[j]? := by
  unfold flatW
  induction xs generalizing k with
  | nil => simp at hk
  | cons x xs ih =>
    rw [List.flatMap_cons]
    cases k with
    | zero => rw [List.getElem?_append_left (by show _ < 3; omega), Nat.zero_mul, Nat.zero_add]; rfl
    | succ k =>
      rw [List.getElem?_append_right (by show 3 ≤ _; omega), show (k + 1) * 3 + j - x.vals.length = k * 3 + j by show _ - 3 = _; omega]
      exact ih k (by simpa using hk)
/-- The slices of a way, in blocks of P. -/
structure WayOk (w : World) (P : Nat → Prop) (l : RWay) : Prop where
  o1 : OwnI w 0 l.u1 l.ps
  o2 : OwnI w 0 l.u2 l.cs
  p1 : ∀ b, l.u1.ownBlock = some b → P b
  p2 : ∀ b, l.u2.ownBlock = some b → P b
def OwnW (w : World) (base : Nat) (P : Nat → Prop) (v : Value) (xs : List RWay) : Prop := w.ownsRow base 60 3 v xs.length (flatW xs) ∧ ∀ l ∈ xs, WayOk w P l
section
variable {w w' : World} {base b : Nat} {P P' Q : Nat → Prop} {v : Value} {xs : List RWay} {l : RWay}
theorem WayOk.in (h : WayOk w P l) (g : GrownIn w w' Q) (hp : ∀ i, P i → ¬ Q i) : WayOk w' P l := ⟨h.o1.in g (fun i e => hp i (h.p1 i e)), h.o2.in g (fun i e => hp i (h.p2 i e)), h.p1, h.p2⟩
theorem WayOk.below (h : WayOk w P l) (hb : Below w.heap.size w w') : WayOk w' P l := ⟨h.o1.below hb, h.o2.below hb, h.p1, h.p2⟩
theorem WayOk.mono (h : WayOk w P l) (hp : ∀ i, P i → P' i) : WayOk w P' l := ⟨h.o1, h.o2, fun i e => hp i (h.p1 i e), fun i e => hp i (h.p2 i e)⟩
theorem WayOk.zero (w : World) (P : Nat → Prop) : WayOk w P RWay.zero := ⟨⟨rfl, .inl ⟨rfl, rfl⟩⟩, ⟨rfl, .inl ⟨rfl, rfl⟩⟩, (fun i e => by cases e), (fun i e => by cases e)⟩
theorem OwnW.lt (h : OwnW w base P v xs) : ∀ k, v.ownBlock = some k → base ≤ k ∧ k < w.heap.size := World.ownsRow.lt h.1
theorem OwnW.in (h : OwnW w base P v xs) (g : GrownIn w w' Q) (hv : ∀ i, v.ownBlock = some i → ¬ Q i) (hp : ∀ i, P i → ¬ Q i) : OwnW w' base P v xs := ⟨ownsRow_in h.1 g hv, fun l hl => (h.2 l hl).in g hp⟩
theorem OwnW.below (h : OwnW w base P v xs) (hb : Below w.heap.size w w') : OwnW w' base P v xs :=
  ⟨World.ownsRow.kept h.1 (grown_of_below hb none) (by cases v.ownBlock <;> simp), fun l hl => (h.2 l hl).below hb⟩
theorem OwnW.alloc (h : OwnW w base P v xs) (o : Obj) : OwnW (w.alloc o) base P v xs := h.below ((Below.refl _ _).alloc (Nat.le_refl _) _)
theorem OwnW.widen (h : OwnW w base P v xs) (hp : ∀ i, P i → P' i) : OwnW w base P' v xs := ⟨h.1, fun l hl => (h.2 l hl).mono hp⟩
theorem OwnW.nil (w : World) (base : Nat) (P : Nat → Prop) : OwnW w base P (.slice none 0 0) [] := ⟨⟨rfl, .inl ⟨rfl, rfl⟩⟩, fun l hl => by cases hl⟩
theorem OwnW.slice (h : OwnW w base P v xs) : ∃ A c, v = .slice A xs.length c := by
  rcases h.1.2 with ⟨rfl, hn⟩ | ⟨g, cap, _, rfl, _⟩
  · exact ⟨none, 0, by rw [hn]⟩
  · exact ⟨_, _, rfl⟩
theorem OwnW.room {A : Option Addr} {n c : Nat} (h : OwnW w base P (.slice A n c) xs) : xs.length ≤ c := by
  rcases h.1.2 with ⟨e, hn⟩ | ⟨g, cap, cur, e, _, _, hc, _⟩
  · simp only [Value.slice.injEq] at e; omega
  · simp only [Value.slice.injEq] at e; omega
/-- Way k: its cells. -/
theorem OwnW.spot (h : OwnW w base P v xs) {k : Nat} (hk : k < xs.length) :
    ∃ g c, v = .slice (some ⟨g, 0, none⟩) xs.length c ∧ (base ≤ g ∧ g < w.heap.size) ∧ w.cell? ⟨g, k * 3, none⟩ = some xs[k].u1 ∧ w.cell? ⟨g, k * 3 + 1, none⟩ = some xs[k].u2 ∧ w.cell? ⟨g, k * 3 + 2, none⟩ = some (.int .i64 xs[k].ah) := by
  have hlt := h.lt
  obtain ⟨h, _⟩ := h
  have hl := flatW_len xs
  rcases id h.2 with ⟨_, hn⟩ | ⟨g, cap, cur, rfl, hb, hg, _⟩
  · omega
  · refine ⟨g, cap, rfl, hlt g rfl, ?_, ?_, ?_⟩
    · rw [World.ownsRow.cellAt h (k * 3) (by omega)]; exact flatW_at xs k 0 (by omega) hk
    · rw [World.ownsRow.cellAt h (k * 3 + 1) (by omega)]; exact flatW_at xs k 1 (by omega) hk
    · rw [World.ownsRow.cellAt h (k * 3 + 2) (by omega)]; exact flatW_at xs k 2 (by omega) hk
end
theorem infoWay : (Try.prog.info? 60).map (fun i => (i.zero, i.size, i.bytes)) = some (some (.agg #[.slice none 0 0, .slice none 0 0, .int .i64 0]), 3, 56) := by kernel_rfl
/-- A new row that holds one way. -/
theorem oneWayRow (w : World) (z : Int) (u1 u2 : Value) (b : Nat) (hb : b ≤ w.heap.size) : (w.alloc (.cells #[u1, u2, .int .i64 z] 60)).ownsRow b 60 3 (.slice (some ⟨w.heap.size, 0, none⟩) 1 1) 1 [u1, u2, .int .i64 z] :=
  ⟨rfl, .inr ⟨w.heap.size, 1, #[u1, u2, .int .i64 z], rfl, hb, heap_alloc_new w _, Nat.le_refl _, by simp only [maxLen]; omega, rfl, rfl⟩⟩
theorem oneW (w : World) (l : RWay) (P : Nat → Prop) (b : Nat) (hb : b ≤ w.heap.size) (h : WayOk w P l) : OwnW (w.alloc (.cells #[l.u1, l.u2, .int .i64 l.ah] 60)) b P (.slice (some ⟨w.heap.size, 0, none⟩) 1 1) [l] :=
  ⟨oneWayRow w l.ah l.u1 l.u2 b hb, fun x hx => by rw [List.mem_singleton.1 hx]; exact h.below ((Below.refl _ _).alloc (Nat.le_refl _) _)⟩
/-- One way more behind a row whose own block none of the ways' slices lies in. -/
theorem run_oneWay {w : World} {base b2 : Nat} {P : Nat → Prop} {v x : Value} {ls : List RWay} {l : RWay} (ty : TypeId) (h : OwnW w base P v ls) (hv : ∀ i, v.ownBlock = some i → ¬ P i) (hw : base ≤ w.heap.size)
    (hlo : WayOk w P l) (hx : w.ownsRow b2 60 3 x 1 [l.u1, l.u2, .int .i64 l.ah]) (hl : ls.length ≤ 1000000) :
    ∃ v' w', (Builtin.append_ #[63, 63] ty #[v, x]).run Try.prog w = .ok v' w' ∧ OwnW w' base P v' (ls ++ [l]) ∧ w.grownBy w' v.ownBlock ∧ (v'.ownBlock = v.ownBlock ∨ v'.ownBlock = some w.heap.size) := by
  obtain ⟨i, hi, hz, hs, hbd⟩ := info_parts infoWay
  obtain ⟨A1, c1, e1⟩ := hlo.o1.slice
  obtain ⟨A2, c2, e2⟩ := hlo.o2.slice
  rcases id hx.2 with ⟨_, hn⟩ | ⟨g, cap, cur, rfl, _⟩
  · omega
  · obtain ⟨v', w', hr, o, g1, _, hat⟩ := run_append_own_at (P := Try.prog) w base 63 ty 60 i (.agg #[.slice none 0 0, .slice none 0 0, .int .i64 0]) 3 56 Try.underlying63 hi hz hs hbd rfl (by omega) v ls.length (flatW ls) h.1
      ⟨g, 0, none⟩ 1 cap [l.u1, l.u2, .int .i64 l.ah] (by simp) (World.ownsRow.cells hx rfl) (by rw [e1, e2]; simp [Value.oneCell']) (by simp only [maxLen]; omega) (by omega) hw
    have gi := grownIn_of g1
    refine ⟨v', w', hr, ⟨?_, fun x hx => ?_⟩, g1, hat⟩
    · have e : flatW (ls ++ [l]) = flatW ls ++ [l.u1, l.u2, .int .i64 l.ah] := by unfold flatW; rw [List.flatMap_append]; rfl
      rw [e, List.length_append]
      exact o
    · rcases List.mem_append.1 hx with q | q
      · exact (h.2 x q).in gi (fun i p e => hv i e p)
      · rw [List.mem_singleton.1 q]; exact hlo.in gi (fun i p e => hv i e p)
/-- The ways can be read there, whoever owns the row. -/
structure View (w : World) (P : Nat → Prop) (v : Value) (xs : List RWay) : Prop where
  cells : ∃ g c, v = .slice (some ⟨g, 0, none⟩) xs.length c ∧ (xs.length ≤ c ∧ g < w.heap.size) ∧ ∀ k (hk : k < xs.length), w.cell? ⟨g, k * 3, none⟩ = some xs[k].u1 ∧ w.cell? ⟨g, k * 3 + 1, none⟩ = some xs[k].u2 ∧ w.cell? ⟨g, k * 3 + 2, none⟩ = some (.int .i64 xs[k].ah)
  ok : ∀ l ∈ xs, WayOk w P l
section
variable {w w' : World} {P P' Q : Nat → Prop} {v : Value} {xs : List RWay}
theorem View.spot (h : View w P v xs) {k : Nat} (hk : k < xs.length) :
    ∃ g c, v = .slice (some ⟨g, 0, none⟩) xs.length c ∧ (xs.length ≤ c ∧ g < w.heap.size) ∧ w.cell? ⟨g, k * 3, none⟩ = some xs[k].u1 ∧ w.cell? ⟨g, k * 3 + 1, none⟩ = some xs[k].u2 ∧ w.cell? ⟨g, k * 3 + 2, none⟩ = some (.int .i64 xs[k].ah) := by
  obtain ⟨g, c, e, hc, h1⟩ := h.cells
  exact ⟨g, c, e, hc, h1 k hk⟩
theorem View.slice (h : View w P v xs) : ∃ A c, v = .slice A xs.length c := by
  obtain ⟨g, c, e, _⟩ := h.cells
  exact ⟨_, _, e⟩
theorem View.widen (h : View w P v xs) (hp : ∀ i, P i → P' i) : View w P' v xs := ⟨h.cells, fun l hl => (h.ok l hl).mono hp⟩
/-- Whatever keeps its cells and the rows in it keeps it. -/
theorem View.keep (h : View w P v xs) (hs : w.heap.size ≤ w'.heap.size) (hc : ∀ g, v.ownBlock = some g → ∀ j u, j < xs.length * 3 → w.cell? ⟨g, j, none⟩ = some u → w'.cell? ⟨g, j, none⟩ = some u) (ho : ∀ l ∈ xs, WayOk w' P l) : View w' P v xs := by
  obtain ⟨g, c, rfl, hr, h1⟩ := h.cells
  refine ⟨⟨g, c, rfl, ⟨hr.1, by omega⟩, fun k hk => ?_⟩, ho⟩
  obtain ⟨a, b, d⟩ := h1 k hk
  exact ⟨hc g rfl _ _ (by omega) a, hc g rfl _ _ (by omega) b, hc g rfl _ _ (by omega) d⟩
theorem View.below (h : View w P v xs) (hb : Below w.heap.size w w') : View w' P v xs := h.keep hb.size (fun g _ j u _ e => cell_below e hb) (fun l hl => (h.ok l hl).below hb)
theorem OwnW.view {base : Nat} (h : OwnW w base P v xs) (hn : 1 ≤ xs.length) : View w P v xs := by
  refine ⟨?_, h.2⟩
  obtain ⟨g, c, e, hg, _⟩ := h.spot (k := 0) (by omega)
  subst e
  refine ⟨g, c, rfl, ⟨h.room, hg.2⟩, fun k hk => ?_⟩
  obtain ⟨g2, c2, e2, _, q⟩ := h.spot hk
  simp only [Value.slice.injEq, Option.some.injEq, Addr.mk.injEq, and_true, true_and] at e2
  rw [← e2.1] at q
  exact q
end
/-- One way more: what stood there stands there still. -/
theorem run_oneWay2 {w : World} {base b2 : Nat} {P : Nat → Prop} {v x : Value} {ls : List RWay} {l : RWay} (ty : TypeId) (h : OwnW w base P v ls) (hv : ∀ i, v.ownBlock = some i → ¬ P i) (hw : base ≤ w.heap.size)
    (hlo : WayOk w P l) (hx : w.ownsRow b2 60 3 x 1 [l.u1, l.u2, .int .i64 l.ah]) (hl : ls.length ≤ 1000000) :
    ∃ v' w', (Builtin.append_ #[63, 63] ty #[v, x]).run Try.prog w = .ok v' w' ∧ OwnW w' base P v' (ls ++ [l]) ∧ w.grownBy w' v.ownBlock ∧ (v'.ownBlock = v.ownBlock ∨ v'.ownBlock = some w.heap.size) ∧
      (∀ g j u, w.cell? ⟨g, j, none⟩ = some u → (v.ownBlock = some g → j < ls.length * 3) → w'.cell? ⟨g, j, none⟩ = some u) := by
  obtain ⟨v', w', hr, o, g1, hat⟩ := run_oneWay ty h hv hw hlo hx hl
  refine ⟨v', w', hr, o, g1, hat, fun g j u hc hj => ?_⟩
  by_cases hg : v.ownBlock = some g
  rotate_left
  · exact g1.cell hc (fun e => hg e.symm)
  obtain ⟨i, hi, hz, hs, hb⟩ := info_parts infoWay
  have hu : Try.prog.underlying 63 = some (.slice 60) := Try.underlying63
  obtain ⟨A1, c1, e1⟩ := hlo.o1.slice
  obtain ⟨A2, c2, e2⟩ := hlo.o2.slice
  have one : ∀ u ∈ [l.u1, l.u2, .int .i64 l.ah], u.oneCell' = true := by rw [e1, e2]; simp [Value.oneCell']
  obtain ⟨gx, capx, curx, ex, _⟩ : ∃ g cap cur, x = .slice (some ⟨g, 0, none⟩) 1 cap ∧ w.heap[g]? = some (.cells cur 60 (0, 0)) := by
    rcases hx.2 with ⟨_, q⟩ | ⟨g, cap, cur, e, _, hg, _⟩
    · cases q
    · exact ⟨g, cap, cur, e, hg⟩
  subst ex
  have hnews : ∀ j u, [l.u1, l.u2, .int .i64 l.ah][j]? = some u → w.cell? ((⟨gx, 0, none⟩ : Addr).add j) = some u := World.ownsRow.cells hx rfl
  have hj3 := hj hg
  have hj4 : j < (ls ++ [l]).length * 3 := by rw [List.length_append, List.length_singleton]; omega
  have hlen := flatW_len ls
  rcases id h.1.2 with ⟨rfl, hn⟩ | ⟨g0, cap, cur, rfl, hbg, hg0, hnc, hcm, hcs, htake⟩
  · cases hg
  · obtain rfl : g0 = g := Option.some.inj hg
    by_cases hroom : ls.length + 1 ≤ cap
    · have hr2 := run_append_room (P := Try.prog) w 63 ty 60 i hu hi g0 ls.length cap cur hg0 ⟨gx, 0, none⟩ 1 capx [l.u1, l.u2, .int .i64 l.ah] (by rw [hs]; rfl) hnews one hroom (by
        rw [hs]; rw [hcs]; simp; omega)
      rw [hr2] at hr
      injection hr with q1 q2
      subst q1
      have o1 := o.1
      rw [List.length_append, List.length_singleton] at o1 hj4
      have a := World.ownsRow.cellAt o1 j hj4
      rw [a]
      have b := World.ownsRow.cellAt h.1 j hj3
      rw [b] at hc
      have e : flatW (ls ++ [l]) = flatW ls ++ [l.u1, l.u2, .int .i64 l.ah] := by unfold flatW; rw [List.flatMap_append]; rfl
      rw [e, List.getElem?_append_left (by omega)]
      exact hc
    · have hr2 := run_append_grow (P := Try.prog) w 63 ty 60 i (.agg #[.slice none 0 0, .slice none 0 0, .int .i64 0]) hu hi hz ⟨g0, 0, none⟩ ls.length cap (flatW ls) (by rw [hs]; omega) (World.ownsRow.cells h.1 rfl) ⟨gx, 0, none⟩ 1 capx [l.u1, l.u2, .int .i64 l.ah] (by rw [hs]; rfl) hnews (by omega) (by omega) (growslice_fits (by omega) (by rw [hb]; omega))
      rw [hr2] at hr
      injection hr with q1 q2
      subst q2
      have hlt := World.block_lt_of_cell? w _ hc
      have g2 : ∀ o, w.grownBy (w.drew.alloc o) none := fun o => ⟨rfl, rfl, rfl, by simp, fun k hk _ => heap_alloc_old w.drew o hk⟩
      exact (g2 _).cell hc (by simp)
theorem step_oneWay {w : World} {o : Oper} {a : Act} {Q : Exit → Act → World → Prop} {ops : Array Oper} {K : Act → World → Prop} {E : Prop} (hgd : o.guard = none) (s y : Operand) (ho : o.op = .call { callee := .builtin .append, args := #[s, y], argTypes := #[63, 63] })
    (base b2 : Nat) (P : Nat → Prop) (v x : Value) (ls : List RWay) (l : RWay) (hs : a.eval s = v) (hy : a.eval y = x) (h : OwnW w base P v ls) (hv : ∀ i, v.ownBlock = some i → ¬ P i) (hw : base ≤ w.heap.size)
    (hlo : WayOk w P l) (hx : w.ownsRow b2 60 3 x 1 [l.u1, l.u2, .int .i64 l.ah]) (hl : ls.length ≤ 1000000)
    (hK : ∀ v' w', OwnW w' base P v' (ls ++ [l]) → w.grownBy w' v.ownBlock → (v'.ownBlock = v.ownBlock ∨ v'.ownBlock = some w.heap.size) → (∀ g j u, w.cell? ⟨g, j, none⟩ = some u → (v.ownBlock = some g → j < ls.length * 3) → w'.cell? ⟨g, j, none⟩ = some u) → K (a.put o.dst v') w') : if Region.wanted o (yielded ops a.tmps) = true then Oper.wp Try.prog o a w K Q else E := by
  have hn : Region.wanted o (yielded ops a.tmps) = true := by simp [Region.wanted, hgd]
  rw [if_pos hn]
  obtain ⟨v', w', hrun, e2, e3, e4, e5⟩ := run_oneWay2 (ty := o.type) h hv hw hlo hx hl
  unfold Oper.wp execOp
  simp only [ho, resolve, invoke, builtin, Sem.run_bind, Sem.run_pure, Result.andThen_ok, List.map_toArray, List.map_cons, List.map_nil, hs, hy, hrun]
  exact hK _ _ e2 e3 e4 e5
/-- The first of the least, among the first k + 1. -/
def leastK (s : Nat → Int) : Nat → Nat
  | 0 => 0
  | k + 1 => if s (k + 1) < s (leastK s k) then k + 1 else leastK s k
theorem leastK_le (s : Nat → Int) : ∀ k, leastK s k ≤ k := by
  intro k
  induction k with
  | zero => exact Nat.le_refl _
  | succ k ih => rw [leastK]; split <;> omega
theorem leastK_is (s : Nat → Int) : ∀ k j, j ≤ k → s (leastK s k) ≤ s j ∧ (j < leastK s k → s (leastK s k) < s j) := by
  intro k
  induction k with
  | zero => intro j hj; obtain rfl : j = 0 := by omega
            exact ⟨Int.le_refl _, fun h => absurd h (Nat.not_lt_zero _)⟩
  | succ k ih =>
    intro j hj
    rw [leastK]
    by_cases c : s (k + 1) < s (leastK s k)
    · rw [if_pos c]
      rcases (by omega : j ≤ k ∨ j = k + 1) with q | rfl
      · have := (ih j q).1
        exact ⟨by omega, fun _ => by omega⟩
      · exact ⟨Int.le_refl _, fun h => absurd h (Nat.lt_irrefl _)⟩
    · rw [if_neg c]
      rcases (by omega : j ≤ k ∨ j = k + 1) with q | rfl
      · exact ih j q
      · have := leastK_le s k
        exact ⟨by omega, fun h => by omega⟩
def bestIx (s : RWay → Int) (xs : List RWay) (k : Nat) : Nat := leastK (fun i => s (xs.getD i RWay.zero)) k
def bestAt (s : RWay → Int) (xs : List RWay) (k : Nat) : RWay := xs.getD (bestIx s xs k) RWay.zero
def bestW (s : RWay → Int) (xs : List RWay) : RWay := bestAt s xs (xs.length - 1)
theorem bestAt_next (s : RWay → Int) (xs : List RWay) (k : Nat) : bestAt s xs (k + 1) = if s (xs.getD (k + 1) RWay.zero) < s (bestAt s xs k) then xs.getD (k + 1) RWay.zero else bestAt s xs k := by
  unfold bestAt bestIx
  rw [leastK]
  split <;> rfl
theorem bestAt_mem (s : RWay → Int) {xs : List RWay} {k : Nat} (hk : k < xs.length) : bestAt s xs k ∈ xs := by
  have := leastK_le (fun i => s (xs.getD i RWay.zero)) k
  unfold bestAt bestIx
  rw [List.getD_eq_getElem?_getD, List.getElem?_eq_getElem (by omega)]
  exact List.getElem_mem _
end Go.Proofs.Ytanlfkkmnnjpeaa
