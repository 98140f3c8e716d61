/- The law FnChanges, walked over the contracts of the program's functions. No condition. -/
import Derived.Test.YtanlfkkmnnjpeaaPk11
import Derived.Test.YtanlfkkmnnjpeaaPk4
import Derived.Test.YtanlfkkmnnjpeaaPk9
import Derived.Test.YtanlfkkmnnjpeaaHasS
import Derived.Test.YtanlfkkmnnjpeaaGodP
import Derived.Test.YtanlfkkmnnjpeaaLstN
import Derived.Test.YtanlfkkmnnjpeaaSamQ
import Derived.Test.YtanlfkkmnnjpeaaSamI
import Derived.Test.YtanlfkkmnnjpeaaPk12
import Derived.BigQuiet
namespace Go.Proofs.Ytanlfkkmnnjpeaa
set_option linter.unusedVariables false
set_option linter.unusedSimpArgs false
open Go.RowKit

theorem good_night {ls : List RPlayer} {nt : List (List Int)} (h : playersOk ls = true) (hm : ∀ l ∈ nt, GoodMoment l) (hl : 1 ≤ nt.length ∧ nt.length ≤ 4) : nightOk ls nt = true := by
  rw [nok_all fun k hk => ?_, h]
  · simp [inB]; omega
  · obtain ⟨a, b⟩ := hm _ (List.getElem_mem hk)
    unfold momentOk
    rw [decide_eq_true (by omega), asc_rising a (by omega)]
    rfl
/-- What the search finds at moment k. -/
def fxAt (ls : List RPlayer) (nt : List (List Int)) (k : Nat) : List Int × Bool := castR (firstCast ls (nt.getD k []))
def fsTo (ls : List RPlayer) (nt : List (List Int)) : Nat → List (List Int)
  | 0 => []
  | k + 1 => fsTo ls nt k ++ [(fxAt ls nt k).1]
def canTo (ls : List RPlayer) (nt : List (List Int)) : Nat → Bool
  | 0 => true
  | k + 1 => canTo ls nt k && (fxAt ls nt k).2
theorem fs_len (ls : List RPlayer) (nt : List (List Int)) : ∀ k, (fsTo ls nt k).length = k := by
  intro k
  induction k with
  | zero => rfl
  | succ k ih => rw [fsTo, List.length_append, ih]; rfl
theorem fs_at (ls : List RPlayer) (nt : List (List Int)) : ∀ n k, k < n → (fsTo ls nt n).getD k [] = (fxAt ls nt k).1 := by
  intro n
  induction n with
  | zero => intro k h; omega
  | succ n ih =>
    intro k h
    have hl := fs_len ls nt n
    rw [fsTo, List.getD_eq_getElem?_getD]
    rcases (by omega : k < n ∨ k = n) with q | rfl
    · rw [List.getElem?_append_left (by omega), ← List.getD_eq_getElem?_getD]; exact ih k q
    · rw [List.getElem?_append_right (by omega), hl, Nat.sub_self]; rfl
theorem can_iff (ls : List RPlayer) (nt : List (List Int)) : ∀ n, canTo ls nt n = true ↔ ∀ k, k < n → (fxAt ls nt k).2 = true := by
  intro n
  induction n with
  | zero => simp [canTo]
  | succ n ih =>
    rw [canTo, Bool.and_eq_true, ih]
    exact ⟨fun ⟨h1, h2⟩ k hk => by rcases (by omega : k < n ∨ k = n) with q | rfl; exact h1 k q; exact h2, fun h => ⟨fun k hk => h k (by omega), h n (by omega)⟩⟩
/-- There is a first casting just if there are castings, and it stands first. -/
theorem fx_head {ls : List RPlayer} {nt : List (List Int)} (F : ChangeFacts ls nt) {k : Nat} (hk : k < nt.length) : ((fxAt ls nt k).2 = true ∧ 0 < (csM ls nt k).length ∧ (csM ls nt k).getD 0 [] = (fxAt ls nt k).1 ∧ firstCast ls (nt.getD k []) = some (fxAt ls nt k).1) ∨ ((fxAt ls nt k).2 = false ∧ (csM ls nt k).length = 0 ∧ firstCast ls (nt.getD k []) = none) := by
  have h := F.first k hk
  unfold fxAt
  cases c : firstCast ls (nt.getD k []) with
  | none =>
    rw [c] at h
    right
    refine ⟨rfl, ?_, rfl⟩
    cases d : csM ls nt k with
    | nil => rfl
    | cons x t => rw [d] at h; cases h
  | some x =>
    rw [c] at h
    left
    cases d : csM ls nt k with
    | nil => rw [d] at h; cases h
    | cons y t =>
      rw [d] at h
      have e : y = x := Option.some.inj h
      exact ⟨rfl, by simp, by rw [e]; rfl, rfl⟩
theorem can_few {ls : List RPlayer} {nt : List (List Int)} (F : ChangeFacts ls nt) : canTo ls nt nt.length = decide (0 ≤ fewest ls nt) := by
  by_cases c : 0 ≤ fewest ls nt
  · rw [decide_eq_true c, can_iff]
    intro k hk
    obtain ⟨x, hx⟩ := F.can.1 c k hk
    unfold fxAt
    rw [hx]
    rfl
  · rw [decide_eq_false c]
    cases q : canTo ls nt nt.length with
    | false => rfl
    | true =>
      refine absurd (F.can.2 fun k hk => ?_) c
      have h := (can_iff ls nt _).1 q k hk
      unfold fxAt at h
      cases d : firstCast ls (nt.getD k []) with
      | none => rw [d] at h; cases h
      | some x => exact ⟨x, rfl⟩

/- HYPOTHESES -/
set_option maxRecDepth 100000 in
set_option maxHeartbeats 6400000 in
theorem FnChanges_walk (a : Option Addr) (n cap : Nat) (z : List Int) (w : World) (hr : IsRow .u8 w a n cap z) :
    Calls Try.prog 3 #[.slice a n cap] w fun e w' => e = .returned (.bool true) ∧ Below w.heap.size w w' := by
  have hm := row_len hr
  by_cases hn : 1048576 < n
  · clear hr
    go_enter Try.func3, Try.ntmps3
    go_wp2_with fail
    refine (big_yes a n cap w hn hm).mono ?_
    rintro e w' ⟨rfl, rfl⟩
    go_wp2
    go_ret
    exact ⟨rfl, Below.refl _ _⟩
  have CD := Lib.hid (drawNight_any a n cap z w hr (by omega))
  clear hr
  go_enter Try.func3, Try.ntmps3
  go_wp2_with fail
  refine (big_no a n cap w (by omega)).mono ?_
  rintro e w' ⟨rfl, rfl⟩
  go_wp2_with fail
  refine CD.out.mono ?_
  rintro e w1 ⟨vl, vu, ls, nt, rfl, o1, u1, hl, hg, hml, hmg, b1⟩
  obtain ⟨L, cl, rfl⟩ := o1.slice
  obtain ⟨U, cu, rfl⟩ := u1.slice
  have O1 := Lib.hid o1
  have U1 := Lib.hid u1
  have B1 := Lib.hid b1
  have hok0 := good_players hg hl
  have hok := good_night hok0 hmg hml
  have F := Lib.hid (changeFacts hok)
  have hl2 : ls.length ≤ 2000000 := by omega
  have hrw : ∀ k (hk : k < ls.length), ls[k].f0.length ≤ 2000000 := fun k hk => by have := asc_len (m := 6) (hg _ (List.getElem_mem hk)).2; omega
  have hnt : nt.length ≤ 2000000 := by omega
  have hnr : ∀ k (hk : k < nt.length), nt[k].length ≤ 2000000 := fun k hk => by have := (hmg _ (List.getElem_mem hk)).2; omega
  have N3 := Lib.hid (fun k (hk : k < nt.length) => (show (nt.getD k []).length ≤ 3 by rw [getR hk]; exact (hmg _ (List.getElem_mem hk)).2))
  have CF := Lib.hid (fun W h u => implFew (.slice L ls.length cl) ls w.heap.size W h hl2 hrw (.slice U nt.length cu) nt w.heap.size u hnt hnr)
  have CB := Lib.hid (fun W h u => implBnt (.slice L ls.length cl) ls w.heap.size W h hl2 hrw (.slice U nt.length cu) nt w.heap.size u hnt hnr)
  have CN := Lib.hid (fun W h u => (show Calls Try.prog 19 #[.slice L ls.length cl, .slice U nt.length cu] W (fun e w' => e = .returned (.bool true) ∧ Below W.heap.size W w') from by have q := implNOk (.slice L ls.length cl) ls w.heap.size W h hl2 hrw (.slice U nt.length cu) nt w.heap.size u hnt hnr; rw [hok] at q; exact q))
  have CC := Lib.hid (fun v cs b W h u (hc : cs.length = nt.length) (h4 : ∀ k (h : k < cs.length), cs[k].length ≤ 2000000) => implCnc (.slice U nt.length cu) v nt cs w.heap.size b W h u (by omega) (by omega) hnr h4)
  have CG := Lib.hid (fun W h v ps b u (hp : ps.length ≤ 3) => implCgs (.slice L ls.length cl) ls w.heap.size W h hl2 hrw v ps b u (by omega))
  have CS := Lib.hid (fun W h v ps b u (hp : ps.length ≤ 3) => specFst (.slice L ls.length cl) ls w.heap.size W h hl2 hrw v ps b u (by omega))
  have CI := Lib.hid (fun W h v ps b u (hp : ps.length ≤ 3) x cs b3 h3 (hc : cs.length ≤ 2000000) => specCas (.slice L ls.length cl) ls w.heap.size W h hl2 hrw v ps b u (by omega) x cs b3 h3 hc)
  have BZ := Lib.hid (best_size ls nt)
  have CAN := Lib.hid (can_few F.out)
  have FL := Lib.hid (fun k => fs_len ls nt k)
  have FX := Lib.hid (fun k => firstCast_len ls (nt.getD k []))
  have HN := Lib.hid hml
  clear o1 u1 b1 CD hm hn hok0 hok hg hmg hl2 hrw hnr
  by_cases hf : 0 ≤ fewest ls nt
  · obtain ⟨hb1, hb2, hb3⟩ := F.out.best hf
    have hb0 := F.out.ok
    rw [decide_eq_true hf] at hb0
    obtain ⟨bn, okb, hbn⟩ : ∃ bn ok, bestNight ls nt = (bn, ok) := ⟨_, _, rfl⟩
    rw [hbn] at hb0 hb1 hb2 hb3 BZ CB
    dsimp only at hb0 hb1 hb2 hb3 BZ
    subst hb0
    have CANT : canTo ls nt nt.length = true := by rw [CAN.out, decide_eq_true hf]
    have CAK := (can_iff ls nt nt.length).1 CANT
    have FXH := Lib.hid (fun k (hk : k < nt.length) => (show (fxAt ls nt k).2 = true ∧ 0 < (csM ls nt k).length ∧ (csM ls nt k).getD 0 [] = (fxAt ls nt k).1 by
      rcases fx_head F.out hk with ⟨a1, a2, a3, -⟩ | ⟨a1, -, -⟩
      · exact ⟨a1, a2, a3⟩
      · rw [CAK k hk] at a1; cases a1))
    have LEAST := Lib.hid (show fewest ls nt ≤ countCh nt (fsTo ls nt nt.length) from F.out.least _ (fs_len ls nt _) fun k hk => by
      rw [fs_at ls nt _ k hk]
      rcases fx_head F.out hk with ⟨-, -, -, a4⟩ | ⟨a1, -, -⟩
      · exact a4
      · rw [CAK k hk] at a1; cases a1)
    have HB3 := Lib.hid hb3
    have BL := Lib.hid (fun k (hk : k < nt.length) => (show (bn.getD k []).length ≤ 4 by rw [getR (by rw [hb1]; exact hk)]; exact BZ.out.2 k _))
    have B4X := Lib.hid (fun k (h : k < bn.length) => (show bn[k].length ≤ 2000000 by have := BZ.out.2 k h; omega))
    have HB1 := Lib.hid hb1
    have CCB := Lib.hid (fun W v b h u => (show Calls Try.prog 14 #[.slice U nt.length cu, v] W (fun e w' => e = .returned (.int .i64 (fewest ls nt)) ∧ Below W.heap.size W w') from by have q := CC.out v bn b W h u hb1 B4X.out; rw [hb2] at q; exact q))
    have CCF := Lib.hid (fun W v b h u => CC.out v (fsTo ls nt nt.length) b W h u (fs_len ls nt _) (fun k hk => by have e := fs_at ls nt nt.length k (by rw [fs_len] at hk; exact hk); rw [getR hk] at e; rw [e]; have := FX.out k; unfold fxAt; omega))
    clear hb2 hb3 hbn CANT CAK CC CAN BZ
    generalize countCh nt (fsTo ls nt nt.length) = mf at CCF LEAST
    generalize fewest ls nt = mm at CF CCB LEAST hf
    have d1 : decide (0 ≤ mm) = true := decide_eq_true hf
    have d2 : decide (mf < mm) = false := decide_eq_false (by have := LEAST.out; omega)
    have d2n : ¬ mf < mm := by have := LEAST.out; omega
    have d3 : (mm != mm) = false := by simp
    go_wp2_with fail
    refine (CF.out _ O1.out U1.out).mono ?_
    rintro e w2 ⟨rfl, b2⟩
    have O2 := Lib.hid (O1.out.below b2)
    have U2 := Lib.hid (U1.out.below b2)
    have B2 := Lib.hid (B1.out.trans (b2.mono B1.out.size))
    clear b2 O1 U1 B1 CF
    go_wp2_with fail
    refine (CB.out _ O2.out U2.out).mono ?_
    rintro e w3 ⟨vb, rfl, ob, b3⟩
    replace ob : OwnR w3 w2.heap.size vb bn := ob
    obtain ⟨Bb, cb, hvb⟩ := ob.slice
    have O3 := Lib.hid (O2.out.below b3)
    have U3 := Lib.hid (U2.out.below b3)
    have B3 := Lib.hid (B2.out.trans (b3.mono B2.out.size))
    have V3 := Lib.hid (ob.mono B2.out.size)
    rw [HB1.out] at hvb
    subst hvb
    clear ob b3 O2 U2 B2 CB hb1
    dsimp only
    have d4 : ((nt.length : Int) != (nt.length : Int)) = false := by simp
    go_wp2_with fail
    refine (CCB.out _ _ _ U3.out V3.out).mono ?_
    rintro e w4 ⟨rfl, b4⟩
    have O4 := Lib.hid (O3.out.below b4)
    have U4 := Lib.hid (U3.out.below b4)
    have V4 := Lib.hid (V3.out.below b4)
    have B4 := Lib.hid (B3.out.trans (b4.mono B3.out.size))
    clear b4 O3 U3 V3 B3 CCB
    have FF := Lib.hid (fun W (hb : Below w4.heap.size w4 W) => (show OwnPlayer W w.heap.size (.slice L ls.length cl) ls ∧ OwnR W w.heap.size (.slice U nt.length cu) nt ∧ OwnR W w.heap.size (.slice Bb nt.length cb) bn ∧ Below w.heap.size w W from ⟨O4.out.below hb, U4.out.below hb, V4.out.below hb, B4.out.trans (hb.mono B4.out.size)⟩))
    have E0 := Lib.hid (emptyR w4 w4.heap.size w4.heap.size #[] rfl (Nat.le_refl _) rfl)
    have EB := Lib.hid ((Below.refl w4.heap.size w4).alloc (Nat.le_refl _) (.cells #[] 33))
    clear O4 U4 V4 B4
    go_wp2_with fail
    go_loopw [8, 9, 10] (fun fv cv kv wr => ∃ (k : Nat) (v : Value), v = fv ∧ k ≤ nt.length ∧ cv = .bool true ∧ kv = .int .i64 (k : Int) ∧ Hid (OwnR wr w4.heap.size v (fsTo ls nt k)) ∧ Hid (Below w4.heap.size w4 wr)) (fun _ _ kv _ => nt.length - (intOf kv).toNat)
    case atStart => exact ⟨0, _, rfl, by omega, rfl, rfl, E0, EB⟩
    case round =>
      clear E0 EB
      obtain ⟨k, v, rfl, hk, rfl, rfl, OO, BW⟩ := hrel
      have hbw4 := BW.out.size
      by_cases hlt : k < nt.length
      rotate_left
      · obtain rfl : k = nt.length := by omega
        obtain ⟨P9, U9, -, W9⟩ := FF.out _ BW.out
        have P8 := Lib.hid P9
        have U8 := Lib.hid U9
        have B8 := Lib.hid W9
        clear P9 U9 W9 FF d1 d3 d4
        go_wp2_with fail
        refine (CCF.out _ _ _ U8.out OO.out).mono ?_
        rintro e w9 ⟨rfl, b9⟩
        have P9 := Lib.hid (P8.out.below b9)
        have U9 := Lib.hid (U8.out.below b9)
        have B9 := Lib.hid (B8.out.trans (b9.mono B8.out.size))
        clear b9 P8 U8 B8 CCF OO BW
        have P9 := Lib.hid P9.out
        go_wp2_with fail
        refine (CN.out _ P9.out U9.out).mono ?_
        rintro e wa ⟨rfl, ba⟩
        have Ba := Lib.hid (B9.out.trans (ba.mono B9.out.size))
        have hsa := Ba.out.size
        clear ba P9 U9 B9
        obtain ⟨g0, hg0⟩ : ∃ g, g = wa.heap.size := ⟨_, rfl⟩
        have R1 := Lib.hid ((((twoI wa wa.heap.size 1 2 (Nat.le_refl _)).alloc (.cells #[.int .i64 0, .int .i64 0] 3)).alloc (.cells #[.int .i64 2, .int .i64 3] 3)).alloc (.cells #[.int .i64 1, .int .i64 1] 3))
        have R2 := Lib.hid (((twoI (wa.alloc (.cells #[.int .i64 1, .int .i64 2] 3)) wa.heap.size 0 0 (by simp)).alloc (.cells #[.int .i64 2, .int .i64 3] 3)).alloc (.cells #[.int .i64 1, .int .i64 1] 3))
        have R3 := Lib.hid ((twoI ((wa.alloc (.cells #[.int .i64 1, .int .i64 2] 3)).alloc (.cells #[.int .i64 0, .int .i64 0] 3)) wa.heap.size 2 3 (by simp; omega)).alloc (.cells #[.int .i64 1, .int .i64 1] 3))
        have R4 := Lib.hid (twoI (((wa.alloc (.cells #[.int .i64 1, .int .i64 2] 3)).alloc (.cells #[.int .i64 0, .int .i64 0] 3)).alloc (.cells #[.int .i64 2, .int .i64 3] 3)) wa.heap.size 1 1 (by simp; omega))
        have Q1 := Lib.hid (implChb _ _ _ _ [1, 2] [0, 0] [2, 3] [1, 1] _ _ _ _ _ R1.out R2.out R3.out R4.out (by simp) (by simp) (by simp) (by simp))
        rw [show changesB [1, 2] [0, 0] [2, 3] [1, 1] = 1 from by decide] at Q1
        simp only [World.size_alloc, List.length_cons, List.length_nil, Nat.zero_add, Nat.reduceAdd, Nat.add_assoc] at Q1
        have BQ := Lib.hid ((((Ba.out.alloc hsa (.cells #[.int .i64 1, .int .i64 2] 3)).alloc (by simp; omega) (.cells #[.int .i64 0, .int .i64 0] 3)).alloc (by simp; omega) (.cells #[.int .i64 2, .int .i64 3] 3)).alloc (by simp; omega) (.cells #[.int .i64 1, .int .i64 1] 3))
        clear hg0
        go_wp2_with fail
        refine Q1.out.mono ?_
        rintro e wb ⟨rfl, bb⟩
        have hbq := BQ.out.size
        simp only [World.size_alloc, Nat.add_assoc, Nat.reduceAdd] at hbq
        have Bb := Lib.hid (BQ.out.trans (bb.mono hbq))
        have hsb := Bb.out.size
        clear bb BQ Q1 R1 R2 R3 R4
        have Q2 := Lib.hid (implChb _ _ _ _ [1] [] [] [] wb.heap.size 0 0 0 _ (oneI wb wb.heap.size 1 (Nat.le_refl _)) (⟨rfl, .inl ⟨rfl, rfl⟩⟩ : OwnI _ 0 (.slice none 0 0) []) (⟨rfl, .inl ⟨rfl, rfl⟩⟩ : OwnI _ 0 (.slice none 0 0) []) (⟨rfl, .inl ⟨rfl, rfl⟩⟩ : OwnI _ 0 (.slice none 0 0) []) (by simp) (by simp) (by simp) (by simp))
        rw [show changesB [1] [] [] [] = -1 from by decide] at Q2
        have BR := Lib.hid (Bb.out.alloc hsb (.cells #[.int .i64 1] 3))
        go_wp2_with fail
        refine Q2.out.mono ?_
        rintro e wc ⟨rfl, bc⟩
        have Bc := Lib.hid (BR.out.trans (bc.mono BR.out.size))
        clear bc
        go_wp2
        go_ret
        exact ⟨by first | rfl | simp, Bc.out⟩
      have hk0 : (0 : Int) ≤ (k : Int) := by omega
      have hk1 : (k : Int) < (nt.length : Int) := by omega
      obtain ⟨P9, U9, V9, W9⟩ := FF.out _ BW.out
      obtain ⟨gn, _, N1, n1_, f1, x1, -, p1⟩ := U9.spotD hlt
      simp only [Value.slice.injEq] at f1
      obtain ⟨rfl, -, -⟩ := f1
      have h3 := N3.out k hlt
      have CG1 := Lib.hid (CG.out _ P9 _ _ _ p1 h3)
      obtain ⟨cs, hcs⟩ : ∃ cs, cs = csM ls nt k := ⟨_, rfl⟩
      rw [show castingsOf ls (nt.getD k []) = cs from hcs.symm] at CG1
      have hfx := FXH.out k hlt
      rw [← hcs] at hfx
      have CS1 := Lib.hid (fun W (hb : Below wr.heap.size wr W) => CS.out W (P9.below hb) _ _ _ (p1.below hb) h3)
      have FW := Lib.hid (fun W (hb : Below wr.heap.size wr W) => FF.out W (BW.out.trans (hb.mono BW.out.size)))
      have hxl := FX.out k
      have FSN := Lib.hid (show fsTo ls nt (k + 1) = fsTo ls nt k ++ [(fxAt ls nt k).1] from rfl)
      have CNN := Lib.hid (show canTo ls nt (k + 1) = (canTo ls nt k && (fxAt ls nt k).2) from rfl)
      rw [show castR (firstCast ls (nt.getD k [])) = fxAt ls nt k from rfl] at CS1 hxl
      have FSL := FL.out k
      have hbw := BW.out.size
      have CII := Lib.hid (fun W (hb : Below wr.heap.size wr W) x (cb : List Int) b3 (h3_ : OwnI W b3 x cb) (hc : cb.length ≤ 2000000) => CI.out W (P9.below hb) _ _ _ (p1.below hb) h3 x cb b3 h3_ hc)
      clear hcs P9 U9 p1 W9
      generalize fxAt ls nt k = fx at hfx CS1 hxl FSN CNN
      obtain ⟨xs, is⟩ := fx
      dsimp only at hfx hxl FSN CNN
      generalize hnl : (nt.getD k []).length = nl at x1 CG1 CS1 CII
      clear hnl
      obtain ⟨rfl, hcl, hc0⟩ := hfx
      go_wp2_with fail
      refine CG1.out.mono ?_
      rintro e w5 ⟨vc, rfl, oc, bc⟩
      obtain ⟨Cc, cc, rfl⟩ := oc.slice
      have x5 := cell_below x1 bc
      have OC := Lib.hid oc
      have B5 := Lib.hid bc
      clear oc bc x1 CG1
      go_wp2_with fail
      refine (CS1.out _ B5.out).mono ?_
      rintro e w6 ⟨vx, rfl, ox, bx⟩
      replace ox : OwnI w6 w5.heap.size vx xs := ox
      obtain ⟨Xx, cx, rfl⟩ := ox.slice
      have x6 := cell_below x5 bx
      have OC6 := Lib.hid (OC.out.below bx)
      have OX := Lib.hid (ox.mono B5.out.size)
      have B6 := Lib.hid (B5.out.trans (bx.mono B5.out.size))
      have hs6 := B6.out.size
      clear ox bx x5 OC CS1 B5
      dsimp only
      obtain ⟨gc, _, C1, c1_, f1, y0, -, q0⟩ := OC6.out.spotD hcl
      simp only [Value.slice.injEq] at f1
      obtain ⟨rfl, -, -⟩ := f1
      rw [hc0] at y0 q0
      obtain ⟨-, -, V6, -⟩ := FW.out _ B6.out
      obtain ⟨gb, _, D1, d1_, f1, z0, -, r0⟩ := V6.spotD (k := k) (by rw [HB1.out]; exact hlt)
      rw [HB1.out] at f1
      simp only [Value.slice.injEq] at f1
      obtain ⟨rfl, -, -⟩ := f1
      have SQ := Lib.hid (fun W (hb : Below w6.heap.size w6 W) => sameInts_same _ _ xs _ _ W (q0.below hb) (OX.out.below hb) (by omega))
      have hb3 := HB3.out k hlt
      have hbl := BL.out k hlt
      have CIx := Lib.hid (fun W (hb : Below w6.heap.size w6 W) => (show Calls Try.prog 18 #[.slice L ls.length cl, .slice N1 nl n1_, .slice D1 (bn.getD k []).length d1_] W (fun e w' => e = .returned (.bool true) ∧ Below W.heap.size W w') from by
        have q := CII.out W (B6.out.trans (hb.mono hs6)) _ (bn.getD k []) _ (r0.below hb) (by omega)
        rw [hb3] at q
        exact q))
      have hcp : (0 : Int) < (cs.length : Int) := by omega
      clear V6 r0 hb3 q0 V9
      generalize (bn.getD k []).length = nb at z0 CIx
      have CX := Lib.hid (fun W (hb : Below w6.heap.size w6 W) => (show W.cell? ⟨gc, 0, none⟩ = some (.slice C1 xs.length c1_) ∧ W.cell? ⟨gn, k, none⟩ = some (.slice N1 nl n1_) ∧ W.cell? ⟨gb, k, none⟩ = some (.slice D1 nb d1_) from ⟨cell_below y0 hb, cell_below x6 hb, cell_below z0 hb⟩))
      have X6 := Lib.hid (CX.out _ (Below.refl _ _))
      go_wp2_with fail
      go_region_held3 (fun W => W.cell? ⟨gc, 0, none⟩ = some (.slice C1 xs.length c1_) ∧ W.cell? ⟨gn, k, none⟩ = some (.slice N1 nl n1_) ∧ W.cell? ⟨gb, k, none⟩ = some (.slice D1 nb d1_))
        (first | exact X6.out | exact X7.out | exact X8.out)
        (first
          | (go_at_call 17; refine (SQ.out _ (Below.refl _ _).drew).mono ?_; rintro e w7 ⟨rfl, b7⟩; replace b7 := undrew b7; have X7 := Lib.hid (CX.out _ b7); have B7 := Lib.hid b7; clear b7)
          | (go_at_call 18; refine (CIx.out _ B7.out).mono ?_; rintro e w8 ⟨rfl, b8⟩; have B8 := Lib.hid (B7.out.trans (b8.mono B7.out.size)); have X8 := Lib.hid (CX.out _ B8.out); clear b8))
      have BX8 := Lib.hid (B6.out.trans (B8.out.mono hs6))
      have OX8 := Lib.hid (OX.out.below B8.out)
      clear X6 X7 X8 B7 CX SQ CIx y0 x6 z0 OC6
      have ORW := Lib.hid (oneRow w8 (.slice Xx xs.length cx) (w8).heap.size (Nat.le_refl _))
      have hsW := (BX8.out).size
      have hfl2 : (fsTo ls nt k).length ≤ 4000000 := by omega
      clear FSL
      go_wp2_with (
        at_builtin
        refine wpList_rowR rfl (.tmp 109) (.tmp 111) rfl wr w4.heap.size (w8).heap.size v _ (.slice Xx xs.length cx) (fsTo ls nt k) xs rfl rfl OO.out ((BX8.out).alloc hsW _) (OX8.out.alloc _) hbw4 ORW.out hfl2 ?_
        intro v9 w9 o9 g9 hat9
        have BB := Lib.hid (((BW.out.trans ((BX8.out).mono hbw4)).alloc (Nat.le_trans hbw4 hsW) _).grown g9 (by simp; omega) (fun q hq => (OO.out.lt q hq).1))
        have OO9 := Lib.hid (FSN.out ▸ o9)
        clear o9 g9 hat9)
      exact ⟨⟨k + 1, v9, rfl, by omega, rfl, by go_num, OO9, BB⟩, by simp [intOf]; omega⟩
  · have hb0 := F.out.ok
    rw [decide_eq_false hf] at hb0
    obtain ⟨bn, okb, hbn⟩ : ∃ bn ok, bestNight ls nt = (bn, ok) := ⟨_, _, rfl⟩
    rw [hbn] at hb0 BZ CB
    dsimp only at hb0 BZ
    subst hb0
    have CANF : canTo ls nt nt.length = false := by rw [CAN.out, decide_eq_false hf]
    have HCF := Lib.hid CANF
    have FXH := Lib.hid (fun k (hk : k < nt.length) => (show ((fxAt ls nt k).2 = true ∧ 0 < (csM ls nt k).length ∧ (csM ls nt k).getD 0 [] = (fxAt ls nt k).1) ∨ ((fxAt ls nt k).2 = false ∧ (csM ls nt k).length = 0) by
      rcases fx_head F.out hk with ⟨a1, a2, a3, -⟩ | ⟨a1, a2, -⟩
      · exact .inl ⟨a1, a2, a3⟩
      · exact .inr ⟨a1, a2⟩))
    clear hbn CC CAN BZ CANF CI
    generalize fewest ls nt = mm at CF hf
    have d1 : decide (0 ≤ mm) = false := decide_eq_false hf
    go_wp2_with fail
    refine (CF.out _ O1.out U1.out).mono ?_
    rintro e w2 ⟨rfl, b2⟩
    have O2 := Lib.hid (O1.out.below b2)
    have U2 := Lib.hid (U1.out.below b2)
    have B2 := Lib.hid (B1.out.trans (b2.mono B1.out.size))
    clear b2 O1 U1 B1 CF
    go_wp2_with fail
    refine (CB.out _ O2.out U2.out).mono ?_
    rintro e w4 ⟨vb, rfl, ob, b3⟩
    have O4 := Lib.hid (O2.out.below b3)
    have U4 := Lib.hid (U2.out.below b3)
    have B4 := Lib.hid (B2.out.trans (b3.mono B2.out.size))
    clear ob b3 O2 U2 B2 CB
    dsimp only
    have FF := Lib.hid (fun W (hb : Below w4.heap.size w4 W) => (show OwnPlayer W w.heap.size (.slice L ls.length cl) ls ∧ OwnR W w.heap.size (.slice U nt.length cu) nt ∧ True ∧ Below w.heap.size w W from ⟨O4.out.below hb, U4.out.below hb, trivial, B4.out.trans (hb.mono B4.out.size)⟩))
    have E0 := Lib.hid (emptyR w4 w4.heap.size w4.heap.size #[] rfl (Nat.le_refl _) rfl)
    have EB := Lib.hid ((Below.refl w4.heap.size w4).alloc (Nat.le_refl _) (.cells #[] 33))
    clear O4 U4 B4
    go_wp2_with fail
    go_loopw [8, 9, 10] (fun fv cv kv wr => ∃ (k : Nat) (v : Value), v = fv ∧ k ≤ nt.length ∧ cv = .bool (canTo ls nt k) ∧ kv = .int .i64 (k : Int) ∧ Hid (OwnR wr w4.heap.size v (fsTo ls nt k)) ∧ Hid (Below w4.heap.size w4 wr)) (fun _ _ kv _ => nt.length - (intOf kv).toNat)
    case atStart => exact ⟨0, _, rfl, by omega, rfl, rfl, E0, EB⟩
    case round =>
      clear E0 EB
      obtain ⟨k, v, rfl, hk, rfl, rfl, OO, BW⟩ := hrel
      have hbw4 := BW.out.size
      by_cases hlt : k < nt.length
      rotate_left
      · obtain rfl : k = nt.length := by omega
        obtain ⟨P9, U9, -, W9⟩ := FF.out _ BW.out
        have P9 := Lib.hid P9
        have U9 := Lib.hid U9
        have B9 := Lib.hid W9
        clear W9 FF d1 OO BW
        rw [HCF.out]
        have P9 := Lib.hid P9.out
        go_wp2_with fail
        refine (CN.out _ P9.out U9.out).mono ?_
        rintro e wa ⟨rfl, ba⟩
        have Ba := Lib.hid (B9.out.trans (ba.mono B9.out.size))
        have hsa := Ba.out.size
        clear ba P9 U9 B9
        obtain ⟨g0, hg0⟩ : ∃ g, g = wa.heap.size := ⟨_, rfl⟩
        have R1 := Lib.hid ((((twoI wa wa.heap.size 1 2 (Nat.le_refl _)).alloc (.cells #[.int .i64 0, .int .i64 0] 3)).alloc (.cells #[.int .i64 2, .int .i64 3] 3)).alloc (.cells #[.int .i64 1, .int .i64 1] 3))
        have R2 := Lib.hid (((twoI (wa.alloc (.cells #[.int .i64 1, .int .i64 2] 3)) wa.heap.size 0 0 (by simp)).alloc (.cells #[.int .i64 2, .int .i64 3] 3)).alloc (.cells #[.int .i64 1, .int .i64 1] 3))
        have R3 := Lib.hid ((twoI ((wa.alloc (.cells #[.int .i64 1, .int .i64 2] 3)).alloc (.cells #[.int .i64 0, .int .i64 0] 3)) wa.heap.size 2 3 (by simp; omega)).alloc (.cells #[.int .i64 1, .int .i64 1] 3))
        have R4 := Lib.hid (twoI (((wa.alloc (.cells #[.int .i64 1, .int .i64 2] 3)).alloc (.cells #[.int .i64 0, .int .i64 0] 3)).alloc (.cells #[.int .i64 2, .int .i64 3] 3)) wa.heap.size 1 1 (by simp; omega))
        have Q1 := Lib.hid (implChb _ _ _ _ [1, 2] [0, 0] [2, 3] [1, 1] _ _ _ _ _ R1.out R2.out R3.out R4.out (by simp) (by simp) (by simp) (by simp))
        rw [show changesB [1, 2] [0, 0] [2, 3] [1, 1] = 1 from by decide] at Q1
        simp only [World.size_alloc, List.length_cons, List.length_nil, Nat.zero_add, Nat.reduceAdd, Nat.add_assoc] at Q1
        have BQ := Lib.hid ((((Ba.out.alloc hsa (.cells #[.int .i64 1, .int .i64 2] 3)).alloc (by simp; omega) (.cells #[.int .i64 0, .int .i64 0] 3)).alloc (by simp; omega) (.cells #[.int .i64 2, .int .i64 3] 3)).alloc (by simp; omega) (.cells #[.int .i64 1, .int .i64 1] 3))
        clear hg0
        go_wp2_with fail
        refine Q1.out.mono ?_
        rintro e wb ⟨rfl, bb⟩
        have hbq := BQ.out.size
        simp only [World.size_alloc, Nat.add_assoc, Nat.reduceAdd] at hbq
        have Bb := Lib.hid (BQ.out.trans (bb.mono hbq))
        have hsb := Bb.out.size
        clear bb BQ Q1 R1 R2 R3 R4
        have Q2 := Lib.hid (implChb _ _ _ _ [1] [] [] [] wb.heap.size 0 0 0 _ (oneI wb wb.heap.size 1 (Nat.le_refl _)) (⟨rfl, .inl ⟨rfl, rfl⟩⟩ : OwnI _ 0 (.slice none 0 0) []) (⟨rfl, .inl ⟨rfl, rfl⟩⟩ : OwnI _ 0 (.slice none 0 0) []) (⟨rfl, .inl ⟨rfl, rfl⟩⟩ : OwnI _ 0 (.slice none 0 0) []) (by simp) (by simp) (by simp) (by simp))
        rw [show changesB [1] [] [] [] = -1 from by decide] at Q2
        have BR := Lib.hid (Bb.out.alloc hsb (.cells #[.int .i64 1] 3))
        go_wp2_with fail
        refine Q2.out.mono ?_
        rintro e wc ⟨rfl, bc⟩
        have Bc := Lib.hid (BR.out.trans (bc.mono BR.out.size))
        clear bc
        go_wp2
        go_ret
        exact ⟨by first | rfl | simp, Bc.out⟩
      have hk0 : (0 : Int) ≤ (k : Int) := by omega
      have hk1 : (k : Int) < (nt.length : Int) := by omega
      obtain ⟨P9, U9, V9, W9⟩ := FF.out _ BW.out
      obtain ⟨gn, _, N1, n1_, f1, x1, -, p1⟩ := U9.spotD hlt
      simp only [Value.slice.injEq] at f1
      obtain ⟨rfl, -, -⟩ := f1
      have h3 := N3.out k hlt
      have CG1 := Lib.hid (CG.out _ P9 _ _ _ p1 h3)
      obtain ⟨cs, hcs⟩ : ∃ cs, cs = csM ls nt k := ⟨_, rfl⟩
      rw [show castingsOf ls (nt.getD k []) = cs from hcs.symm] at CG1
      have hfx := FXH.out k hlt
      rw [← hcs] at hfx
      have CS1 := Lib.hid (fun W (hb : Below wr.heap.size wr W) => CS.out W (P9.below hb) _ _ _ (p1.below hb) h3)
      have FW := Lib.hid (fun W (hb : Below wr.heap.size wr W) => FF.out W (BW.out.trans (hb.mono BW.out.size)))
      have hxl := FX.out k
      have FSN := Lib.hid (show fsTo ls nt (k + 1) = fsTo ls nt k ++ [(fxAt ls nt k).1] from rfl)
      have CNN := Lib.hid (show canTo ls nt (k + 1) = (canTo ls nt k && (fxAt ls nt k).2) from rfl)
      rw [show castR (firstCast ls (nt.getD k [])) = fxAt ls nt k from rfl] at CS1 hxl
      have FSL := FL.out k
      have hbw := BW.out.size
      clear hcs P9 U9 p1 W9
      generalize fxAt ls nt k = fx at hfx CS1 hxl FSN CNN
      obtain ⟨xs, is⟩ := fx
      dsimp only at hfx hxl FSN CNN
      generalize hnl : (nt.getD k []).length = nl at x1 CG1 CS1
      clear hnl
      rcases hfx with ⟨rfl, hcl, hc0⟩ | ⟨rfl, hcl⟩
      · have hcp : (0 : Int) < (cs.length : Int) := by omega
        go_wp2_with fail
        refine CG1.out.mono ?_
        rintro e w5 ⟨vc, rfl, oc, bc⟩
        obtain ⟨Cc, cc, rfl⟩ := oc.slice
        have x5 := cell_below x1 bc
        have OC := Lib.hid oc
        have B5 := Lib.hid bc
        clear oc bc x1 CG1
        go_wp2_with fail
        refine (CS1.out _ B5.out).mono ?_
        rintro e w6 ⟨vx, rfl, ox, bx⟩
        replace ox : OwnI w6 w5.heap.size vx xs := ox
        obtain ⟨Xx, cx, rfl⟩ := ox.slice
        have x6 := cell_below x5 bx
        have OC6 := Lib.hid (OC.out.below bx)
        have OX := Lib.hid (ox.mono B5.out.size)
        have B6 := Lib.hid (B5.out.trans (bx.mono B5.out.size))
        have hs6 := B6.out.size
        clear ox bx x5 OC CS1 B5
        dsimp only
        obtain ⟨gc, _, C1, c1_, f1, y0, -, q0⟩ := OC6.out.spotD hcl
        simp only [Value.slice.injEq] at f1
        obtain ⟨rfl, -, -⟩ := f1
        rw [hc0] at y0 q0
        have SQ := Lib.hid (fun m => sameInts_quiet _ _ xs _ _ (w6.drewN m) (q0.below (below_drewN (Below.refl _ _) m)) (OX.out.below (below_drewN (Below.refl _ _) m)) (by omega))
        clear q0 V9
        go_wp2_with fail
        go_quiet (first | (go_at_call 17; refine Calls.quiet_of (SQ.out _)))
        have BX8 := Lib.hid (below_drewN B6.out nq)
        have OX8 := Lib.hid (OX.out.below (below_drewN (Below.refl _ _) nq))
        clear SQ y0 x6 OC6 OX B6 hs6
        generalize w6.drewN nq = w8 at BX8 OX8 ⊢
        have CN2 := Lib.hid (show canTo ls nt (k + 1) = canTo ls nt k by rw [CNN, Bool.and_true])
        clear CNN
        generalize canTo ls nt k = ck at CN2 ⊢
        cases ck with
        | true =>
          have ORW := Lib.hid (oneRow w8 (.slice Xx xs.length cx) (w8).heap.size (Nat.le_refl _))
          have hsW := (BX8.out).size
          have hfl2 : (fsTo ls nt k).length ≤ 4000000 := by omega
          clear FSL
          go_wp2_with (
            at_builtin
            refine wpList_rowR rfl (.tmp 109) (.tmp 111) rfl wr w4.heap.size (w8).heap.size v _ (.slice Xx xs.length cx) (fsTo ls nt k) xs rfl rfl OO.out ((BX8.out).alloc hsW _) (OX8.out.alloc _) hbw4 ORW.out hfl2 ?_
            intro v9 w9 o9 g9 hat9
            have BB := Lib.hid (((BW.out.trans ((BX8.out).mono hbw4)).alloc (Nat.le_trans hbw4 hsW) _).grown g9 (by simp; omega) (fun q hq => (OO.out.lt q hq).1))
            have OO9 := Lib.hid (FSN.out ▸ o9)
            clear o9 g9 hat9)
          exact ⟨⟨k + 1, v9, rfl, by omega, by rw [CN2.out], by go_num, OO9, BB⟩, by simp [intOf]; omega⟩
        | false =>
          have ORW := Lib.hid (oneRow w8 (.slice Xx xs.length cx) (w8).heap.size (Nat.le_refl _))
          have hsW := (BX8.out).size
          have hfl2 : (fsTo ls nt k).length ≤ 4000000 := by omega
          clear FSL
          go_wp2_with (
            at_builtin
            refine wpList_rowR rfl (.tmp 109) (.tmp 111) rfl wr w4.heap.size (w8).heap.size v _ (.slice Xx xs.length cx) (fsTo ls nt k) xs rfl rfl OO.out ((BX8.out).alloc hsW _) (OX8.out.alloc _) hbw4 ORW.out hfl2 ?_
            intro v9 w9 o9 g9 hat9
            have BB := Lib.hid (((BW.out.trans ((BX8.out).mono hbw4)).alloc (Nat.le_trans hbw4 hsW) _).grown g9 (by simp; omega) (fun q hq => (OO.out.lt q hq).1))
            have OO9 := Lib.hid (FSN.out ▸ o9)
            clear o9 g9 hat9)
          exact ⟨⟨k + 1, v9, rfl, by omega, by rw [CN2.out], by go_num, OO9, BB⟩, by simp [intOf]; omega⟩
      · have hcp : ¬ (0 : Int) < (cs.length : Int) := by omega
        go_wp2_with fail
        refine CG1.out.mono ?_
        rintro e w5 ⟨vc, rfl, oc, bc⟩
        obtain ⟨Cc, cc, rfl⟩ := oc.slice
        have x5 := cell_below x1 bc
        have OC := Lib.hid oc
        have B5 := Lib.hid bc
        clear oc bc x1 CG1
        go_wp2_with fail
        refine (CS1.out _ B5.out).mono ?_
        rintro e w6 ⟨vx, rfl, ox, bx⟩
        replace ox : OwnI w6 w5.heap.size vx xs := ox
        obtain ⟨Xx, cx, rfl⟩ := ox.slice
        have x6 := cell_below x5 bx
        have OC6 := Lib.hid (OC.out.below bx)
        have OX := Lib.hid (ox.mono B5.out.size)
        have B6 := Lib.hid (B5.out.trans (bx.mono B5.out.size))
        have hs6 := B6.out.size
        clear ox bx x5 OC CS1 B5
        dsimp only
        have CN2 := Lib.hid (show canTo ls nt (k + 1) = false by rw [CNN, Bool.and_false])
        clear CNN V9 hcl
        go_wp2_with fail
        go_quiet (fail)
        have BX8 := Lib.hid (below_drewN B6.out nq)
        have OX8 := Lib.hid (OX.out.below (below_drewN (Below.refl _ _) nq))
        clear x6 OC6 OX B6 hs6
        generalize w6.drewN nq = w8 at BX8 OX8 ⊢
        generalize canTo ls nt k = ck
        cases ck with
        | true =>
          have ORW := Lib.hid (oneRow w8 (.slice Xx xs.length cx) (w8).heap.size (Nat.le_refl _))
          have hsW := (BX8.out).size
          have hfl2 : (fsTo ls nt k).length ≤ 4000000 := by omega
          clear FSL
          go_wp2_with (
            at_builtin
            refine wpList_rowR rfl (.tmp 109) (.tmp 111) rfl wr w4.heap.size (w8).heap.size v _ (.slice Xx xs.length cx) (fsTo ls nt k) xs rfl rfl OO.out ((BX8.out).alloc hsW _) (OX8.out.alloc _) hbw4 ORW.out hfl2 ?_
            intro v9 w9 o9 g9 hat9
            have BB := Lib.hid (((BW.out.trans ((BX8.out).mono hbw4)).alloc (Nat.le_trans hbw4 hsW) _).grown g9 (by simp; omega) (fun q hq => (OO.out.lt q hq).1))
            have OO9 := Lib.hid (FSN.out ▸ o9)
            clear o9 g9 hat9)
          exact ⟨⟨k + 1, v9, rfl, by omega, by rw [CN2.out], by go_num, OO9, BB⟩, by simp [intOf]; omega⟩
        | false =>
          have ORW := Lib.hid (oneRow w8 (.slice Xx xs.length cx) (w8).heap.size (Nat.le_refl _))
          have hsW := (BX8.out).size
          have hfl2 : (fsTo ls nt k).length ≤ 4000000 := by omega
          clear FSL
          go_wp2_with (
            at_builtin
            refine wpList_rowR rfl (.tmp 109) (.tmp 111) rfl wr w4.heap.size (w8).heap.size v _ (.slice Xx xs.length cx) (fsTo ls nt k) xs rfl rfl OO.out ((BX8.out).alloc hsW _) (OX8.out.alloc _) hbw4 ORW.out hfl2 ?_
            intro v9 w9 o9 g9 hat9
            have BB := Lib.hid (((BW.out.trans ((BX8.out).mono hbw4)).alloc (Nat.le_trans hbw4 hsW) _).grown g9 (by simp; omega) (fun q hq => (OO.out.lt q hq).1))
            have OO9 := Lib.hid (FSN.out ▸ o9)
            clear o9 g9 hat9)
          exact ⟨⟨k + 1, v9, rfl, by omega, by rw [CN2.out], by go_num, OO9, BB⟩, by simp [intOf]; omega⟩
end Go.Proofs.Ytanlfkkmnnjpeaa
