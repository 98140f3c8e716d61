/- The contract of laws.markCueS: it writes into the blocks of the row alone. Condition: the row is the call's own. -/
import Derived.Test.YtbgogcobkiaejacPk2
import Derived.Test.YtbgogcobkiaejacMarkI
namespace Go.Proofs.Ytbgogcobkiaejac
set_option linter.unusedVariables false
set_option linter.unusedSimpArgs false
open Go.RowKit

/-- A row of the call's own, all of whose blocks lie below a place. -/
def OwnCueB (w : World) (base top : Nat) (v : Value) (ls : List RCue) : Prop :=
  ∃ vs, OwnVV 33 3 w base v ls.length vs (flatCue ls) ∧ (∀ k, v.ownBlock = some k → k < top) ∧ ∀ t (ht : t < vs.length) k, vs[t].ownBlock = some k → k < top
theorem OwnCue.bound {w : World} {base : Nat} {v : Value} {ls : List RCue} (h : OwnCue w base v ls) : OwnCueB w base w.heap.size v ls := by
  obtain ⟨vs, h⟩ := h
  exact ⟨vs, h, fun k hk => (h.lt k hk).2, fun t ht k hk => (h.eachLt t ht k hk).2⟩
theorem OwnCueB.own {w : World} {base top : Nat} {v : Value} {ls : List RCue} (h : OwnCueB w base top v ls) : OwnCue w base v ls := let ⟨vs, x, _⟩ := h; ⟨vs, x⟩
theorem OwnCueB.below {w w' : World} {base top : Nat} {v : Value} {ls : List RCue} (h : OwnCueB w base top v ls) (hb : Below w.heap.size w w') : OwnCueB w' base top v ls := let ⟨vs, x, y⟩ := h; ⟨vs, x.below hb, y⟩

/-- How many numbers the first k elements are marked with. -/
def marksC (ls : List RCue) : Nat → Nat
  | 0 => 0
  | k + 1 => marksC ls k + 1 + szC (ls.getD k RCue.zero)
theorem marksC_more {ls : List RCue} {k : Nat} (h : k < ls.length) : marksC ls (k + 1) = marksC ls k + 1 + ls[k].f1.length + ls[k].f2.length := by
  rw [marksC, List.getD_eq_getElem?_getD, List.getElem?_eq_getElem h]
  show _ + szC ls[k] = _
  unfold szC
  omega
theorem marksC_bulk (ls : List RCue) (k : Nat) : marksC ls k + ls.length = bulkC ls k + k := by
  induction k with
  | zero => simp [marksC, bulkC]
  | succ k ih => rw [marksC, bulkC]; omega

set_option maxRecDepth 100000 in
set_option maxHeartbeats 3200000 in
theorem markCueS_in (v : Value) (ls : List RCue) (base top : Nat) (w : World) (hown : OwnCueB w base top v ls) (hl : bulkCue ls ≤ 1048576) (u : Nat) (k : Int) (hk : k = (u : Int)) (h1 : u ≤ 2000000) :
    Calls Try.prog 24 #[v, .int .i64 k] w fun e w' => e = .returned (.int .i64 ((u + bulkCue ls : Nat) : Int)) ∧ GrownIn w w' (fun q => base ≤ q ∧ q < top) := by
  subst hk
  have hll := bulkCue_len ls
  obtain ⟨A, c, rfl⟩ := hown.own.slice
  have HH := Lib.hid hown
  have ME := Lib.hid (show marksC ls ls.length = bulkCue ls by have := marksC_bulk ls ls.length; unfold bulkCue; omega)
  have MB := Lib.hid (fun k (h : k ≤ ls.length) => (show marksC ls k ≤ 1048576 by have := marksC_bulk ls k; have := bulkC_mono ls h; unfold bulkCue at hl; omega))
  clear hown
  go_enter Try.func24, Try.ntmps24
  go_wp2
  go_loopw [1, 5] (fun kv iv wr => ∃ (i : Nat) (xs : List RCue), i ≤ ls.length ∧ iv = .int .i64 (i : Int) ∧ kv = .int .i64 ((u + marksC ls i : Nat) : Int) ∧ Hid (xs.length = ls.length) ∧ Hid (∀ j, i ≤ j → xs[j]? = ls[j]?) ∧ Hid (OwnCueB wr base top (.slice A ls.length c) xs) ∧ Hid (GrownIn w wr (fun q => base ≤ q ∧ q < top))) (fun _ iv _ => ls.length - (intOf iv).toNat)
  case atStart => exact ⟨0, ls, by omega, rfl, rfl, Lib.hid rfl, Lib.hid (fun _ _ => rfl), HH, Lib.hid (grownIn_below (Below.refl _ _) (Nat.le_refl _))⟩
  case round =>
    obtain ⟨i, xs, hi, rfl, rfl, HX, HS, OO, GG⟩ := hrel
    by_cases hlt : i < ls.length
    rotate_left
    · obtain rfl : i = ls.length := by omega
      rw [ME.out]
      go_wp2
      go_ret
      exact ⟨rfl, GG.out⟩
    have hi0 : (0 : Int) ≤ (i : Int) := by omega
    have hi1 : (i : Int) < (ls.length : Int) := by omega
    have hxl := HX.out
    have hix : i < xs.length := by omega
    have hxi : xs[i] = ls[i] := by
      have := HS.out i (Nat.le_refl _)
      rw [List.getElem?_eq_getElem hix, List.getElem?_eq_getElem hlt] at this
      exact Option.some.inj this
    obtain ⟨vs, h, t1, t2⟩ := OO.out
    obtain ⟨g, cg, ev, lt0, u0, hv0, x0, z0, s0⟩ := h.at (t := i * 3) (s := .num xs[i].f0) (by have := flatCue_at xs i 0 (by omega) hix; exact this)
    obtain ⟨ga, ca, ea, -, u1, hv1, x1, z1, s1_⟩ := h.at (t := i * 3 + 1) (s := .row xs[i].f1) (by have := flatCue_at xs i 1 (by omega) hix; exact this)
    obtain ⟨gb, cb, eb, -, u2, hv2, x2, z2, s2_⟩ := h.at (t := i * 3 + 2) (s := .row xs[i].f2) (by have := flatCue_at xs i 2 (by omega) hix; exact this)
    have ea := ea.symm.trans ev
    have eb := eb.symm.trans ev
    simp only [Value.slice.injEq, Option.some.injEq, Addr.mk.injEq, and_true, true_and] at ev ea eb
    obtain ⟨rfl, hnn, rfl⟩ := ev
    obtain ⟨rfl, -⟩ := ea
    obtain ⟨rfl, -⟩ := eb
    have s1 : OwnI wr base u1 xs[i].f1 := s1_
    have s2 : OwnI wr base u2 xs[i].f2 := s2_
    clear s1_ s2_
    rw [hxi] at s1 s2
    obtain ⟨A1, c1, rfl⟩ := s1.slice
    obtain ⟨A2, c2, rfl⟩ := s2.slice
    obtain ⟨q0, w0⟩ := List.getElem?_eq_some_iff.1 hv0
    obtain ⟨q1, w1⟩ := List.getElem?_eq_some_iff.1 hv1
    obtain ⟨q2, w2⟩ := List.getElem?_eq_some_iff.1 hv2
    have offs1 := h.off _ q1
    have offs2 := h.off _ q2
    have ap21 := h.apart _ _ q2 q1 (by omega)
    have ap12 := h.apart _ _ q1 q2 (by omega)
    rw [w1] at offs1 ap21 ap12
    rw [w2] at offs2 ap21 ap12
    have top0 := t1 _ rfl
    have top1 := fun b hb => t2 _ q1 b (by rw [w1]; exact hb)
    have top2 := fun b hb => t2 _ q2 b (by rw [w2]; exact hb)
    have hmo := marksC_more hlt
    have hmb := MB.out (i + 1) (by omega)
    obtain ⟨m0, hm0⟩ : ∃ m0, m0 = u + marksC ls i := ⟨_, rfl⟩
    rw [← hm0]
    have HM := Lib.hid (show u + marksC ls (i + 1) = m0 + 1 + ls[i].f1.length + ls[i].f2.length by omega)
    have hm3 : m0 ≤ 3048576 := by omega
    have hf1 : ls[i].f1.length ≤ 2000000 := by omega
    have hf2 : ls[i].f2.length ≤ 2000000 := by omega
    -- the number is written
    rw [hnn] at h
    obtain ⟨p, gg⟩ := h.put (t := i * 3) (u := .int .i64 (m0 : Int)) (x := .num (m0 : Int)) q0 rfl (.inl rfl) (fun _ _ _ => .inl rfl)
    have K1 := Lib.hid (show OwnI (wr.setCell ⟨gb, i * 3, none⟩ (.int .i64 (m0 : Int))) base _ ls[i].f1 from s1.kept gg offs1)
    have K2 := Lib.hid (show OwnI (wr.setCell ⟨gb, i * 3, none⟩ (.int .i64 (m0 : Int))) base _ ls[i].f2 from s2.kept gg offs2)
    have y1 : (wr.setCell ⟨gb, i * 3, none⟩ (.int .i64 (m0 : Int))).cell? ⟨gb, i * 3 + 1, none⟩ = some (.slice A1 ls[i].f1.length c1) := (World.cell?_setCell_other _ _ _ _ (by intro q; simp at q)).trans x1
    have Y2 := Lib.hid (show (wr.setCell ⟨gb, i * 3, none⟩ (.int .i64 (m0 : Int))).cell? ⟨gb, i * 3 + 2, none⟩ = some (.slice A2 ls[i].f2.length c2) from (World.cell?_setCell_other _ _ _ _ (by intro q; simp at q)).trans x2)
    have GW := Lib.hid (GrownIn.trans GG.out ((grownIn_of gg).mono (fun q hq => by have e : gb = q := Option.some.inj hq; have : base ≤ gb := lt0.1; have : gb < top := top0; exact ⟨by omega, by omega⟩)))
    have e1 : IntKind.i64.wrap ((m0 : Int) + 1) = (m0 : Int) + 1 := IntWalk.i64_in _ (by omega)
    have M1 := Lib.hid (markIntS_at (.slice A1 ls[i].f1.length c1) ls[i].f1 base _ K1.out hf1 (m0 + 1) ((m0 : Int) + 1) (by omega) (by omega))
    obtain ⟨t0, ht0⟩ : ∃ t, wr.cell? ⟨gb, i * 3, none⟩ = some t := ⟨_, x0⟩
    have V1 : (vs.set (i * 3) (.int .i64 (m0 : Int)))[i * 3 + 1]? = some (.slice A1 ls[i].f1.length c1) := by rw [List.getElem?_set_ne (by omega)]; exact hv1
    have V2 : (vs.set (i * 3) (.int .i64 (m0 : Int)))[i * 3 + 2]? = some (.slice A2 ls[i].f2.length c2) := by rw [List.getElem?_set_ne (by omega)]; exact hv2
    have P1 := Lib.hid p
    have NB := Lib.hid (fun t (ht : t < (vs.set (i * 3) (.int .i64 (m0 : Int))).length) k (hk : (vs.set (i * 3) (.int .i64 (m0 : Int)))[t].ownBlock = some k) => (show k < top by
      rw [List.length_set] at ht
      by_cases q : i * 3 = t
      · subst q
        rw [List.getElem_set_self] at hk
        cases hk
      · rw [List.getElem_set_ne q] at hk
        exact t2 t ht k hk))
    have HT := Lib.hid (And.intro top0 (And.intro top1 top2))
    have LW := Lib.hid (And.intro (fun b hb => (s1.lt b hb).1) (fun b hb => (s2.lt b hb).1))
    have AP := Lib.hid (And.intro ap12 ap21)
    have VV := Lib.hid (And.intro V1 V2)
    have OF := Lib.hid (And.intro offs1 offs2)
    have HNN := Lib.hid hnn
    clear p h s1 s2 K1 x1 x2 hv0 hv1 hv2 q0 q1 q2 w0 w1 w2 t1 t2 ap12 ap21 V1 V2 offs1 offs2 lt0 top0 top1 top2 gg s0 z1 z2 hm0 hmo hmb OO GG HH hnn ea eb
    have hxx := Lib.hid (And.intro hxl hix)
    clear hxl hxi hix
    generalize vs.set (i * 3) (.int .i64 (m0 : Int)) = vn at P1 NB VV
    go_wp2_with fail
    refine M1.out.mono ?_
    rintro e w2 ⟨rfl, o2, g2⟩
    have y2 := g2.cell Y2.out (ne_of_sep OF.out.1)
    have K3 := Lib.hid (K2.out.kept g2 AP.out.2)
    have P2 : Hid (OwnVV 33 3 w2 base (.slice (some ⟨gb, 0, none⟩) xs.length c) xs.length vn (((flatCue xs).set (i * 3) (.num (m0 : Int))).set (i * 3 + 1) (.row (marksI (m0 + 1) ls[i].f1.length)))) := Lib.hid (by
      obtain ⟨hq, hw⟩ := List.getElem?_eq_some_iff.1 VV.out.1
      exact P1.out.turn hq (by rw [hw]; exact o2) (by rw [hw]; exact g2))
    have GW2 := Lib.hid (GrownIn.trans GW.out ((grownIn_of g2).mono (fun q hq => ⟨LW.out.1 q hq, HT.out.2.1 q hq⟩)))
    clear o2 g2 Y2 K2 P1 GW M1 e1
    go_wp2_with fail
    refine (markIntS_at _ _ _ _ K3.out hf2 (m0 + 1 + ls[i].f1.length) _ (by first | rfl | omega | (push_cast; omega)) (by omega)).mono ?_
    rintro e w3 ⟨rfl, o3, g3⟩
    have P3 : Hid (OwnVV 33 3 w3 base (.slice (some ⟨gb, 0, none⟩) xs.length c) xs.length vn (flatCue (xs.set i ⟨(m0 : Int), marksI (m0 + 1) ls[i].f1.length, marksI (m0 + 1 + ls[i].f1.length) ls[i].f2.length⟩))) := Lib.hid (by
      obtain ⟨hq, hw⟩ := List.getElem?_eq_some_iff.1 VV.out.2
      have hix := hxx.out.2
      have q := P2.out.turn hq (x := .row (marksI (m0 + 1 + ls[i].f1.length) ls[i].f2.length)) (by rw [hw]; exact o3) (by rw [hw]; exact g3)
      have e := fm_put slotsCue_len xs i hix (⟨(m0 : Int), marksI (m0 + 1) ls[i].f1.length, marksI (m0 + 1 + ls[i].f1.length) ls[i].f2.length⟩ : RCue)
      unfold flatCue
      rw [← e]
      exact q)
    have GW3 := Lib.hid (GrownIn.trans GW2.out ((grownIn_of g3).mono (fun q hq => ⟨LW.out.2 q hq, HT.out.2.2 q hq⟩)))
    clear o3 g3 P2 GW2 K3 y2
    go_wp2
    refine ⟨⟨i + 1, xs.set i ⟨(m0 : Int), marksI (m0 + 1) ls[i].f1.length, marksI (m0 + 1 + ls[i].f1.length) ls[i].f2.length⟩, by omega, by go_num, by rw [HM.out]; first | rfl | (congr 1; omega) | go_num, Lib.hid (by rw [List.length_set]; exact hxx.out.1), Lib.hid (fun j hj => by rw [List.getElem?_set_ne (by omega)]; exact HS.out j (by omega)), Lib.hid ⟨vn, ?_, fun k hk => by have e : gb = k := Option.some.inj hk; have : gb < top := HT.out.1; omega, NB.out⟩, GW3⟩, by simp [intOf]; omega⟩
    have q := P3.out
    rw [← HNN.out] at q
    rw [List.length_set, ← HNN.out]
    exact q
end Go.Proofs.Ytbgogcobkiaejac
