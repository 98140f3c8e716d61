/- The contract of laws.markPlayerS: it writes into the blocks of the row alone. Condition: the row is the call's own. -/
import Derived.Test.YtanlfkkmnnjpeaaPlayerL
import Derived.Test.YtanlfkkmnnjpeaaPk7
namespace Go.Proofs.Ytanlfkkmnnjpeaa
set_option linter.unusedVariables false
set_option linter.unusedSimpArgs false
open Go.RowKit

/-- A row of the call's own, all of whose blocks lie below a place. -/
def OwnPlayerB (w : World) (base top : Nat) (v : Value) (ls : List RPlayer) : Prop :=
  ∃ vs, OwnVV 71 2 w base v ls.length vs (flatPlayer ls) ∧ (∀ k, v.ownBlock = some k → k < top) ∧ ∀ t (ht : t < vs.length) k, vs[t].ownBlock = some k → k < top
theorem OwnPlayer.bound {w : World} {base : Nat} {v : Value} {ls : List RPlayer} (h : OwnPlayer w base v ls) : OwnPlayerB w base w.heap.size v ls := by
  obtain ⟨vs, h⟩ := h
  exact ⟨vs, h, fun k hk => (h.lt k hk).2, fun t ht k hk => (h.eachLt t ht k hk).2⟩
theorem OwnPlayerB.own {w : World} {base top : Nat} {v : Value} {ls : List RPlayer} (h : OwnPlayerB w base top v ls) : OwnPlayer w base v ls := let ⟨vs, x, _⟩ := h; ⟨vs, x⟩
theorem OwnPlayerB.below {w w' : World} {base top : Nat} {v : Value} {ls : List RPlayer} (h : OwnPlayerB w base top v ls) (hb : Below w.heap.size w w') : OwnPlayerB w' base top v ls := let ⟨vs, x, y⟩ := h; ⟨vs, x.below hb, y⟩
theorem OwnPlayerB.outOf {w w' : World} {base top : Nat} {v : Value} {ls : List RPlayer} {P : Nat → Prop} (h : OwnPlayerB w base top v ls) (g : GrownIn w w' P) (hp : ∀ k, P k → k < base ∨ top ≤ k) : OwnPlayerB w' base top v ls := by
  obtain ⟨vs, h, t1, t2⟩ := h
  refine ⟨vs, ⟨ownsRow_in h.row g (fun i e p => by have := (h.lt i e).1; have := t1 i e; rcases hp i p with q | q <;> omega), h.len, fun t ht ht' => ?_, h.off, h.apart⟩, t1, t2⟩
  have a := h.each t ht ht'
  have lt := h.eachLt t ht
  have tt := t2 t ht
  generalize (flatPlayer ls)[t] = s at a
  generalize vs[t] = u at a lt tt
  cases s with
  | num z => exact a
  | tru z => exact a
  | row zs => exact OwnI.in (show OwnI w base u zs from a) g (fun i e p => by have := (lt i e).1; have := tt i e; rcases hp i p with q | q <;> omega)
/-- How many numbers the first k elements are marked with. -/
def marksP (ls : List RPlayer) : Nat → Nat
  | 0 => 0
  | k + 1 => marksP ls k + (ls.getD k RPlayer.zero).f0.length + 1
theorem marksP_more {ls : List RPlayer} {k : Nat} (h : k < ls.length) : marksP ls (k + 1) = marksP ls k + ls[k].f0.length + 1 := by
  rw [marksP, List.getD_eq_getElem?_getD, List.getElem?_eq_getElem h]
  rfl
theorem marksP_bulk (ls : List RPlayer) (k : Nat) : marksP ls k + ls.length = bulkP ls k + k := by
  induction k with
  | zero => simp [marksP, bulkP]
  | succ k ih => rw [marksP, bulkP]; omega

/-- A row of players of whom the first k are marked from number u on. -/
def mkdP (ls : List RPlayer) (u k : Nat) : List RPlayer := (List.range ls.length).map fun j => if j < k then ⟨marksI (u + marksP ls j) (ls.getD j RPlayer.zero).f0.length, ((u + marksP ls j + (ls.getD j RPlayer.zero).f0.length : Nat) : Int)⟩ else ls.getD j RPlayer.zero
theorem mkdP_len (ls : List RPlayer) (u k : Nat) : (mkdP ls u k).length = ls.length := by simp [mkdP]
theorem mkdP_at {ls : List RPlayer} {u k j : Nat} (h : j < (mkdP ls u k).length) : (mkdP ls u k)[j] = if j < k then ⟨marksI (u + marksP ls j) (ls.getD j RPlayer.zero).f0.length, ((u + marksP ls j + (ls.getD j RPlayer.zero).f0.length : Nat) : Int)⟩ else ls.getD j RPlayer.zero := by simp [mkdP]
theorem mkdP_zero (ls : List RPlayer) (u : Nat) : mkdP ls u 0 = ls := by
  refine List.ext_getElem (mkdP_len _ _ _) fun j h1 h2 => ?_
  rw [mkdP_at, if_neg (by omega), List.getD_eq_getElem?_getD, List.getElem?_eq_getElem h2]
  rfl
theorem mkdP_next {ls : List RPlayer} {u i : Nat} (h : i < ls.length) : (mkdP ls u i)[i]'(by rw [mkdP_len]; exact h) = ls[i] := by
  rw [mkdP_at, if_neg (by omega), List.getD_eq_getElem?_getD, List.getElem?_eq_getElem h]
  rfl
theorem mkdP_set {ls : List RPlayer} {u i : Nat} (h : i < ls.length) : (mkdP ls u i).set i ⟨marksI (u + marksP ls i) ls[i].f0.length, ((u + marksP ls i + ls[i].f0.length : Nat) : Int)⟩ = mkdP ls u (i + 1) := by
  refine List.ext_getElem (by simp [mkdP]) fun j h1 h2 => ?_
  rw [List.getElem_set, mkdP_at, mkdP_at]
  by_cases e : i = j
  · subst e
    rw [if_pos rfl, if_pos (by omega), List.getD_eq_getElem?_getD, List.getElem?_eq_getElem h]
    rfl
  · rw [if_neg e]
    by_cases c : j < i
    · rw [if_pos c, if_pos (by omega)]
    · rw [if_neg c, if_neg (by omega)]

set_option maxRecDepth 100000 in
set_option maxHeartbeats 3200000 in
theorem markPlayerS_at (v : Value) (ls : List RPlayer) (base top : Nat) (w : World) (hown : OwnPlayerB w base top v ls) (hl : bulkPlayer ls ≤ 1048576) (u : Nat) (k : Int) (hk : k = (u : Int)) (h1 : u ≤ 2000000) :
    Calls Try.prog 31 #[v, .int .i64 k] w fun e w' => e = .returned (.int .i64 ((u + bulkPlayer ls : Nat) : Int)) ∧ OwnPlayerB w' base top v (mkdP ls u ls.length) ∧ GrownIn w w' (fun q => base ≤ q ∧ q < top) := by
  subst hk
  have hll := bulkPlayer_len ls
  obtain ⟨A, c, rfl⟩ := hown.own.slice
  have HH := Lib.hid hown
  have ME := Lib.hid (show marksP ls ls.length = bulkPlayer ls by have := marksP_bulk ls ls.length; unfold bulkPlayer; omega)
  have MB := Lib.hid (fun k (h : k ≤ ls.length) => (show marksP ls k ≤ 1048576 by have := marksP_bulk ls k; have := bulkP_mono ls h; unfold bulkPlayer at hl; omega))
  clear hown
  go_enter Try.func31, Try.ntmps31
  go_wp2
  go_loopw [1, 5] (fun kv iv wr => ∃ i : Nat, i ≤ ls.length ∧ iv = .int .i64 (i : Int) ∧ kv = .int .i64 ((u + marksP ls i : Nat) : Int) ∧ Hid (OwnPlayerB wr base top (.slice A ls.length c) (mkdP ls u i)) ∧ Hid (GrownIn w wr (fun q => base ≤ q ∧ q < top))) (fun _ iv _ => ls.length - (intOf iv).toNat)
  case atStart => exact ⟨0, by omega, rfl, rfl, Lib.hid (by rw [mkdP_zero]; exact HH.out), Lib.hid (grownIn_below (Below.refl _ _) (Nat.le_refl _))⟩
  case round =>
    obtain ⟨i, hi, rfl, rfl, OO, GG⟩ := hrel
    by_cases hlt : i < ls.length
    rotate_left
    · obtain rfl : i = ls.length := by omega
      rw [ME.out]
      go_wp2
      go_ret
      exact ⟨rfl, OO.out, GG.out⟩
    have hi0 : (0 : Int) ≤ (i : Int) := by omega
    have hi1 : (i : Int) < (ls.length : Int) := by omega
    have NX := Lib.hid (mkdP_set (ls := ls) (u := u) hlt)
    obtain ⟨xs, hxs⟩ : ∃ xs, mkdP ls u i = xs := ⟨_, rfl⟩
    have hxl : xs.length = ls.length := by rw [← hxs]; exact mkdP_len _ _ _
    have hix : i < xs.length := by omega
    have hxi : xs[i] = ls[i] := by subst hxs; exact mkdP_next hlt
    rw [hxs] at OO NX
    clear hxs
    obtain ⟨vs, h, t1, t2⟩ := OO.out
    obtain ⟨ga, ca, ev, lt0, u0, hv0, x0, z0, s0_⟩ := h.at (t := i * 2) (s := .row xs[i].f0) (by have := flatPlayer_at xs i 0 (by omega) hix; exact this)
    obtain ⟨gb, cb, eb, -, u1, hv1, x1, z1, s1⟩ := h.at (t := i * 2 + 1) (s := .num xs[i].f1) (by have := flatPlayer_at xs i 1 (by omega) hix; exact this)
    have eb := eb.symm.trans ev
    simp only [Value.slice.injEq, Option.some.injEq, Addr.mk.injEq, and_true, true_and] at ev eb
    obtain ⟨rfl, hnn, rfl⟩ := ev
    obtain ⟨rfl, -⟩ := eb
    have s0 : OwnI wr base u0 xs[i].f0 := s0_
    clear s0_
    rw [hxi] at s0
    obtain ⟨A0, c0, rfl⟩ := s0.slice
    obtain ⟨q0, w0⟩ := List.getElem?_eq_some_iff.1 hv0
    obtain ⟨q1, w1⟩ := List.getElem?_eq_some_iff.1 hv1
    have offs0 := h.off _ q0
    rw [w0] at offs0
    have top0 := t1 _ rfl
    have top1 := fun b hb => t2 _ q0 b (by rw [w0]; exact hb)
    have hmo := marksP_more hlt
    have hmb := MB.out (i + 1) (by omega)
    obtain ⟨m0, hm0⟩ : ∃ m0, m0 = u + marksP ls i := ⟨_, rfl⟩
    rw [← hm0] at NX ⊢
    have HM := Lib.hid (show u + marksP ls (i + 1) = m0 + ls[i].f0.length + 1 by omega)
    have hm3 : m0 ≤ 3048576 := by omega
    have hf0 : ls[i].f0.length ≤ 2000000 := by omega
    have M0 := Lib.hid (markIntS_at (.slice A0 ls[i].f0.length c0) ls[i].f0 base wr s0 hf0 m0 (m0 : Int) rfl (by omega))
    have LW := Lib.hid (fun b hb => (s0.lt b hb).1)
    have H := Lib.hid h
    have HV := Lib.hid (And.intro hv0 hv1)
    have X1 := Lib.hid (And.intro x1 z1)
    have T2 := Lib.hid t2
    have HNN := Lib.hid hnn
    have OF := Lib.hid offs0
    have HXI := Lib.hid (And.intro hxl hix)
    have LT := Lib.hid lt0
    have TOP := Lib.hid (And.intro top0 top1)
    have ew : IntKind.i64.wrap (((m0 + ls[i].f0.length : Nat) : Int) + 1) = ((m0 + ls[i].f0.length : Nat) : Int) + 1 := IntWalk.i64_in _ (by omega)
    clear h s0 x1 z1 z0 t1 t2 hnn offs0 hxl hxi hix lt0 top0 top1 hv0 hv1 q0 q1 w0 w1 hm0 hmo hmb eb s1 OO
    go_wp2_with fail
    refine M0.out.mono ?_
    rintro e w2 ⟨rfl, o2, g2⟩
    have hb := HXI.out.2
    obtain ⟨hq, hw⟩ := List.getElem?_eq_some_iff.1 HV.out.1
    have P2 := H.out.turn hq (x := .row (marksI m0 ls[i].f0.length)) (by rw [hw]; exact o2) (by rw [hw]; exact g2)
    obtain ⟨hq1, hw1⟩ := List.getElem?_eq_some_iff.1 HV.out.2
    rw [HNN.out] at P2
    obtain ⟨p, gg⟩ := P2.put (t := i * 2 + 1) (u := .int .i64 ((m0 + ls[i].f0.length : Nat) : Int)) (x := .num ((m0 + ls[i].f0.length : Nat) : Int)) hq1 rfl (.inl rfl) (fun _ _ _ => .inl rfl)
    have y1 : w2.cell? ⟨gb, i * 2 + 1, none⟩ = some u1 := g2.cell X1.out.1 (ne_of_sep OF.out)
    have f1 : w2.frozen? ⟨gb, i * 2 + 1, none⟩ = false := by
      rw [World.frozen?_of_block (g2.block gb (World.block_lt_of_cell? wr _ X1.out.1) (ne_of_sep OF.out))]
      exact X1.out.2
    have GW := Lib.hid ((GrownIn.trans GG.out ((grownIn_of g2).mono (fun q hq => ⟨LW.out q hq, TOP.out.2 q hq⟩))).trans ((grownIn_of gg).mono (fun q hq => by have e : gb = q := Option.some.inj hq; have := LT.out.1; have := TOP.out.1; exact ⟨by omega, by omega⟩)))
    have e := fm_put slotsPlayer_len xs i hb (⟨marksI m0 ls[i].f0.length, ((m0 + ls[i].f0.length : Nat) : Int)⟩ : RPlayer)
    have NB := Lib.hid (fun t (ht : t < (vs.set (i * 2 + 1) (.int .i64 ((m0 + ls[i].f0.length : Nat) : Int))).length) k (hk : (vs.set (i * 2 + 1) (.int .i64 ((m0 + ls[i].f0.length : Nat) : Int)))[t].ownBlock = some k) => (show k < top by
      rw [List.length_set] at ht
      by_cases q : i * 2 + 1 = t
      · subst q
        rw [List.getElem_set_self] at hk
        cases hk
      · rw [List.getElem_set_ne q] at hk
        exact T2.out t ht k hk))
    have P3 := Lib.hid p
    have EE := Lib.hid e
    clear p gg e o2 g2 P2 hq hw hq1 hw1 GG
    go_wp2
    refine ⟨⟨i + 1, by omega, by go_num, by rw [HM.out]; first | rfl | (congr 1; omega) | go_num, Lib.hid ⟨_, ?_, fun k hk => by have e : gb = k := Option.some.inj hk; have := TOP.out.1; omega, NB.out⟩, GW⟩, by simp [intOf]; omega⟩
    have q := P3.out
    rw [← HNN.out] at q
    rw [← NX.out, List.length_set, ← HNN.out]
    unfold flatPlayer
    rw [← EE.out]
    exact q
theorem markPlayerS_in (v : Value) (ls : List RPlayer) (base top : Nat) (w : World) (hown : OwnPlayerB w base top v ls) (hl : bulkPlayer ls ≤ 1048576) (u : Nat) (k : Int) (hk : k = (u : Int)) (h1 : u ≤ 2000000) :
    Calls Try.prog 31 #[v, .int .i64 k] w fun e w' => e = .returned (.int .i64 ((u + bulkPlayer ls : Nat) : Int)) ∧ GrownIn w w' (fun q => base ≤ q ∧ q < top) :=
  (markPlayerS_at v ls base top w hown hl u k hk h1).mono fun e w' h => ⟨h.1, h.2.2⟩
end Go.Proofs.Ytanlfkkmnnjpeaa
