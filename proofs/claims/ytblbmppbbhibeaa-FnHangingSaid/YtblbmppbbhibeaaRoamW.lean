/- The contract of the walk in impl.walkFrom (a function literal that calls itself), for whatever is called at each joint that stores one number in a row. Condition: the joints lie as a net, the body is valid. -/
import Derived.Test.YtblbmppbbhibeaaLinkW
import Derived.Test.YtblbmppbbhibeaaRoamM
import Derived.Shelf.Abstract
namespace Go.Proofs.Ytblbmppbbhibeaa
set_option linter.unusedVariables false
set_option linter.unusedSimpArgs false
open Go.RowKit

/-- All that the walk reads: its four variables, the row that is written (block rb, in variable nb), the limbs, the net. None of it lies in the row. -/
structure SiteOk (w : World) (Ba Bj Bb Bw nb rb g m base bl K : Nat) (pb : Nat → Nat) (vl vb : Nat → Value) (v : Value) (ls : List Lb) : Prop where
  arr : w.cell? ⟨Ba, 0, none⟩ = some (.func (.func K) #[] #[.pointer (some ⟨nb, 0, none⟩)])
  jts : w.cell? ⟨Bj, 0, none⟩ = some (.slice (some ⟨g, 0, none⟩) m m)
  box : w.cell? ⟨Bb, 1, none⟩ = some v
  me : w.cell? ⟨Bw, 0, none⟩ = some (.func (.func 74) #[] #[.pointer (some ⟨Ba, 0, none⟩), .pointer (some ⟨Bj, 0, none⟩), .pointer (some ⟨Bb, 0, none⟩), .pointer (some ⟨Bw, 0, none⟩)])
  row : w.cell? ⟨nb, 0, none⟩ = some (.slice (some ⟨rb, 0, none⟩) m m)
  own : OwnL w bl v ls
  net : NetOk w base m pb vl vb (fun i => incs ls i ls.length) (fun i => nbrs ls i ls.length) (fun _ => false)
  pts : OwnP w g (.slice (some ⟨g, 0, none⟩) m m) ((List.range m).map pb)
  ne : Ba ≠ rb ∧ Bj ≠ rb ∧ Bb ≠ rb ∧ Bw ≠ rb ∧ nb ≠ rb ∧ g ≠ rb ∧ rb < base ∧ (v.ownBlock = none ∨ v.ownBlock ≠ some rb)
theorem NetOk.grown {w w' : World} {base m rb : Nat} {pb : Nat → Nat} {vl vb : Nat → Value} {I : Nat → List Int} {N : Nat → List Nat} {R : Nat → Bool} (h : NetOk w base m pb vl vb I N R) (hg : w.grownBy w' (some rb)) (hr : rb < base) : NetOk w' base m pb vl vb I N R := by
  have hne : ∀ j d, j < m → d < 3 → ob pb vl vb j d ≠ some rb := fun j d hj hd e => by have := (h.lt j d _ hj hd e).1; omega
  exact ⟨fun i hi => ⟨(h.blk i hi).1, (hg.block _ (h.lt i 0 _ hi (by omega) rfl).2 (fun e => hne i 0 hi (by omega) e)).trans (h.blk i hi).2⟩,
    fun i hi => (h.ints i hi).kept hg (.inr (hne i 1 hi (by omega))), fun i hi => (h.ptrs i hi).kept hg (.inr (hne i 2 hi (by omega))), h.apart⟩
section
variable {w w' : World} {Ba Bj Bb Bw nb rb g m base bl K : Nat} {pb : Nat → Nat} {vl vb : Nat → Value} {v : Value} {ls : List Lb}
theorem SiteOk.kept (h : SiteOk w Ba Bj Bb Bw nb rb g m base bl K pb vl vb v ls) (hg : w.grownBy w' (some rb)) : SiteOk w' Ba Bj Bb Bw nb rb g m base bl K pb vl vb v ls := by
  obtain ⟨n1, n2, n3, n4, n5, n6, n7, n8⟩ := h.ne
  have C : ∀ (b o : Nat) (x : Value), b ≠ rb → w.cell? ⟨b, o, none⟩ = some x → w'.cell? ⟨b, o, none⟩ = some x := fun b o x hne hx => hg.cell hx (fun e => hne (Option.some.inj e))
  refine ⟨C _ _ _ n1 h.arr, C _ _ _ n2 h.jts, C _ _ _ n3 h.box, C _ _ _ n4 h.me, C _ _ _ n5 h.row, h.own.kept hg n8, h.net.grown hg n7, h.pts.kept hg (.inr ?_), h.ne⟩
  intro e
  exact n6 (Option.some.inj e)
/-- The cell of joint i in the row of joints, and its list of limbs. -/
theorem SiteOk.joint (h : SiteOk w Ba Bj Bb Bw nb rb g m base bl K pb vl vb v ls) {i : Nat} (hi : i < m) : w.cell? ⟨g, i, none⟩ = some (.pointer (some ⟨pb i, 0, none⟩)) ∧ w.cell? ⟨pb i, 0, none⟩ = some (vl i) := by
  obtain ⟨_, _, e, _, _, z⟩ := h.pts.spot (k := i) (by simpa using hi)
  simp only [Value.slice.injEq, Option.some.injEq, Addr.mk.injEq] at e
  obtain ⟨⟨rfl, _⟩, _⟩ := e
  exact ⟨by simpa using z, h.net.cell0 hi⟩
end
/-- What a function that is called at each joint does: it stores one number of the two at hand. -/
def Stores (K nb rb m b0 : Nat) (G : Int → Int → Int) : Prop :=
  ∀ (i : Nat) (f d : Int) (zs : List Int) (W : World), i < m → zs.length = m → W.cell? ⟨nb, 0, none⟩ = some (.slice (some ⟨rb, 0, none⟩) m m) → OwnI W b0 (.slice (some ⟨rb, 0, none⟩) m m) zs →
    Calls Try.prog K #[.int .i64 (i : Int), .int .i64 f, .int .i64 d, .pointer (some ⟨nb, 0, none⟩)] W fun e w' => e = .returned (.tuple #[]) ∧ OwnI w' b0 (.slice (some ⟨rb, 0, none⟩) m m) (zs.set i (G f d)) ∧ W.grownBy w' (some rb)

set_option maxHeartbeats 400000 in
theorem distances_stores (nb rb m b0 : Nat) : Stores 73 nb rb m b0 (fun _ d => d) := by
  intro i f d zs W hi hz hc ho
  obtain ⟨_, _, e, _, lt, x, fz⟩ := ho.spot (k := i) (by omega)
  simp only [Value.slice.injEq, Option.some.injEq, Addr.mk.injEq] at e
  obtain ⟨⟨rfl, _⟩, em, ec⟩ := e
  generalize zs[i] = y at x
  have hs := Lib.hid (ho.set hz.symm i d)
  have hi0 : (0 : Int) ≤ (i : Int) := by omega
  have hi1 : (i : Int) < (m : Int) := by omega
  clear ho hz em ec
  go_enter Try.func73, Try.ntmps73
  go_wp2
  go_end0
  exact ⟨rfl, hs.out⟩

set_option maxHeartbeats 400000 in
theorem otherEnd_any (l : Lb) (x : Nat) (h0 : 0 ≤ l.a) (h1 : 0 ≤ l.b) (w : World) :
    Calls Try.prog 75 #[.agg #[.int .i64 l.a, .int .i64 l.b, .int .i64 l.n], .int .i64 (x : Int)] w fun e w' => e = .returned (.int .i64 ((other l x : Nat) : Int)) ∧ Below w.heap.size w w' := by
  by_cases c : l.a = (x : Int)
  · have e : ((other l x : Nat) : Int) = l.b := by unfold other; rw [if_pos c]; omega
    rw [e]
    go_enter Try.func75, Try.ntmps75
    go_wp2
    go_ret
    exact ⟨rfl, (Below.refl _ _).alloc (Nat.le_refl _) _⟩
  · have e : ((other l x : Nat) : Int) = l.a := by unfold other; rw [if_neg c]; omega
    rw [e]
    go_enter Try.func75, Try.ntmps75
    go_wp2
    go_ret
    exact ⟨rfl, (Below.refl _ _).alloc (Nat.le_refl _) _⟩

set_option maxRecDepth 100000 in
set_option maxHeartbeats 1600000 in
theorem roam_any (Ba Bj Bb Bw nb rb g m base bl b0 K : Nat) (pb : Nat → Nat) (vl vb : Nat → Value) (v : Value) (ls : List Lb) (G : Int → Int → Int) (eg : ∀ args w, (callFunc K args).run Try.prog w = .ok (.enter K args) w) (HK : Stores K nb rb m b0 G)
    (hf : Fits m ls) (hl : ls.length + 1 = m) (hr : (joinRun m ls (apart m)).isSome = true) (hm : m ≤ 12) (D : Nat) :
    ∀ (i : Nat) (e0 : Option Nat) (f d0 : Int) (zs : List Int) (w : World), SiteOk w Ba Bj Bb Bw nb rb g m base bl K pb vl vb v ls → OwnI w b0 (.slice (some ⟨rb, 0, none⟩) m m) zs → zs.length = m → i < m → Led ls i e0 f → Came ls i e0 D → 0 ≤ d0 → d0 + 100 * (D : Int) ≤ 1000000 →
      Calls Try.prog 74 #[.int .i64 (i : Int), .int .i64 f, .int .i64 d0, .pointer (some ⟨Ba, 0, none⟩), .pointer (some ⟨Bj, 0, none⟩), .pointer (some ⟨Bb, 0, none⟩), .pointer (some ⟨Bw, 0, none⟩)] w
        fun e w' => e = .returned (.tuple #[]) ∧ ∃ zs', OwnI w' b0 (.slice (some ⟨rb, 0, none⟩) m m) zs' ∧ zs'.length = m ∧ Roamed ls G i e0 f d0 zs zs' ∧ w.grownBy w' (some rb) := by
  induction D using Nat.strongRecOn with
  | _ D ih =>
    intro i e0 f d0 zs w hs ho hz hi hled hcame hd0 hd1
    have S0 := Lib.hid hs
    have O0 := Lib.hid ho
    have HA := Lib.hid HK
    have HL := Lib.hid hled
    have HC := Lib.hid hcame
    have IH := Lib.hid ih
    have HF := Lib.hid hf
    have HR := Lib.hid (And.intro hl hr)
    have HZ := Lib.hid hz
    obtain ⟨Ai, ci, ev⟩ := (hs.net.ints i hi).slice
    have EV := Lib.hid ev
    have hql : (incs ls i ls.length).length ≤ 12 := Nat.le_trans (incs_len ls i ls.length) (by omega)
    obtain ⟨A, c, e⟩ := hs.own.slice
    subst e
    have ca := hs.arr
    clear hs ho hled hcame ih hf hr HK ev hz
    go_enter Try.func74, Try.ntmps74
    go_wp2_with fail
    refine (HA.out i f d0 zs w hi HZ.out S0.out.row O0.out).mono ?_
    rintro e w1 ⟨rfl, o1, g1⟩
    have S1 := Lib.hid (S0.out.kept g1)
    have cj := S1.out.jts
    obtain ⟨x1, x2⟩ := S1.out.joint hi
    rw [EV.out] at x2
    have O1 := Lib.hid o1
    have G1 := Lib.hid g1
    have hi0 : (0 : Int) ≤ (i : Int) := by omega
    have hi1 : (i : Int) < (m : Int) := by omega
    clear o1 g1 ca
    go_wp2_with fail
    go_loopw [27] (fun iv wr => ∃ (q : Nat) (zs1 : List Int), q ≤ (incs ls i ls.length).length ∧ iv = .int .i64 (q : Int) ∧ Hid (SiteOk wr Ba Bj Bb Bw nb rb g m base bl K pb vl vb (.slice A ls.length c) ls) ∧ Hid (OwnI wr b0 (.slice (some ⟨rb, 0, none⟩) m m) zs1) ∧ zs1.length = m ∧ Hid (Roaming ls G i e0 f d0 q zs zs1) ∧ Hid (w.grownBy wr (some rb))) (fun iv _ => (incs ls i ls.length).length - (intOf iv).toNat)
    case atStart => exact ⟨0, zs.set i (G f d0), by omega, rfl, S1, O1, by rw [List.length_set]; exact HZ.out, Lib.hid (roam_start (by rw [HZ.out]; exact hi)), G1⟩
    case round =>
      clear S1 O1 G1 x1 x2 cj
      obtain ⟨q, zs1, hq, rfl, HS, HO, hz1, HRo, HG⟩ := hrel
      by_cases hlt : q < (incs ls i ls.length).length
      · obtain ⟨t, ht, htl, htt⟩ := incs_mem.1 (List.getElem_mem hlt)
        obtain ⟨gi, c', e1, _, lg, rg, _⟩ := OwnI.spot (zs := incs ls i ls.length) (HS.out.net.ints i hi) hlt
        rw [EV.out] at e1
        simp only [Value.slice.injEq] at e1
        obtain ⟨rfl, hloop, rfl⟩ := e1
        clear hloop
        rw [ht] at rg
        obtain ⟨gl, cl, e2, _, ll, rl, _⟩ := HS.out.own.spot htl
        simp only [Value.slice.injEq] at e2
        obtain ⟨rfl, hloop, rfl⟩ := e2
        clear hloop
        rw [← limbAt_lt htl] at rl
        have r0 : wr.cell? ⟨gl, t * 3, none⟩ = some (.int .i64 (limbAt ls t).a) := rl 0 _ rfl
        have r1 : wr.cell? ⟨gl, t * 3 + 1, none⟩ = some (.int .i64 (limbAt ls t).b) := rl 1 _ rfl
        have r2 : wr.cell? ⟨gl, t * 3 + 2, none⟩ = some (.int .i64 (limbAt ls t).n) := rl 2 _ rfl
        have cb := HS.out.box
        obtain ⟨p, p', hp, hp', _⟩ := fits_at HF.out htl
        have C := Lib.hid (otherEnd_any (limbAt ls t) i (by omega) (by omega))
        obtain ⟨hn1, hn2⟩ := limb_pos HF.out htl
        have LB := Lib.hid (led_back HF.out HR.out.1 HR.out.2 HL.out htl htt)
        have OS := Lib.hid (other_spec HF.out htl htt)
        have HT := Lib.hid (And.intro hlt (And.intro ht (And.intro htl htt)))
        have hq0 : (0 : Int) ≤ (q : Int) := by omega
        have hq1 : (q : Int) < ((incs ls i ls.length).length : Int) := by omega
        have ht0 : (0 : Int) ≤ (t : Int) := by omega
        have ht1 : (t : Int) < (ls.length : Int) := by omega
        clear rl hp hp' ht htl htt
        go_wp2_with fail
        have SA := Lib.hid (HS.out.kept (World.grownBy_alloc wr (.cells #[.int .i64 (limbAt ls t).a, .int .i64 (limbAt ls t).b, .int .i64 (limbAt ls t).n] 57) _))
        have OA := Lib.hid (HO.out.alloc (.cells #[.int .i64 (limbAt ls t).a, .int .i64 (limbAt ls t).b, .int .i64 (limbAt ls t).n] 57))
        have GA := Lib.hid (HG.out.trans (World.grownBy_alloc wr (.cells #[.int .i64 (limbAt ls t).a, .int .i64 (limbAt ls t).b, .int .i64 (limbAt ls t).n] 57) _))
        have n2 : (wr.alloc (.cells #[.int .i64 (limbAt ls t).a, .int .i64 (limbAt ls t).b, .int .i64 (limbAt ls t).n] 57)).cell? ⟨wr.heap.size, 2, none⟩ = some (.int .i64 (limbAt ls t).n) := by simp [go_sem]
        refine (C.out _).mono ?_
        rintro e w2 ⟨rfl, b2⟩
        have S2 := Lib.hid (SA.out.kept (grown_of_below b2 _))
        have O2 := Lib.hid (OA.out.below b2)
        have G2 := Lib.hid (GA.out.trans (grown_of_below b2 _))
        replace n2 := cell_below n2 b2
        have cm := S2.out.me
        clear b2 SA OA GA r0 r1 r2 cb lg ll rg HS HO HG
        obtain ⟨y, hy⟩ : ∃ y, other (limbAt ls t) i = y := ⟨_, rfl⟩
        by_cases hback : e0 = some t
        · have hfo := LB.out.2 hback
          rw [hy] at hfo ⊢
          have NX := Lib.hid (roam_skip HT.out.1 HT.out.2.1 (hback ▸ HRo.out))
          rw [← hback] at NX
          clear hback
          go_wp2
          exact ⟨⟨q + 1, zs1, by omega, by go_num, S2, O2, hz1, NX, G2⟩, by simp [intOf]; omega⟩
        · have hfo := mt LB.out.1 hback
          have CO := Lib.hid (came_on HF.out HR.out.1 HR.out.2 HC.out HT.out.2.2.1 HT.out.2.2.2 hback)
          have LE : Led ls y (some t) (i : Int) := .inr ⟨t, rfl, HT.out.2.2.1, by rw [← hy]; exact OS.out.2.2.2.1, by rw [← hy, OS.out.2.2.2.2.1]⟩
          have HB := Lib.hid hback
          have ym := OS.out.2.1
          have hD := CO.out.1
          have CB := Lib.hid CO.out.2
          rw [hy] at hfo ym CB ⊢
          have LED := Lib.hid LE
          clear hback LE CO
          go_wp2_with fail
          refine (IH.out (D - 1) (by omega) y (some t) (i : Int) (d0 + (limbAt ls t).n) zs1 w2 S2.out O2.out hz1 ym LED.out CB.out (by omega) (by omega)).mono ?_
          rintro e w3 ⟨rfl, zs3, o3, hz3, hro3, g3⟩
          have S3 := Lib.hid (S2.out.kept g3)
          have O3 := Lib.hid o3
          have G3 := Lib.hid (G2.out.trans g3)
          rw [← hy] at hro3
          have NX := Lib.hid (roam_step HF.out HR.out.1 HR.out.2 HT.out.1 HT.out.2.1 HB.out HRo.out hro3)
          clear o3 g3 hro3 n2 cm
          go_wp2
          exact ⟨⟨q + 1, zs3, by omega, by go_num, S3, O3, hz3, NX, G3⟩, by simp [intOf]; omega⟩
      · obtain rfl : q = (incs ls i ls.length).length := by omega
        go_wp2
        go_end0
        exact ⟨rfl, zs1, HO.out, hz1, roam_end HRo.out, HG.out⟩
end Go.Proofs.Ytblbmppbbhibeaa
