/- Heights as function values: the height function of one string, the row of such functions, the greatest of them; the contracts of impl.hangingFromOne, highestOf, hangingFrom and of what they hand back. Condition: the pulls are valid. -/
import Derived.Test.YtblbmppbbhibeaaHangA
import Derived.Test.YtblbmppbbhibeaaDistsI
import Derived.BigQuiet
import Derived.Deep.RegionHeld3
namespace Go.Proofs.Ytblbmppbbhibeaa
set_option linter.unusedVariables false
set_option linter.unusedSimpArgs false
open Go.RowKit

/-- The height function of one string: its pull is in block x.1, its distances are in the variable x.2. -/
def oneV (x : Nat × Nat) : Value := .func (.func 65) #[] #[.pointer (some ⟨x.1, 0, none⟩), .pointer (some ⟨x.2, 0, none⟩)]
/-- A slice value that owns such functions. -/
def OwnF (w : World) (base : Nat) (v : Value) (xs : List (Nat × Nat)) : Prop := w.ownsRow base 52 1 v xs.length (xs.map oneV)
theorem info_fn : (Try.prog.info? 52).map (fun i => (i.zero, i.size, i.bytes)) = some (some .nilFunc, 1, 8) := by kernel_rfl
section
variable {w w' : World} {base : Nat} {v : Value} {xs : List (Nat × Nat)}
theorem OwnF.kept {row : Option Nat} (h : OwnF w base v xs) (hg : w.grownBy w' row) (hne : v.ownBlock = none ∨ v.ownBlock ≠ row) : OwnF w' base v xs := World.ownsRow.kept h hg hne
theorem OwnF.alloc (h : OwnF w base v xs) (o : Obj) : OwnF (w.alloc o) base v xs := World.ownsRow.alloc h o
theorem OwnF.lt (h : OwnF w base v xs) : ∀ k, v.ownBlock = some k → base ≤ k ∧ k < w.heap.size := World.ownsRow.lt h
theorem OwnF.below (h : OwnF w base v xs) (hb : Below w.heap.size w w') : OwnF w' base v xs := h.kept (grown_of_below hb none) (by cases v.ownBlock <;> simp)
theorem OwnF.slice (h : OwnF w base v xs) : ∃ A c, v = .slice A xs.length c := by
  rcases h.2 with ⟨rfl, hn⟩ | ⟨g, cap, _, rfl, _⟩
  · exact ⟨none, 0, by rw [hn]⟩
  · exact ⟨_, _, rfl⟩
theorem OwnF.spot (h : OwnF w base v xs) {k : Nat} (hk : k < xs.length) :
    ∃ g c, v = .slice (some ⟨g, 0, none⟩) xs.length c ∧ w.cell? ⟨g, k, none⟩ = some (oneV xs[k]) := by
  rcases h.2 with ⟨_, hn⟩ | ⟨g, cap, cur, hv, hb, hg, _⟩
  · omega
  · subst hv
    refine ⟨g, cap, rfl, ?_⟩
    rw [World.ownsRow.cellAt h k (by omega)]
    simp [hk]
theorem ownF_snoc {x : Nat × Nat} (h : w.ownsRow base 52 1 v (xs.length + 1) (xs.map oneV ++ [oneV x])) : OwnF w base v (xs ++ [x]) := by
  unfold OwnF
  rw [List.length_append, List.map_append]
  exact h
end
/-- What the height function of one string reads; none of it lies in the block rb. -/
structure OneOk (w : World) (x : Nat × Nat) (p : Int) (ds : List Int) (rb : Option Nat) : Prop where
  pull : w.cell? ⟨x.1, 0, none⟩ = some (.int .i64 p)
  far : ∃ vd bd, w.cell? ⟨x.2, 0, none⟩ = some vd ∧ OwnI w bd vd ds ∧ (vd.ownBlock = none ∨ vd.ownBlock ≠ rb)
  ne : some x.1 ≠ rb ∧ some x.2 ≠ rb
section
variable {w w' : World} {x : Nat × Nat} {p : Int} {ds : List Int} {rb rb' : Option Nat}
theorem OneOk.kept (h : OneOk w x p ds rb) (hg : w.grownBy w' rb) : OneOk w' x p ds rb := by
  obtain ⟨vd, bd, h1, h2, h3⟩ := h.far
  exact ⟨hg.cell h.pull h.ne.1, ⟨vd, bd, hg.cell h1 h.ne.2, h2.kept hg h3, h3⟩, h.ne⟩
theorem OneOk.below (h : OneOk w x p ds rb) (hb : Below w.heap.size w w') : OneOk w' x p ds rb := by
  obtain ⟨vd, bd, h1, h2, h3⟩ := h.far
  exact ⟨cell_below h.pull hb, ⟨vd, bd, cell_below h1 hb, h2.below hb, h3⟩, h.ne⟩
theorem OneOk.moved (h : OneOk w x p ds rb) (hr : rb' = rb ∨ ∀ k, rb' = some k → w.heap.size ≤ k) : OneOk w x p ds rb' := by
  rcases hr with rfl | hr
  · exact h
  · obtain ⟨vd, bd, h1, h2, h3⟩ := h.far
    have n1 := World.block_lt_of_cell? w _ h.pull
    have n2 := World.block_lt_of_cell? w _ h1
    refine ⟨h.pull, ⟨vd, bd, h1, h2, ?_⟩, fun e => ?_, fun e => ?_⟩
    · refine sep_of (fun k hk e => ?_)
      have := (h2.lt k hk).2
      have := hr k e
      omega
    · have := hr _ e.symm
      simp only at n1
      omega
    · have := hr _ e.symm
      simp only at n2
      omega
end
/-- A row of height functions: string k has the pull P k and the distances D k. -/
structure Tops (w : World) (base : Nat) (v : Value) (xs : List (Nat × Nat)) (P : Nat → Int) (D : Nat → List Int) : Prop where
  row : OwnF w base v xs
  each : ∀ k (h : k < xs.length), OneOk w xs[k] (P k) (D k) v.ownBlock
section
variable {w w' : World} {base : Nat} {v : Value} {xs : List (Nat × Nat)} {P : Nat → Int} {D : Nat → List Int}
theorem Tops.below (h : Tops w base v xs P D) (hb : Below w.heap.size w w') : Tops w' base v xs P D := ⟨h.row.below hb, fun k hk => (h.each k hk).below hb⟩
theorem tops_nil : Tops w base (.slice none 0 0) [] P D := ⟨⟨rfl, .inl ⟨rfl, rfl⟩⟩, fun _ h => absurd h (by simp)⟩
/-- One more function. -/
theorem Tops.snoc {w1 w2 : World} {v2 : Value} {o : Obj} {y : Nat × Nat} (h : Tops w base v xs P D) (hb : Below w.heap.size w w1) (hy : OneOk w1 y (P xs.length) (D xs.length) none) (h1 : w.heap.size ≤ y.1) (h2 : w.heap.size ≤ y.2)
    (h3 : ∃ vd bd, w1.cell? ⟨y.2, 0, none⟩ = some vd ∧ OwnI w1 bd vd (D xs.length) ∧ w.heap.size ≤ bd) (ho : OwnF w2 base v2 (xs ++ [y])) (hg : (w1.alloc o).grownBy w2 v.ownBlock) (hat : v2.ownBlock = v.ownBlock ∨ ∀ k, v2.ownBlock = some k → w1.heap.size ≤ k) : Tops w2 base v2 (xs ++ [y]) P D := by
  refine ⟨ho, fun k hk => ?_⟩
  have g2 := (World.grownBy_alloc w1 o v.ownBlock).trans hg
  have key : OneOk w1 (xs ++ [y])[k] (P k) (D k) v.ownBlock := by
    by_cases c : k < xs.length
    · rw [List.getElem_append_left c]
      exact (h.each k c).below hb
    · obtain rfl : k = xs.length := by rw [List.length_append, List.length_singleton] at hk; omega
      rw [List.getElem_append_right (Nat.le_refl _)]
      simp only [Nat.sub_self, List.getElem_cons_zero]
      obtain ⟨vd, bd, e1, e2, e3⟩ := h3
      refine ⟨hy.pull, ⟨vd, bd, e1, e2, sep_of (fun k hk e => ?_)⟩, fun e => ?_, fun e => ?_⟩
      · have := (e2.lt k hk).1
        have := (h.row.lt k e).2
        omega
      · have := (h.row.lt _ e.symm).2
        omega
      · have := (h.row.lt _ e.symm).2
        omega
  have k2 := key.moved (rb' := v2.ownBlock) hat
  refine ⟨g2.cell key.pull key.ne.1, ?_, k2.ne⟩
  obtain ⟨vd, bd, e1, e2, e3⟩ := key.far
  obtain ⟨vd', bd', e1', e2', e3'⟩ := k2.far
  obtain rfl : vd = vd' := by rw [e1] at e1'; exact Option.some.inj e1'
  exact ⟨vd, bd, g2.cell e1 key.ne.2, e2.kept g2 e3, e3'⟩
end

set_option maxHeartbeats 400000 in
theorem one_call (x : Nat × Nat) (p : Int) (ds : List Int) (rb : Option Nat) (j : Nat) (w : World) (h : OneOk w x p ds rb) (hj : j < ds.length) (_ : ds.length ≤ 2000000) (hp : -1 ≤ p ∧ p ≤ 500) (hd : 0 ≤ ds.getD j 0 ∧ ds.getD j 0 ≤ 2000) :
    Calls Try.prog 65 #[.int .i64 (j : Int), .pointer (some ⟨x.1, 0, none⟩), .pointer (some ⟨x.2, 0, none⟩)] w fun e w' => e = .returned (.int .i64 (p - ds.getD j 0)) ∧ Below w.heap.size w w' := by
  obtain ⟨vd, bd, h1, h2, _⟩ := h.far
  have h0 := h.pull
  obtain ⟨g, c, e1, _, _, z0, _⟩ := h2.spot hj
  subst e1
  rw [← getD_of hj] at z0
  generalize ds.getD j 0 = y at z0 hd
  have hj0 : (0 : Int) ≤ (j : Int) := by omega
  have hj1 : (j : Int) < (ds.length : Int) := by omega
  have gw : IntKind.i64.wrap (p - y) = p - y := IntWalk.i64_in _ (by omega)
  clear h h2
  go_enter Try.func65, Try.ntmps65
  go_wp2
  go_quiet (fail)
  go_wp2
  go_ret
  exact ⟨rfl, below_drewN (Below.refl _ _) _⟩

set_option maxRecDepth 100000 in
set_option maxHeartbeats 800000 in
/-- The greatest of the heights, and -2001. -/
theorem top_call (j eb base : Nat) (v : Value) (xs : List (Nat × Nat)) (P : Nat → Int) (D : Nat → List Int) (T : Nat → Int) (w : World) (hc : w.cell? ⟨eb, 0, none⟩ = some v) (ht : Tops w base v xs P D) (hl : xs.length ≤ 2000000) (h0 : T 0 = -2001)
    (h1 : ∀ k, k < xs.length → T (k + 1) = max (T k) (P k - (D k).getD j 0)) (hb : ∀ k, k < xs.length → (-1 ≤ P k ∧ P k ≤ 500) ∧ j < (D k).length ∧ (D k).length ≤ 2000000 ∧ 0 ≤ (D k).getD j 0 ∧ (D k).getD j 0 ≤ 2000) :
    Calls Try.prog 66 #[.int .i64 (j : Int), .pointer (some ⟨eb, 0, none⟩)] w fun e w' => e = .returned (.int .i64 (T xs.length)) ∧ Below w.heap.size w w' := by
  obtain ⟨A, c, e⟩ := ht.row.slice
  subst e
  have HT := Lib.hid ht
  have H1 := Lib.hid h1
  have HB := Lib.hid hb
  have H0 := Lib.hid h0.symm
  clear ht h1 hb h0
  go_enter Try.func66, Try.ntmps66
  go_wp2_with fail
  clear hc
  go_loopw [4, 9] (fun tv iv wr => ∃ k : Nat, k ≤ xs.length ∧ iv = .int .i64 (k : Int) ∧ tv = .int .i64 (T k) ∧ Below w.heap.size w wr) (fun _ iv _ => xs.length - (intOf iv).toNat)
  case atStart => exact ⟨0, by omega, rfl, by rw [← H0.out], Below.refl _ _⟩
  case round =>
    obtain ⟨k, hk, rfl, rfl, hb⟩ := hrel
    by_cases hlt : k < xs.length
    · have T1 := HT.out.below hb
      obtain ⟨g, _, e1, z0⟩ := T1.row.spot hlt
      simp only [Value.slice.injEq] at e1
      obtain ⟨rfl, em, rfl⟩ := e1
      clear em
      obtain ⟨b1, b2, b3, b4⟩ := HB.out k hlt
      have ONE := Lib.hid (one_call xs[k] (P k) (D k) _ j wr (T1.each k hlt) b2 b3 b1 b4)
      have TS := Lib.hid (H1.out k hlt)
      have BW := Lib.hid hb
      clear T1 b1 b2 b3 b4 hb
      generalize xs[k] = x at z0 ONE
      generalize P k - (D k).getD j 0 = y at ONE TS
      generalize T k = t at TS
      unfold oneV at z0
      have hk0 : (0 : Int) ≤ (k : Int) := by omega
      have hk1 : (k : Int) < (xs.length : Int) := by omega
      go_wp2_with fail
      refine ONE.out.mono ?_
      rintro e w2 ⟨rfl, b2⟩
      have B2 := Lib.hid (BW.out.trans (b2.mono BW.out.size))
      clear b2 z0
      have TS2 := Lib.hid (show T (k + 1) = if t < y then y else t by rw [TS.out]; split <;> omega)
      clear TS
      go_wp2
      all_goals exact ⟨⟨k + 1, by omega, by go_num, by rw [TS2.out], B2.out⟩, by simp [intOf]; omega⟩
    · obtain rfl : k = xs.length := by omega
      go_wp2
      go_ret
      exact ⟨rfl, hb⟩

set_option maxRecDepth 100000 in
set_option maxHeartbeats 800000 in
theorem from_one (m x : Nat) (p : Int) (v : Value) (ls : List Lb) (base : Nat) (w : World) (hown : OwnL w base v ls) (hok : bodyOk m ls = true) (hx : x < m) :
    Calls Try.prog 52 #[bodyV (m : Int) v, .int .i64 (x : Int), .int .i64 p] w fun e w' => ∃ y : Nat × Nat, e = .returned (oneV y) ∧ w.heap.size ≤ y.1 ∧ w.heap.size ≤ y.2 ∧ OneOk w' y p (distsTo m ls x m) none ∧
      (∃ vd bd, w'.cell? ⟨y.2, 0, none⟩ = some vd ∧ OwnI w' bd vd (distsTo m ls x m) ∧ w.heap.size ≤ bd) ∧ Below w.heap.size w w' := by
  have hmf : ∀ (fn : Fn) (first cap : Array Value) (w : World), (Instr.makeFunc fn first cap).run Try.prog w = .ok (.func fn first cap) w := fun _ _ _ _ => rfl
  have CD := Lib.hid (fun W h => implDists_yes m x v ls base W h hok hx)
  obtain ⟨A, c, e⟩ := hown.slice
  subst e
  have OWN := Lib.hid hown
  clear hown hok hx
  unfold bodyV at CD ⊢
  go_enter Try.func52, Try.ntmps52
  go_wp2_with fail
  refine (CD.out _ ((OWN.out.alloc _).alloc _)).mono ?_
  rintro e w1 ⟨vd, rfl, o1, b1⟩
  obtain ⟨A1, c1, rfl⟩ := o1.slice
  have hs := b1.size
  simp only [World.size_alloc] at hs
  have k0 : ((w.alloc (.cells #[.int .i64 (m : Int), .slice A ls.length c] 26)).alloc (.cells #[.int .i64 p] 3)).cell? ⟨w.heap.size + 1, 0, none⟩ = some (.int .i64 p) := by simp [go_sem]
  have k1 := (elder (cell_below k0 b1)).1
  have O1 := Lib.hid o1
  have BW := Lib.hid ((((Below.refl w.heap.size w).alloc (Nat.le_refl _) _).alloc (by simp) _).trans (b1.mono (by simp <;> omega)))
  have K1 := Lib.hid k1
  clear b1 o1 k0 k1
  go_wp2
  go_ret
  refine ⟨(w.heap.size + 1, w1.heap.size), rfl, by simp, by simp; omega, ⟨K1.out _, ⟨_, _, by simp [go_sem], O1.out.alloc _, Classical.em _⟩, by simp, by simp⟩, ⟨_, _, by simp [go_sem], O1.out.alloc _, by simp; omega⟩, BW.out.alloc BW.out.size _⟩

/-- The pull and the distances of the string at place k. -/
def pullAt (zs : List Int) (k : Nat) : Int := zs.getD ((strs zs).getD k 0).toNat 0
def farAt (m : Nat) (ls : List Lb) (zs : List Int) (k : Nat) : List Int := distsTo m ls ((strs zs).getD k 0).toNat m
def HeightsPost (w : World) (m : Nat) (ls : List Lb) (zs : List Int) (e : Ending) (w' : World) : Prop :=
  ∃ eb ve xs, e = .returned (.func (.func 66) #[] #[.pointer (some ⟨eb, 0, none⟩)]) ∧ w'.cell? ⟨eb, 0, none⟩ = some ve ∧ (∃ base, Tops w' base ve xs (pullAt zs) (farAt m ls zs)) ∧ xs.length = (strs zs).length ∧ Below w.heap.size w w'
theorem highest_any (v : Value) (xs : List (Nat × Nat)) (base : Nat) (w : World) (h : OwnF w base v xs) :
    Calls Try.prog 53 #[v] w fun e w' => e = .returned (.func (.func 66) #[] #[.pointer (some ⟨w.heap.size, 0, none⟩)]) ∧ w' = w.alloc (.cells #[v] 72) := by
  have hmf : ∀ (fn : Fn) (first cap : Array Value) (w : World), (Instr.makeFunc fn first cap).run Try.prog w = .ok (.func fn first cap) w := fun _ _ _ _ => rfl
  obtain ⟨A, c, e⟩ := h.slice
  subst e
  clear h
  go_enter Try.func53, Try.ntmps53
  go_wp2
  go_ret
  exact ⟨rfl, rfl⟩

set_option maxRecDepth 100000 in
set_option maxHeartbeats 1600000 in
theorem hangFrom_any (m : Nat) (v vp : Value) (ls : List Lb) (zs : List Int) (base b2 : Nat) (w : World) (hown : OwnL w base v ls) (hp : OwnI w b2 vp zs) (h : pullsOk m ls zs = true) :
    Calls Try.prog 36 #[bodyV (m : Int) v, vp] w (HeightsPost w m ls zs) := by
  obtain ⟨hok, hzl, -, -⟩ := pulls_parts h
  have hm12 := (ok_parts' hok).2.2.1
  have hzm : zs.length = m := by omega
  have CT := Lib.hid (fun W h => strings_any vp zs b2 W h (by omega))
  have C1 := Lib.hid (fun (x : Nat) (p : Int) (hx : x < m) W h => from_one m x p v ls base W h hok hx)
  have C2 := Lib.hid (fun v xs base W h => highest_any v xs base W h)
  obtain ⟨A, c, e⟩ := hown.slice
  subst e
  obtain ⟨P, d, e⟩ := hp.slice
  subst e
  have OWN := Lib.hid hown
  have HP := Lib.hid hp
  have BX := Lib.hid (box_facts (J := (m : Int)) hown)
  have SA := Lib.hid (fun r (h : r < (strs zs).length) => strs_at h)
  have PA := Lib.hid (fun r (h : r < (strs zs).length) => (by unfold pullAt farAt; rw [getD_of h]; exact ⟨rfl, rfl⟩ : pullAt zs r = zs.getD (strs zs)[r].toNat 0 ∧ farAt m ls zs r = distsTo m ls (strs zs)[r].toNat m))
  have hsl : (strs zs).length ≤ 12 := Nat.le_trans (strsTo_len _ _) (by omega)
  have ZM := Lib.hid hzm
  obtain ⟨i0, hi0, hz0, hz1, hz2⟩ := info_parts info_fn
  have hpos : 0 < 1 := by omega
  clear hown hp h hok hzl
  unfold bodyV at C1 ⊢
  unfold HeightsPost
  rw [hzm] at CT ⊢
  clear hzm
  go_enter Try.func36, Try.ntmps36
  go_wp2_with fail
  refine (CT.out _ (ZM.out ▸ HP.out.alloc _)).mono ?_
  rintro e w1 ⟨vs, rfl, o1, b1⟩
  obtain ⟨S, cs, rfl⟩ := o1.slice
  simp only [World.size_alloc] at b1
  have hs1 := b1.size
  simp only [World.size_alloc] at hs1
  have B1 := Lib.hid b1
  have O1 := Lib.hid o1
  clear b1 o1
  generalize hss : strs zs = ss at O1 SA PA hsl ⊢
  go_wp2_with fail
  go_loopw [5, 11] (fun ev iv wr => ∃ (k : Nat) (xs : List (Nat × Nat)) (vo : Value), vo = ev ∧ k ≤ ss.length ∧ iv = .int .i64 (k : Int) ∧ xs.length = k ∧ Hid (Tops wr w1.heap.size vo xs (pullAt zs) (farAt m ls zs)) ∧ Hid (Below w1.heap.size w1 wr)) (fun _ iv _ => ss.length - (intOf iv).toNat)
  case atStart => exact ⟨0, [], _, rfl, by omega, rfl, rfl, Lib.hid tops_nil, Lib.hid (Below.refl _ _)⟩
  case round =>
    obtain ⟨k, xs, vo, rfl, hk, rfl, hxl, HT, HB⟩ := hrel
    have BB := Lib.hid (B1.out.trans (HB.out.mono hs1))
    obtain ⟨x0, x1, ol, bw⟩ := BX.out wr BB.out
    have hsz := HB.out.size
    by_cases hlt : k < ss.length
    · obtain ⟨j, hj, hjz, hjn⟩ := SA.out k hlt
      obtain ⟨hP, hD⟩ := PA.out k hlt
      obtain ⟨gs, _, e1, _, _, r0, _⟩ := (O1.out.below HB.out).spot hlt
      simp only [Value.slice.injEq] at e1
      obtain ⟨rfl, em, rfl⟩ := e1
      clear em
      rw [hj, Int.toNat_natCast] at hP hD
      rw [hj] at r0
      obtain ⟨gz, _, e1, _, hgz, z0, _⟩ := HP.out.spot hjz
      replace z0 := cell_below z0 bw
      rw [ZM.out] at e1 hjz
      simp only [Value.slice.injEq] at e1
      obtain ⟨rfl, em, rfl⟩ := e1
      clear em hj
      rw [← getD_of (by rw [ZM.out]; exact hjz), ← hP] at z0
      have OL := Lib.hid ol
      have X0 := Lib.hid (And.intro x0 (And.intro x1 z0))
      have PD := Lib.hid (And.intro hP hD)
      clear ol bw hP hD hjn
      generalize hpe : pullAt zs k = p at z0 X0
      have PE := Lib.hid hpe
      clear hpe
      have hk0 : (0 : Int) ≤ (k : Int) := by omega
      have hk1 : (k : Int) < (ss.length : Int) := by omega
      have hj0 : (0 : Int) ≤ (j : Int) := by omega
      have hj1 : (j : Int) < (m : Int) := by omega
      have OW := Lib.hid (HT.out.row.below (Below.refl _ _).drew)
      have NE := Lib.hid (show some w.heap.size ≠ vo.ownBlock ∧ some gz ≠ vo.ownBlock from ⟨fun e => by have := (HT.out.row.lt _ e.symm).1; omega, fun e => by have := (HT.out.row.lt _ e.symm).1; omega⟩)
      have hmax : xs.length + 1 ≤ maxLen := by simp only [maxLen]; omega
      have hbd : (xs.length + 1) * 8 ≤ 140737488355328 := by omega
      clear x0 x1 z0
      go_wp2
      go_region_held3 (fun w' => w'.cell? ⟨w.heap.size, 0, none⟩ = some (.int .i64 (m : Int)) ∧ w'.cell? ⟨w.heap.size, 1, none⟩ = some (.slice A ls.length c) ∧ w'.cell? ⟨gz, j, none⟩ = some (.int .i64 p))
        (first | exact X0.out | exact X3.out | exact ⟨(elder X3.out.1).1 _, (elder X3.out.2.1).1 _, (elder X3.out.2.2).1 _⟩ | exact ⟨hgrow.cell ((elder X3.out.1).1 _) NE.out.1, hgrow.cell ((elder X3.out.2.1).1 _) NE.out.1, hgrow.cell ((elder X3.out.2.2).1 _) NE.out.2⟩) (first | (go_at_call 52; refine (C1.out j p ?_ _ ?_).mono ?_; (exact hjz); (exact OL.out.below (Below.refl _ _).drew); rintro e w3 ⟨y, rfl, hy1, hy2, oy, far3, b3⟩; have X3 := Lib.hid (And.intro (cell_below (by exact X0.out.1) b3) (And.intro (cell_below (by exact X0.out.2.1) b3) (cell_below (by exact X0.out.2.2) b3))); have OW3 := Lib.hid (OW.out.below b3); have hs3 := b3.size; simp only [World.size_drew] at hs3; unfold oneV) | (refine step_append_lies _ (by rfl) (.tmp 15) (.tmp 23) 72 (by rfl) w1.heap.size 52 i0 .nilFunc 1 8 Try.underlying72 hi0 hz0 hz1 hz2 (by rfl) hpos vo _ _ (by rfl) (OW3.out.alloc _) ⟨w3.heap.size, 0, none⟩ 1 1 [.func (.func 65) #[] #[.pointer (some ⟨y.1, 0, none⟩), .pointer (some ⟨y.2, 0, none⟩)]] (by rfl) (by rfl) (World.news_of_block (heap_alloc_new w3 _)) ?_ hpos hmax hbd ?_ (w3.heap.size + 1) ?_ ?_; (simp [Value.oneCell']); (simp; omega); (simp); intro gg cap w4 hown1 hgrow hat hlt'))
      have b3' := undrew (show Below wr.heap.size wr.drew w3 by simpa using b3)
      have B3 := Lib.hid (HB.out.trans (b3'.mono hsz))
      have T4 := Lib.hid (HT.out.snoc (y := y) b3' (by rw [hxl, PE.out, PD.out.2]; exact oy) (by simpa using hy1) (by simpa using hy2) (by rw [hxl, PD.out.2]; obtain ⟨vd, bd, q1, q2, q3⟩ := far3; exact ⟨vd, bd, q1, q2, by simpa using q3⟩) (ownF_snoc hown1) hgrow
        (by
          rcases hat with h | h
          · exact .inl h.symm
          · refine .inr fun q hq => ?_
            have : gg = q := Option.some.inj hq
            omega))
      have HB4 := Lib.hid ((B3.out.alloc B3.out.size _).grown hgrow (by simp; omega) (fun q hq => (HT.out.row.lt q hq).1))
      rw [hxl] at T4
      clear oy far3 b3 b3' hown1 hgrow hat hy1 hy2
      go_wp2
      exact ⟨⟨k + 1, xs ++ [y], _, rfl, by omega, by go_num, by simp [hxl], T4, HB4⟩, by simp [intOf]; omega⟩
    · have hkk : xs.length = ss.length := by omega
      have TW := Lib.hid (HT.out.below ((Below.refl wr.heap.size wr).alloc (Nat.le_refl _) (.cells #[vo] 72)))
      have BW := Lib.hid (bw.alloc bw.size (.cells #[vo] 72))
      have HSS := Lib.hid hss
      clear hss bw ol x0 x1
      go_wp2_with fail
      refine (C2.out vo xs _ wr HT.out.row).mono ?_
      rintro e w2 ⟨rfl, rfl⟩
      go_wp2
      go_ret
      exact ⟨wr.heap.size, vo, xs, rfl, by simp [go_sem], ⟨_, TW.out⟩, by rw [HSS.out]; exact hkk, BW.out⟩
end Go.Proofs.Ytblbmppbbhibeaa
