/- The contract of impl.linkJoints. Condition: the limbs fit and lie in a row of their own. -/
import Derived.Test.YtblbmppbbhibeaaAttW
import Derived.Test.YtblbmppbbhibeaaFitW
import Derived.Deep.RegionHeld3
namespace Go.Proofs.Ytblbmppbbhibeaa
set_option linter.unusedVariables false
set_option linter.unusedSimpArgs false
open Go.RowKit

section
variable {w w' w1 : World} {base m k : Nat} {pb : Nat → Nat} {vl vb : Nat → Value} {I I' : Nat → List Int} {N N' : Nat → List Nat} {R : Nat → Bool}
/-- A store below the net. -/
theorem NetOk.setBelow (h : NetOk w base m pb vl vb I N R) {a : Addr} (ha : a.block < base) (u : Value) : NetOk (w.setCell a u) base m pb vl vb I N R := by
  have hg := grown_cell w a u
  have hne : ∀ j d, j < m → d < 3 → ob pb vl vb j d ≠ some a.block := fun j d hj hd e => by have := (h.lt j d _ hj hd e).1; omega
  have sep : ∀ j d, j < m → d < 3 → ob pb vl vb j d = none ∨ ob pb vl vb j d ≠ some a.block := fun j d hj hd => .inr (hne j d hj hd)
  exact ⟨fun i hi => ⟨(h.blk i hi).1, (Below.heap_setCell _ _ _ _ (by rintro e; exact hne i 0 hi (by omega) (congrArg some e))).trans (h.blk i hi).2⟩,
    fun i hi => (h.ints i hi).kept hg (sep i 1 hi (by omega)), fun i hi => (h.ptrs i hi).kept hg (sep i 2 hi (by omega)), h.apart⟩
theorem NetOk.congr (h : NetOk w base m pb vl vb I N R) (hI : ∀ i, i < m → I i = I' i) (hN : ∀ i, i < m → N i = N' i) : NetOk w base m pb vl vb I' N' R :=
  ⟨h.blk, fun i hi => hI i hi ▸ h.ints i hi, fun i hi => hN i hi ▸ h.ptrs i hi, h.apart⟩
/-- What spares the net's surroundings. -/
theorem NetOk.stranger (h : NetOk w base m pb vl vb I N R) {b : Nat} (hb : w.heap.size ≤ b ∨ b < base) : Stranger m pb vl vb b := fun j d hj hd e => by
  have := h.lt j d b hj hd e
  omega
end
/-- A net without limbs. -/
def Bare (w : World) (base k : Nat) (pb : Nat → Nat) : Prop := NetOk w base k pb (fun _ => .slice none 0 0) (fun _ => .slice none 0 0) (fun _ => []) (fun _ => []) (fun _ => false)
theorem bare_nil (w : World) (base : Nat) (pb : Nat → Nat) : Bare w base 0 pb := ⟨fun i hi => by omega, fun i hi => by omega, fun i hi => by omega, fun i j c d hi => by omega⟩
theorem bare_more {w : World} {base k : Nat} {pb : Nat → Nat} (h : Bare w base k pb) (hb : base ≤ w.heap.size) :
    Bare (w.alloc (.cells #[.slice none 0 0, .slice none 0 0, .bool false] 89)) base (k + 1) (upd pb k w.heap.size) := by
  refine ⟨fun i hi => ?_, fun i hi => ⟨rfl, .inl ⟨rfl, rfl⟩⟩, fun i hi => ⟨rfl, .inl ⟨rfl, rfl⟩⟩, fun i j c d hi hj hc hd hne b e1 e2 => ?_⟩
  · by_cases e : i = k
    · subst e
      rw [upd_same]
      exact ⟨hb, heap_alloc_new w _⟩
    · rw [upd_other pb e]
      obtain ⟨h1, h2⟩ := h.blk i (by omega)
      exact ⟨h1, (Below.heap_alloc w _ _ (Array.getElem?_eq_some_iff.1 h2).1).trans h2⟩
  · have hc0 : c = 0 := by
      unfold ob at e1
      by_cases x : c = 0
      · exact x
      · rw [if_neg x] at e1
        split at e1
        · cases e1
        · split at e1 <;> cases e1
    have hd0 : d = 0 := by
      unfold ob at e2
      by_cases x : d = 0
      · exact x
      · rw [if_neg x] at e2
        split at e2
        · cases e2
        · split at e2 <;> cases e2
    subst hc0 hd0
    have f1 : upd pb k w.heap.size i = b := by simpa [ob] using e1
    have f2 : upd pb k w.heap.size j = b := by simpa [ob] using e2
    have hij : i ≠ j := by omega
    by_cases ei : i = k
    · subst ei
      rw [upd_same] at f1
      rw [upd_other pb (fun x => hij x.symm)] at f2
      have := (h.lt j 0 b (by omega) (by omega) (by simp [ob, f2])).2
      omega
    · by_cases ej : j = k
      · subst ej
        rw [upd_same] at f2
        rw [upd_other pb hij] at f1
        have := (h.lt i 0 b (by omega) (by omega) (by simp [ob, f1])).2
        omega
      · rw [upd_other pb ei] at f1
        rw [upd_other pb ej] at f2
        exact h.apart i j 0 0 (by omega) (by omega) (by omega) (by omega) (.inl hij) b (by simp [ob, f1]) (by simp [ob, f2])
/-- The row of joints while it is filled. -/
def rowV (m : Nat) (pb : Nat → Nat) (k : Nat) : List Value := ((List.range k).map fun i => ptrV (pb i)) ++ List.replicate (m - k) (.pointer none)
theorem rowV_len {m k : Nat} (pb : Nat → Nat) (h : k ≤ m) : (rowV m pb k).length = m := by simp [rowV]; omega
theorem rowV_set {m k : Nat} (pb : Nat → Nat) (h : k < m) (b : Nat) : (rowV m pb k).set k (ptrV b) = rowV m (upd pb k b) (k + 1) := by
  unfold rowV
  rw [List.set_append_right _ _ (by simp), List.length_map, List.length_range, Nat.sub_self, show m - k = (m - (k + 1)) + 1 by omega, List.replicate_succ, List.set_cons_zero, List.range_succ, List.map_append, List.append_assoc]
  congr 1
  · refine List.map_congr_left fun i hi => ?_
    rw [List.mem_range] at hi
    rw [upd_other pb (by omega)]
  · simp [upd_same]
theorem rowV_all (m : Nat) (pb : Nat → Nat) : rowV m pb m = ((List.range m).map pb).map ptrV := by simp [rowV, Function.comp_def]
theorem made_nils (n : Nat) : (madeCells (Value.pointer none).cells (n * 1)).toList = List.replicate n (Value.pointer none) := by
  have hm : ∀ v ∈ (madeCells (Value.pointer none).cells (n * 1)).toList, v = .pointer none := by
    intro v hv
    unfold madeCells at hv
    simp only [Array.toList_map, List.mem_map] at hv
    obtain ⟨j, _, rfl⟩ := hv
    show (#[Value.pointer none])[j % 1]! = _
    rw [Nat.mod_one]
    rfl
  rw [List.eq_replicate_of_mem hm, Array.length_toList, size_madeCells, Nat.mul_one]
theorem row_stored {w : World} {base g n c : Nat} {xs : List Value} (h : w.ownsRow base 76 1 (.slice (some ⟨g, 0, none⟩) n c) n xs) (k : Nat) (u : Value) :
    (w.setCell ⟨g, k, none⟩ u).ownsRow base 76 1 (.slice (some ⟨g, 0, none⟩) n c) n (xs.set k u) := (World.ownsRow.stored h k u).1

/-- A net of all limbs, and the row of its joints. -/
def LinkPost (w : World) (m : Nat) (ls : List Lb) (e : Ending) (w' : World) : Prop :=
  ∃ (g base : Nat) (pb : Nat → Nat) (vl vb : Nat → Value), e = .returned (.slice (some ⟨g, 0, none⟩) m m) ∧ w.heap.size ≤ g ∧ g < base ∧ base ≤ w'.heap.size ∧
    NetOk w' base m pb vl vb (fun i => incs ls i ls.length) (fun i => nbrs ls i ls.length) (fun _ => false) ∧
    OwnP w' g (.slice (some ⟨g, 0, none⟩) m m) ((List.range m).map pb) ∧ Below w.heap.size w w'
theorem incs_succ (ls : List Lb) (i k : Nat) : incs ls i (k + 1) = incs ls i k ++ if (limbAt ls k).a = (i : Int) ∨ (limbAt ls k).b = (i : Int) then [(k : Int)] else [] := rfl
theorem nbrs_succ (ls : List Lb) (i k : Nat) : nbrs ls i (k + 1) = nbrs ls i k ++ if (limbAt ls k).a = (i : Int) then [(limbAt ls k).b.toNat] else if (limbAt ls k).b = (i : Int) then [(limbAt ls k).a.toNat] else [] := rfl
theorem upd_incs {ls : List Lb} {k p q : Nat} (hk : k < ls.length) (ha : ls[k].a = p) (hb : ls[k].b = q) (hne : p ≠ q) (i : Nat) :
    upd (upd (fun i => incs ls i k) p (incs ls p k ++ [(k : Int)])) q (upd (fun i => incs ls i k) p (incs ls p k ++ [(k : Int)]) q ++ [(k : Int)]) i = incs ls i (k + 1) := by
  rw [incs_succ, limbAt_lt hk, ha, hb]
  by_cases h1 : i = q
  · subst h1
    rw [upd_same, upd_other _ (fun e => hne e.symm), if_pos (.inr rfl)]
  · rw [upd_other _ h1]
    by_cases h2 : i = p
    · subst h2
      rw [upd_same, if_pos (.inl rfl)]
    · rw [upd_other _ h2, if_neg (by omega), List.append_nil]
theorem upd_nbrs {ls : List Lb} {k p q : Nat} (hk : k < ls.length) (ha : ls[k].a = p) (hb : ls[k].b = q) (hne : p ≠ q) (i : Nat) :
    upd (upd (fun i => nbrs ls i k) p (nbrs ls p k ++ [q])) q (upd (fun i => nbrs ls i k) p (nbrs ls p k ++ [q]) q ++ [p]) i = nbrs ls i (k + 1) := by
  rw [nbrs_succ, limbAt_lt hk, ha, hb, Int.toNat_natCast, Int.toNat_natCast]
  by_cases h1 : i = q
  · subst h1
    rw [upd_same, upd_other _ (fun e => hne e.symm), if_neg (by omega), if_pos rfl]
  · rw [upd_other _ h1]
    by_cases h2 : i = p
    · subst h2
      rw [upd_same, if_pos rfl]
    · rw [upd_other _ h2, if_neg (by omega), if_neg (by omega), List.append_nil]

theorem att_step {wr W : World} {base m p q : Nat} {k : Int} {pb : Nat → Nat} {vl vb : Nat → Value} {I : Nat → List Int} {N : Nat → List Nat} {R : Nat → Bool} (h : NetOk wr base m pb vl vb I N R) (hb : Below wr.heap.size wr W) (hB : base ≤ wr.heap.size)
    (hp : p < m) (hI : (I p).length ≤ 100000) (hN : (N p).length ≤ 100000) :
    Calls Try.prog 68 #[.pointer (some ⟨pb p, 0, none⟩), .int .i64 k, .pointer (some ⟨pb q, 0, none⟩)] W (AttPost W base m pb vl vb (upd I p (I p ++ [k])) (upd N p (N p ++ [q])) R) :=
  attach_any W base m pb vl vb I N R (h.below hb) (Nat.le_trans hB hb.size) p q k hp hI hN
/-- What the region of an attach reads: the limb's own copy in block x, and the row of joints in block g. -/
abbrev Reads (w : World) (x g p q : Nat) (pb : Nat → Nat) : Prop :=
  w.cell? ⟨x, 0, none⟩ = some (.int .i64 (p : Int)) ∧ w.cell? ⟨x, 1, none⟩ = some (.int .i64 (q : Int)) ∧ w.cell? ⟨g, p, none⟩ = some (.pointer (some ⟨pb p, 0, none⟩)) ∧ w.cell? ⟨g, q, none⟩ = some (.pointer (some ⟨pb q, 0, none⟩))
theorem reads_on {w w' : World} {base m x g p q : Nat} {pb : Nat → Nat} {vl vb vl' vb' : Nat → Value} (h : Reads w x g p q pb) (hb : Below base w w') (hg : g < base) (hs : Spared w w' m pb vl vb vl' vb') (hx : Stranger m pb vl vb x) : Reads w' x g p q pb := by
  obtain ⟨h0, h1, h2, h3⟩ := h
  have e := (hs x (World.block_lt_of_cell? w _ h0) hx).1
  exact ⟨(World.cell?_of_block (a := ⟨x, 0, none⟩) e).trans h0, (World.cell?_of_block (a := ⟨x, 1, none⟩) e).trans h1, (hb.cell hg).trans h2, (hb.cell hg).trans h3⟩
theorem OwnP.under {w w' : World} {base g n c B : Nat} {bs : List Nat} (h : OwnP w base (.slice (some ⟨g, 0, none⟩) n c) bs) (hb : Below B w w') (hg : g < B) : OwnP w' base (.slice (some ⟨g, 0, none⟩) n c) bs := by
  refine ⟨h.1, ?_⟩
  rcases h.2 with ⟨e, _⟩ | ⟨g', cap, cur, e, hb', hg', r⟩
  · cases e
  · have e' := e
    simp only [Value.slice.injEq, Option.some.injEq, Addr.mk.injEq] at e'
    obtain ⟨⟨rfl, _⟩, _⟩ := e'
    exact .inr ⟨g, cap, cur, e, hb', (hb.block g hg).trans hg', r⟩
theorem elderF {w : World} {p : Addr} (hp : p.block < w.heap.size) (h : w.frozen? p = false) : ∀ o, (w.alloc o).frozen? p = false := fun o => by
  rw [World.frozen?_of_block (w := w) ((World.grownBy_alloc w o none).block p.block hp (by simp)), h]

set_option maxRecDepth 100000 in
set_option maxHeartbeats 1600000 in
theorem link_any (m : Nat) (v : Value) (ls : List Lb) (base : Nat) (w : World) (hown : OwnL w base v ls) (hf : Fits m ls) (hl : ls.length + 1 = m) (hm : m ≤ 12) :
    Calls Try.prog 56 #[bodyV (m : Int) v] w (LinkPost w m ls) := by
  obtain ⟨A, c, e⟩ := hown.slice
  subst e
  have OWN := Lib.hid hown
  clear hown
  unfold bodyV
  obtain ⟨i, hi, hz, hs, hb⟩ := info_parts info_ptr
  have BX := Lib.hid (box_facts (J := (m : Int)) OWN.out)
  have hm0 : (0 : Int) ≤ (m : Int) := by omega
  have HL := Lib.hid hl
  have HF := Lib.hid hf
  have hll : ls.length ≤ 11 := by omega
  clear hl hf
  go_enter Try.func56, Try.ntmps56
  go_wp2_with (refine wpList_make_full _ rfl _ _ 77 rfl (w.heap.size + 1) 76 i (.pointer none) 1 Try.underlying77 hi hz hs .i64 .i64 _ _ m rfl rfl rfl rfl (by rw [hb]; omega) (by simp only [maxLen]; omega) (by simp) ?_; intro w1 own1 grown1)
  have own0 : w1.ownsRow (w.heap.size + 1) 76 1 (.slice (some ⟨w.heap.size + 1, 0, none⟩) m m) m (rowV m (fun _ => 0) 0) := by
    rw [made_nils] at own1
    simp only [World.size_alloc] at own1
    simpa [rowV] using own1
  have b1 : Below (w.heap.size + 1) (w.alloc (.cells #[.int .i64 (m : Int), .slice A ls.length c] 26)) w1 := (below_of_grown grown1).mono (by simp)
  have sz1 : w.heap.size + 2 ≤ w1.heap.size := by
    have := (own1.lt (w.heap.size + 1) (by simp [Value.ownBlock])).2
    omega
  clear own1 grown1
  go_loopw [12] (fun iv wr => ∃ (k : Nat) (pb : Nat → Nat), k ≤ m ∧ iv = .int .i64 (k : Int) ∧ wr.ownsRow (w.heap.size + 1) 76 1 (.slice (some ⟨w.heap.size + 1, 0, none⟩) m m) m (rowV m pb k) ∧ Bare wr (w.heap.size + 2) k pb ∧ w.heap.size + 2 ≤ wr.heap.size ∧ Below (w.heap.size + 1) (w.alloc (.cells #[.int .i64 (m : Int), .slice A ls.length c] 26)) wr) (fun iv _ => m - (intOf iv).toNat)
  case atStart => exact ⟨0, fun _ => 0, by omega, rfl, own0, bare_nil _ _ _, sz1, b1⟩
  case round =>
    obtain ⟨k, pb, hk, rfl, hrow, hbare, hsz, hbel⟩ := hrel
    obtain ⟨x0, x1, -, bw⟩ := BX.out wr hbel
    by_cases hlt : k < m
    · have hrl := rowV_len pb hk
      have hlg : w.heap.size + 1 < wr.heap.size := by omega
      obtain ⟨xk, hxk⟩ : ∃ xk, wr.cell? ⟨w.heap.size + 1, k, none⟩ = some xk := by
        rw [World.ownsRow.cellAt hrow k (by omega)]
        exact ⟨_, List.getElem?_eq_getElem (by omega)⟩
      have y := (elder hxk).1
      have f := elderF (p := ⟨w.heap.size + 1, k, none⟩) hlg (World.ownsRow.frozenAt hrow k)
      have h1 := row_stored hrow k (ptrV wr.heap.size)
      rw [rowV_set pb hlt] at h1
      have H1 := Lib.hid (h1.alloc (.cells #[.slice none 0 0, .slice none 0 0, .bool false] 89))
      have h2 := bare_more (NetOk.setBelow hbare (a := ⟨w.heap.size + 1, k, none⟩) (by show w.heap.size + 1 < w.heap.size + 2; omega) (ptrV wr.heap.size)) (by simp; omega)
      rw [World.size_setCell] at h2
      have H2 := Lib.hid h2
      have HB := Lib.hid hbel
      have hk0 : (0 : Int) ≤ (k : Int) := by omega
      have hk1 : (k : Int) < (m : Int) := by omega
      clear hrow hbare hbel bw hrl own0 b1 h1 h2
      go_wp2
      exact ⟨⟨k + 1, _, by omega, by go_num, H1.out, H2.out, by simp; omega, (HB.out.setCell (p := ⟨w.heap.size + 1, k, none⟩) (Nat.le_refl _) _).alloc (by simp; omega) _⟩, by simp [intOf]; omega⟩
    · obtain rfl : m = k := by omega
      rw [rowV_all] at hrow
      have hrow' : OwnP wr (w.heap.size + 1) (.slice (some ⟨w.heap.size + 1, 0, none⟩) m m) ((List.range m).map pb) := by
        unfold OwnP
        rw [List.length_map, List.length_range]
        exact hrow
      have ROW := Lib.hid hrow'
      have BARE := Lib.hid hbare
      have HB := Lib.hid hbel
      clear hrow hrow' hbare hbel bw own0 b1
      go_wp2_with fail
      clear x0 x1
      go_loopw [24] (fun iv wr => ∃ (k : Nat) (vl vb : Nat → Value), k ≤ ls.length ∧ iv = .int .i64 (k : Int) ∧ Hid (NetOk wr (w.heap.size + 2) m pb vl vb (fun i => incs ls i k) (fun i => nbrs ls i k) (fun _ => false)) ∧ OwnP wr (w.heap.size + 1) (.slice (some ⟨w.heap.size + 1, 0, none⟩) m m) ((List.range m).map pb) ∧ w.heap.size + 2 ≤ wr.heap.size ∧ Below (w.heap.size + 1) (w.alloc (.cells #[.int .i64 (m : Int), .slice A ls.length c] 26)) wr) (fun iv _ => ls.length - (intOf iv).toNat)
      case atStart => exact ⟨0, _, _, by omega, rfl, BARE.out, ROW.out, hsz, HB.out⟩
      case round =>
        clear ROW BARE HB hsz
        obtain ⟨k, vl, vb, hk, rfl, hnet, hrow, hsz, hbel⟩ := hrel
        obtain ⟨x0, x1, ol, bw⟩ := BX.out wr hbel
        by_cases hlt : k < ls.length
        · obtain ⟨g, c', e1, _, lg, rg, _⟩ := ol.spot hlt
          simp only [Value.slice.injEq] at e1
          obtain ⟨rfl, hloop, rfl⟩ := e1
          clear hloop
          have r0 : wr.cell? ⟨g, k * 3, none⟩ = some (.int .i64 ls[k].a) := rg 0 _ rfl
          have r1 : wr.cell? ⟨g, k * 3 + 1, none⟩ = some (.int .i64 ls[k].b) := rg 1 _ rfl
          have r2 : wr.cell? ⟨g, k * 3 + 2, none⟩ = some (.int .i64 ls[k].n) := rg 2 _ rfl
          obtain ⟨⟨ha0, ha1⟩, ⟨hb0, hb1⟩, hne, _⟩ := HF.out ls[k] (List.getElem_mem hlt)
          obtain ⟨p, hp⟩ := Int.eq_ofNat_of_zero_le ha0
          obtain ⟨q, hq⟩ := Int.eq_ofNat_of_zero_le hb0
          have hpm : p < m := by omega
          have hqm : q < m := by omega
          have hpq : p ≠ q := fun x => hne (by rw [hp, hq, x])
          have UI := Lib.hid (upd_incs hlt hp hq hpq)
          have UN := Lib.hid (upd_nbrs hlt hp hq hpq)
          rw [hp] at r0
          rw [hq] at r1
          obtain ⟨_, _, ep, _, lp, zp⟩ := hrow.spot (k := p) (by simpa using hpm)
          simp only [Value.slice.injEq, Option.some.injEq, Addr.mk.injEq] at ep
          obtain ⟨⟨rfl, _⟩, em, ec⟩ := ep
          clear em ec
          obtain ⟨_, _, eq, _, _, zq⟩ := hrow.spot (k := q) (by simpa using hqm)
          simp only [Value.slice.injEq, Option.some.injEq, Addr.mk.injEq] at eq
          obtain ⟨⟨rfl, _⟩, em, ec⟩ := eq
          clear em ec
          simp only [List.getElem_map, List.getElem_range] at zp zq
          have yp := (elder zp).1
          have yq := (elder zq).1
          have hp0 : (0 : Int) ≤ (p : Int) := by omega
          have hq0 : (0 : Int) ≤ (q : Int) := by omega
          have hp1 : (p : Int) < (m : Int) := by omega
          have hq1 : (q : Int) < (m : Int) := by omega
          have hk0 : (0 : Int) ≤ (k : Int) := by omega
          have hk1 : (k : Int) < (ls.length : Int) := by omega
          have HROW := Lib.hid hrow
          have HB := Lib.hid hbel
          have HPQ := Lib.hid hpq
          clear hrow hbel ol rg bw ha0 ha1 hb0 hb1 hne hp hq hpq
          generalize ls[k].n = z at r2
          go_wp2
          have hW : Reads (wr.alloc (.cells #[.int .i64 (p : Int), .int .i64 (q : Int), .int .i64 z] 57)) wr.heap.size (w.heap.size + 1) p q pb := ⟨by simp [go_sem], by simp [go_sem], yp _, yq _⟩
          have HR := Lib.hid hW
          clear hW
          go_region_held3 (fun w' => w'.cell? ⟨wr.heap.size, 0, none⟩ = some (.int .i64 (p : Int)) ∧ w'.cell? ⟨wr.heap.size, 1, none⟩ = some (.int .i64 (q : Int)) ∧ w'.cell? ⟨w.heap.size + 1, p, none⟩ = some (.pointer (some ⟨pb p, 0, none⟩)) ∧ w'.cell? ⟨w.heap.size + 1, q, none⟩ = some (.pointer (some ⟨pb q, 0, none⟩)))
            (first | exact HR.out | exact K3.out) (first | (go_at_call 68; refine (att_step hnet.out ?_ hsz hpm ?_ ?_).mono ?_; (exact ((Below.refl _ _).alloc (Nat.le_refl _) _).drew); (exact Nat.le_trans (incs_len _ _ _) (by omega)); (exact Nat.le_trans (nbrs_len _ _ _) (by omega)); rintro e w3 ⟨vl3, vb3, rfl, net3, b3, sp3⟩; have K3 := Lib.hid (reads_on (by exact HR.out) b3 (by omega) sp3 (hnet.out.stranger (.inl (Nat.le_refl _))))))
          have hsz3 : w.heap.size + 2 ≤ w3.heap.size := by
            have := b3.size
            simp only [World.size_drew, World.size_alloc] at this
            omega
          have NET3 := Lib.hid net3
          have STR := Lib.hid (sp3 wr.heap.size (by simp) (hnet.out.stranger (.inl (Nat.le_refl _)))).2
          have ROW3 := Lib.hid (HROW.out.under ((((Below.refl _ wr).alloc hsz _).drew).trans b3) (by omega))
          have HB3 := Lib.hid (((HB.out.alloc (by omega) _).drew).trans (b3.mono (by omega)))
          clear net3 b3 sp3 yp yq zp zq r0 r1 r2
          go_wp2
          go_region_held3 (fun w' => w'.cell? ⟨wr.heap.size, 0, none⟩ = some (.int .i64 (p : Int)) ∧ w'.cell? ⟨wr.heap.size, 1, none⟩ = some (.int .i64 (q : Int)) ∧ w'.cell? ⟨w.heap.size + 1, p, none⟩ = some (.pointer (some ⟨pb p, 0, none⟩)) ∧ w'.cell? ⟨w.heap.size + 1, q, none⟩ = some (.pointer (some ⟨pb q, 0, none⟩)))
            (first | exact K3.out | exact K4.out) (first | (go_at_call 68; refine (att_step NET3.out ?_ hsz3 hqm ?_ ?_).mono ?_; (exact (Below.refl _ _).drew); (rw [upd_other _ (fun e => HPQ.out e.symm)]; exact Nat.le_trans (incs_len _ _ _) (by omega)); (rw [upd_other _ (fun e => HPQ.out e.symm)]; exact Nat.le_trans (nbrs_len _ _ _) (by omega)); rintro e w4 ⟨vl4, vb4, rfl, net4, b4, sp4⟩; have K4 := Lib.hid (reads_on (by exact K3.out) b4 (by omega) sp4 STR.out)))
          have hsz4 : w.heap.size + 2 ≤ w4.heap.size := by
            have := b4.size
            simp only [World.size_drew] at this
            omega
          have NET4 := Lib.hid (net4.congr (fun i _ => UI.out i) (fun i _ => UN.out i))
          have HB4 := Lib.hid (HB3.out.drew.trans (b4.mono (by omega)))
          have ROW4 := Lib.hid (ROW3.out.under ((Below.refl _ w3).drew.trans b4) (by omega))
          clear net4 b4 sp4
          go_wp2
          exact ⟨⟨k + 1, vl4, vb4, by omega, by go_num, NET4.out, ROW4.out, hsz4, HB4.out⟩, by simp [intOf]; omega⟩
        · obtain rfl : k = ls.length := by omega
          go_wp2
          go_ret
          exact ⟨w.heap.size + 1, w.heap.size + 2, pb, vl, vb, rfl, by omega, by omega, hsz, hnet.out, hrow, bw⟩
end Go.Proofs.Ytblbmppbbhibeaa
