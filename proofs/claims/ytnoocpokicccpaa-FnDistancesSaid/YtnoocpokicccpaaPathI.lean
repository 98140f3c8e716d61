/- The contract of impl.PathBetween: it answers as the model does. Condition: the limbs lie in a row of their own. -/
import Derived.Test.YtnoocpokicccpaaDistI
import Derived.Test.YtnoocpokicccpaaPathS
import Derived.Deep.AppendLies
namespace Go.Proofs.Ytnoocpokicccpaa
open Go.RowKit

theorem way_drop {ls : List Lb} {x z k : Nat} {es : List Nat} (h : isWay ls x es z) (hk : k ≤ es.length) : isWay ls (vert ls x es k) (es.drop k) z := by
  induction es generalizing x k with
  | nil =>
    obtain rfl : k = 0 := by simpa using hk
    exact h
  | cons t es ih =>
    cases k with
    | zero => exact h
    | succ k => exact ih h.2.2 (by simpa using hk)
theorem noTurn_drop {es : List Nat} (h : noTurn es) (k : Nat) : noTurn (es.drop k) := noTurn_right (xs := es.take k) (by rw [List.take_append_drop]; exact h)
/-- The joint at hand behind k steps on a way; -1 behind its last joint. -/
def atOf (ls : List Lb) (x : Nat) (es : List Nat) (k : Nat) : Int := if k ≤ es.length then (vert ls x es k : Nat) else -1
theorem at_next {ls : List Lb} {x z k : Nat} {es : List Nat} (h : isWay ls x es z) (hk : k ≤ es.length) : nextOn ls (vert ls x es k) (es.drop k) = atOf ls x es (k + 1) := by
  unfold atOf
  by_cases e : k < es.length
  · rw [if_pos (by omega), List.drop_eq_getElem_cons e]
    show ((other (limbAt ls es[k]) (vert ls x es k) : Nat) : Int) = _
    rw [(way_piece h e).2.2]
  · rw [if_neg (by omega), List.drop_of_length_le (by omega)]
    rfl
theorem verts_take {ls : List Lb} {x k : Nat} {es : List Nat} (hk : k ≤ es.length) : (verts ls x es).take (k + 1) = (verts ls x es).take k ++ [((vert ls x es k : Nat) : Int)] := by
  have h : k < (verts ls x es).length := by rw [verts_len]; omega
  rw [List.take_succ_eq_append_getElem h, verts_at h]
theorem vert_lt {m : Nat} {ls : List Lb} (hf : Fits m ls) {x z k : Nat} {es : List Nat} (h : isWay ls x es z) (hx : x < m) (hk : k ≤ es.length) : vert ls x es k < m := by
  induction es generalizing x k with
  | nil =>
    obtain rfl : k = 0 := by simpa using hk
    exact hx
  | cons t es ih =>
    cases k with
    | zero => exact hx
    | succ k => exact ih h.2.2 (other_spec hf h.1 h.2.1).2.1 (by simpa using hk)
def lenV : Value → Nat
  | .slice _ n _ => n
  | _ => 0
theorem ownI_lenV {w : World} {base : Nat} {v : Value} {zs : List Int} (h : OwnI w base v zs) : lenV v = zs.length := by
  obtain ⟨_, _, rfl⟩ := h.slice
  rfl

set_option maxRecDepth 100000 in
set_option maxHeartbeats 1600000 in
theorem implPath_no (J i j : Int) (v : Value) (ls : List Lb) (base : Nat) (w : World) (hown : OwnL w base v ls) (hl : ls.length ≤ 2000000) (h : ¬ (bodyOk J ls = true ∧ (0 ≤ i ∧ i < J) ∧ (0 ≤ j ∧ j < J))) :
    Calls Try.prog 14 #[bodyV J v, .int .i64 i, .int .i64 j] w (IntsPost w []) := by
  have CS := Lib.hid (fun W h => implOk J v ls base W h hl)
  obtain ⟨A, c, e⟩ := hown.slice
  subst e
  have C2 := Lib.hid (fun j W => hasJoint_any J j A ls.length c W)
  have OWN := Lib.hid hown
  have BX := Lib.hid (box_facts (J := J) hown)
  clear hown
  unfold bodyV at CS ⊢
  cases hok : bodyOk J ls with
  | false =>
    rw [hok] at CS
    clear h hok
    go_enter Try.func14, Try.ntmps14
    go_wp2_with fail
    refine (CS.out _ (OWN.out.alloc _)).mono ?_
    rintro e w1 ⟨rfl, b1⟩
    simp only [World.size_alloc] at b1
    obtain ⟨x0, x1, -, bw⟩ := BX.out w1 b1
    clear b1
    go_wp2
    go_ret
    exact ⟨_, rfl, ⟨rfl, .inl ⟨rfl, rfl⟩⟩, bw⟩
  | true =>
    rw [hok] at CS
    by_cases hi : 0 ≤ i ∧ i < J
    · have hj : ¬ (0 ≤ j ∧ j < J) := fun x => h ⟨hok, hi, x⟩
      have hin := hasB_yes hi
      have hin2 := hasB_no hj
      clear h hok hj hi
      go_enter Try.func14, Try.ntmps14
      go_wp2_with fail
      refine (CS.out _ (OWN.out.alloc _)).mono ?_
      rintro e w1 ⟨rfl, b1⟩
      simp only [World.size_alloc] at b1
      obtain ⟨x0, x1, -, bw⟩ := BX.out w1 b1
      have y0 := (elder x0).1
      have y1 := (elder x1).1
      clear b1
      go_wp2_with (go_at_call 35; refine (C2.out _ _).mono ?_; rintro e w' ⟨rfl, rfl⟩)
      go_ret
      exact ⟨_, rfl, ⟨rfl, .inl ⟨rfl, rfl⟩⟩, (bw.alloc bw.size _).alloc (by have := bw.size; simp only [World.size_alloc]; omega) _⟩
    · have hin := hasB_no hi
      clear h hok hi
      go_enter Try.func14, Try.ntmps14
      go_wp2_with fail
      refine (CS.out _ (OWN.out.alloc _)).mono ?_
      rintro e w1 ⟨rfl, b1⟩
      simp only [World.size_alloc] at b1
      obtain ⟨x0, x1, -, bw⟩ := BX.out w1 b1
      clear b1
      go_wp2_with (go_at_call 35; refine (C2.out _ _).mono ?_; rintro e w' ⟨rfl, rfl⟩)
      go_ret
      exact ⟨_, rfl, ⟨rfl, .inl ⟨rfl, rfl⟩⟩, bw.alloc bw.size _⟩

set_option maxRecDepth 100000 in
set_option maxHeartbeats 1600000 in
theorem implPath_yes (m p q : Nat) (v : Value) (ls : List Lb) (base : Nat) (w : World) (hown : OwnL w base v ls) (hok : bodyOk m ls = true) (hp : p < m) (hq : q < m) {es : List Nat} (hw : isWay ls p es q) (hn : noTurn es) :
    Calls Try.prog 14 #[bodyV (m : Int) v, .int .i64 (p : Int), .int .i64 (q : Int)] w (IntsPost w (verts ls p es)) := by
  obtain ⟨hf, hll, hm, hr⟩ := ok_parts' hok
  have hmf : ∀ (fn : Fn) (first cap : Array Value) (w : World), (Instr.makeFunc fn first cap).run Try.prog w = .ok (.func fn first cap) w := fun _ _ _ _ => rfl
  have CS := Lib.hid (fun W h => hok ▸ implOk m v ls base W h (by omega))
  have CF := Lib.hid (fun nb rb bl b0 zs W => from_any m q nb rb bl b0 37 v ls (fun f _ => f) (enters_of Try.func37 (by kernel_rfl) rfl) (next_stores nb rb m b0) hf hll hr hm zs W)
  have hel : es.length ≤ 11 := by
    obtain ⟨hnd, hlt⟩ := way_nodup hf hll hr hw hn
    have := way_count hnd hlt
    omega
  have NX := Lib.hid (fun zs zs' h k (hk : k ≤ es.length) => (roamed_next (zs := zs) (zs' := zs') hf h (way_drop hw hk) (noTurn_drop hn k)).trans (at_next hw hk))
  have VL := Lib.hid (fun k (hk : k ≤ es.length) => vert_lt hf hw hp hk)
  have LT := Lib.hid hown.lt
  obtain ⟨A, c, e⟩ := hown.slice
  subst e
  have C2 := Lib.hid (fun j W => hasJoint_any m j A ls.length c W)
  have OWN := Lib.hid hown
  have BX := Lib.hid (box_facts (J := (m : Int)) hown)
  unfold bodyV at CS CF ⊢
  obtain ⟨i0, hi0, hz0, hz1, hz2⟩ := info_parts info_int
  have hpos : 0 < 1 := by omega
  have hin := hasB_yes (J := (m : Int)) (j := (p : Int)) ⟨by omega, by omega⟩
  have hin2 := hasB_yes (J := (m : Int)) (j := (q : Int)) ⟨by omega, by omega⟩
  have hm0 : (0 : Int) ≤ (m : Int) := by omega
  clear hok hown hf hr hw hn
  go_enter Try.func14, Try.ntmps14
  go_wp2_with fail
  refine (CS.out _ (OWN.out.alloc _)).mono ?_
  rintro e w1 ⟨rfl, b1⟩
  simp only [World.size_alloc] at b1
  have X1 := Lib.hid (BX.out w1 b1)
  obtain ⟨x0, x1, -, -⟩ := X1.out
  obtain ⟨y0, u0, -⟩ := elder x0
  obtain ⟨y1, u1, -⟩ := elder x1
  have hb1 := b1.size
  simp only [World.size_alloc] at hb1
  clear b1
  go_wp2_with (first | (go_at_call 35; refine (C2.out _ _).mono ?_; rintro e w' ⟨rfl, rfl⟩) | (refine wpList_make_full _ rfl _ _ 30 rfl (w1.heap.size + 2) 3 i0 (.int .i64 0) 1 Try.underlying30 hi0 hz0 hz1 .i64 .i64 _ _ m rfl rfl rfl rfl (by rw [hz2]; omega) (by simp only [maxLen]; omega) (by simp) ?_; intro w2 own2 grown2; have z0 := (elder (grown2.cell (u0 _ _) (by simp))).1; have z1 := (elder (grown2.cell (u1 _ _) (by simp))).1))
  rw [made_zeros] at own2
  simp only [World.size_alloc] at own2
  have sz2 := grown2.size
  simp only [World.size_alloc] at sz2
  have O2 := Lib.hid (show OwnI w2 (w1.heap.size + 2) (.slice (some ⟨w1.heap.size + 2, 0, none⟩) m m) (List.replicate m 0) by unfold OwnI; rw [List.length_replicate]; exact own2)
  have hlt2 : w1.heap.size + 2 < w2.heap.size := (O2.out.lt _ rfl).2
  have a1 := ((World.grownBy_alloc w1 (.cells #[.int .i64 (m : Int), .slice A ls.length c] 26) none).trans (World.grownBy_alloc _ (.cells #[.int .i64 (m : Int), .slice A ls.length c] 26) none)).trans grown2
  have B2 := Lib.hid (((X1.out.2.2.2.alloc X1.out.2.2.2.size (.cells #[.int .i64 (m : Int), .slice A ls.length c] 26)).alloc (by simp only [World.size_alloc]; omega) (.cells #[.int .i64 (m : Int), .slice A ls.length c] 26)).trans ((below_of_grown grown2).mono (by simp only [World.size_alloc]; omega)))
  have L2 := Lib.hid (X1.out.2.2.1.kept a1 (by cases (Value.slice A ls.length c).ownBlock <;> simp))
  clear own2 grown2 a1 x0 x1 y0 y1 z0 z1 u0 u1
  refine (CF.out w2.heap.size (w1.heap.size + 2) base (w1.heap.size + 2) (List.replicate m 0) _ (L2.out.alloc _) (sep_of (fun k hk e => by have := (LT.out k hk).2; have := Option.some.inj e; omega)) (by omega) (by simp [go_sem]) (O2.out.alloc _) (by simp) hq).mono ?_
  rintro e w3 ⟨rfl, zs', o3, hz3, hro, g3⟩
  have c3 := g3.cell (show (w2.alloc (.cells #[.slice (some ⟨w1.heap.size + 2, 0, none⟩) m m] 30)).cell? ⟨w2.heap.size, 0, none⟩ = some (.slice (some ⟨w1.heap.size + 2, 0, none⟩) m m) by simp [go_sem]) (by simp only [ne_eq, Option.some.injEq]; omega)
  have NXT := Lib.hid (fun k hk => NX.out _ _ hro k hk)
  have O3 := Lib.hid (o3.mono (b := w.heap.size) (by omega))
  have C3 := Lib.hid c3
  have sz3 := g3.size
  simp only [World.size_alloc] at sz3
  have B3 := Lib.hid ((B2.out.alloc B2.out.size (.cells #[.slice (some ⟨w1.heap.size + 2, 0, none⟩) m m] 30)).grown g3 (by simp only [World.size_alloc]; omega) (fun k hk => by have := Option.some.inj hk; omega))
  have HZ := Lib.hid hz3
  clear o3 hro g3 c3 hz3
  go_wp2_with fail
  go_loopw [8, 9] (fun ov av wr => ∃ (k : Nat) (vo : Value), vo = ov ∧ k ≤ es.length + 1 ∧ av = .int .i64 (atOf ls p es k) ∧ OwnI wr w3.heap.size vo ((verts ls p es).take k) ∧ Below w3.heap.size w3 wr) (fun ov _ _ => es.length + 1 - lenV ov)
  case atStart => exact ⟨0, _, rfl, by omega, rfl, ⟨rfl, .inl ⟨rfl, rfl⟩⟩, Below.refl _ _⟩
  case round =>
    obtain ⟨k, vo, rfl, hk, rfl, hown, hbel⟩ := hrel
    have hlen := ownI_lenV hown
    rw [List.length_take, verts_len, Nat.min_eq_left hk] at hlen
    have hkl : ((verts ls p es).take k).length = k := by rw [List.length_take, verts_len, Nat.min_eq_left hk]
    by_cases hlt : k ≤ es.length
    · have HA := Lib.hid (show atOf ls p es k = ((vert ls p es k : Nat) : Int) from if_pos hlt)
      have hvl := VL.out k hlt
      have HN := Lib.hid (NXT.out k hlt)
      have HT := Lib.hid (verts_take (ls := ls) (x := p) hlt)
      rw [HA.out]
      generalize vert ls p es k = a at HA hvl HN HT
      obtain ⟨_, _, e2, _, l2, r2, _⟩ := O3.out.spot (k := a) (by rw [HZ.out]; exact hvl)
      simp only [Value.slice.injEq, Option.some.injEq, Addr.mk.injEq] at e2
      obtain ⟨⟨rfl, _⟩, em, ec⟩ := e2
      clear em ec
      have HN2 := Lib.hid (show zs'[a]'(by rw [HZ.out]; exact hvl) = atOf ls p es (k + 1) by rw [← HN.out, List.getD_eq_getElem?_getD, List.getElem?_eq_getElem (by rw [HZ.out]; exact hvl)]; rfl)
      rw [HN2.out] at r2
      generalize (verts ls p es).take k = ts at hown hkl HT
      have hmax : ts.length + 1 ≤ maxLen := by rw [hkl]; simp only [maxLen]; omega
      have hbd : (ts.length + 1) * 8 ≤ 140737488355328 := by rw [hkl]; omega
      have HK := Lib.hid hkl
      have HLV := Lib.hid hlen
      have hsz := hbel.size
      have HO := Lib.hid hown
      have HB := Lib.hid hbel
      have ha0 : (0 : Int) ≤ (a : Int) := by omega
      have ha1 : (a : Int) < (m : Int) := by omega
      have hane : ((a : Int) != -1) = true := by
        simp only [bne_iff_ne, ne_eq]
        omega
      clear hbel hkl hlen
      go_wp2_with (at_builtin; refine wpList_append_lies _ rfl (.tmp 39) (.tmp 41) 30 rfl w3.heap.size 3 i0 (.int .i64 0) 1 8 Try.underlying30 hi0 hz0 hz1 hz2 rfl hpos vo _ _ rfl (hown.alloc _) ⟨wr.heap.size, 0, none⟩ 1 1 [.int .i64 (a : Int)] rfl rfl (cell_one_new _ _ _) ?_ hpos hmax hbd ?_ (wr.heap.size + 1) ?_ ?_; (simp [Value.oneCell']); (simp; omega); (simp); intro gg cap w4 hown1 hgrow hat hlt'; have b4 := ints_snoc_below HB.out hsz HO.out hgrow; have c4 := (b4.cell (p := ⟨w2.heap.size, 0, none⟩) (by show w2.heap.size < w3.heap.size; omega)).trans C3.out; have r4 := (b4.cell (p := ⟨w1.heap.size + 2, a, none⟩) l2).trans r2)
      exact ⟨⟨k + 1, _, rfl, by omega, rfl, by rw [HT.out]; exact ownI_snoc hown1, b4⟩, by rw [HLV.out]; show es.length + 1 - (ts.length + 1) < _; rw [HK.out]; omega⟩
    · obtain rfl : k = es.length + 1 := by omega
      have HA := Lib.hid (show atOf ls p es (es.length + 1) = -1 from if_neg (by omega))
      rw [HA.out]
      rw [List.take_of_length_le (by rw [verts_len]; omega)] at hown
      have HO := Lib.hid (hown.mono (b := w.heap.size) (by omega))
      have HB := Lib.hid (B3.out.trans (hbel.mono B3.out.size))
      clear hown hbel hkl
      go_wp2
      go_ret
      exact ⟨_, rfl, HO.out, HB.out⟩

theorem implPath (J i j : Int) (v : Value) (ls : List Lb) (base : Nat) (w : World) (hown : OwnL w base v ls) (hl : ls.length ≤ 2000000) (zs : List Int) (h : PathIs J i j ls zs) :
    Calls Try.prog 14 #[bodyV J v, .int .i64 i, .int .i64 j] w (IntsPost w zs) := by
  rcases h with ⟨h, rfl⟩ | ⟨-, m, p, q, es, rfl, rfl, rfl, hok, hi, hj, hw, hn, rfl⟩
  · exact implPath_no J i j v ls base w hown hl (joints_not h)
  · exact implPath_yes m p q v ls base w hown hok hi hj hw hn
end Go.Proofs.Ytnoocpokicccpaa
