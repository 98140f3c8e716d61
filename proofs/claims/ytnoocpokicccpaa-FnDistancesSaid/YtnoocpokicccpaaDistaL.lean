/- The law FnDistances, walked over the contracts of the program's functions. No condition. -/
import Derived.Test.YtnoocpokicccpaaPathI
import Derived.Test.YtnoocpokicccpaaSpanI
import Derived.Test.YtnoocpokicccpaaSameI
import Derived.Test.YtnoocpokicccpaaBdyW
import Derived.Test.YtnoocpokicccpaaByteAt
namespace Go.Proofs.Ytnoocpokicccpaa
open Go.RowKit

/-- What the law's call keeps while it goes on: its body's variable, the body's limbs, all that is elder. -/
def KeepD (w : World) (B m : Nat) (v : Value) (ls : List Lb) (W : World) : Prop := BoxAt W B m v ∧ OwnL W w.heap.size v ls ∧ Below w.heap.size w W
section
variable {w W W' : World} {B m : Nat} {v : Value} {ls : List Lb}
theorem KeepD.below (h : KeepD w B m v ls W) (hb : Below W.heap.size W W') : KeepD w B m v ls W' := ⟨h.1.below hb, h.2.1.below hb, h.2.2.trans (hb.mono h.2.2.size)⟩
/-- .. and the way, and one of the distances. -/
structure KeepE (w : World) (B m : Nat) (v : Value) (ls : List Lb) (g q : Nat) (D : Int) (bp : Nat) (vp : Value) (zs : List Int) (W : World) : Prop where
  k : KeepD w B m v ls W
  l : W.cell? ⟨g, q, none⟩ = some (.int .i64 D)
  p : OwnI W bp vp zs
theorem KeepE.below {g q bp : Nat} {D : Int} {vp : Value} {zs : List Int} (h : KeepE w B m v ls g q D bp vp zs W) (hb : Below W.heap.size W W') : KeepE w B m v ls g q D bp vp zs W' := ⟨h.k.below hb, cell_below h.l hb, h.p.below hb⟩
theorem KeepE.cells {g q bp : Nat} {D : Int} {vp : Value} {zs : List Int} (h : KeepE w B m v ls g q D bp vp zs W) : W.cell? ⟨B, 0, none⟩ = some (.int .i64 (m : Int)) ∧ W.cell? ⟨B, 1, none⟩ = some v ∧ W.cell? ⟨g, q, none⟩ = some (.int .i64 D) := ⟨h.k.1.1, h.k.1.2, h.l⟩
theorem KeepD.drew (h : KeepD w B m v ls W) : KeepD w B m v ls W.drew := h.below (Below.refl _ _).drew
end

theorem vert_first (ls : List Lb) (x : Nat) (es : List Nat) : vert ls x es 0 = x := by cases es <;> rfl
theorem vert_last {ls : List Lb} {x z : Nat} {es : List Nat} (h : isWay ls x es z) : vert ls x es es.length = z := by
  have := way_drop h (Nat.le_refl _)
  rw [List.drop_length] at this
  exact this
theorem dist_limb {m : Nat} {ls : List Lb} (hf : Fits m ls) (hl : ls.length + 1 = m) (hr : (joinRun m ls (apart m)).isSome = true) {t x y : Nat} (ht : t < ls.length) (hx : touches (limbAt ls t) x) (hy : other (limbAt ls t) x = y) : dist m ls x y = (limbAt ls t).n := by
  rw [← dist_way hf hl hr (es := [t]) ⟨ht, hx, hy⟩ trivial]
  show (limbAt ls t).n + 0 = _
  omega
theorem sameD_self (m : Nat) (ls : List Lb) : sameD m ls ls = true := sameD_iff.2 fun _ _ _ _ => rfl

set_option maxRecDepth 100000 in
set_option maxHeartbeats 3200000 in
theorem FnDistances_walk (a : Option Addr) (n cap : Nat) (z : List Int) (w : World) (hr : IsRow .u8 w a n cap z) :
    Calls Try.prog 3 #[.slice a n cap] w fun e w' => e = .returned (.bool true) ∧ Below w.heap.size w w' := by
  have hn := row_len hr
  by_cases hb : 1048576 < n
  · have BG := Lib.hid (fun W => big_yes a n cap W hb hn)
    clear hr
    go_enter Try.func3, Try.ntmps3
    go_wp2_with (go_at_call 10; refine (BG.out _).mono ?_; rintro e w' ⟨rfl, rfl⟩)
    go_ret
    exact ⟨rfl, Below.refl _ _⟩
  · have BG := Lib.hid (fun W => big_no a n cap W (by omega))
    have DB := Lib.hid (drawBody_any a n cap z w hr (by omega))
    have hat0 : ∀ W, Below w.heap.size w W → Calls Try.prog 12 #[.slice a n cap, .int .i64 0] W fun e w'' => ∃ x : Int, e = .returned (.int .i64 x) ∧ (0 ≤ x ∧ x < 256) ∧ w'' = W := fun W h => at_any a n cap z w W hr h 0 (by omega) (by omega)
    have AT0 := Lib.hid hat0
    have hat1 : ∀ W, Below w.heap.size w W → Calls Try.prog 12 #[.slice a n cap, .int .i64 1] W fun e w'' => ∃ x : Int, e = .returned (.int .i64 x) ∧ (0 ≤ x ∧ x < 256) ∧ w'' = W := fun W h => at_any a n cap z w W hr h 1 (by omega) (by omega)
    have AT1 := Lib.hid hat1
    have hat2 : ∀ W, Below w.heap.size w W → Calls Try.prog 12 #[.slice a n cap, .int .i64 2] W fun e w'' => ∃ x : Int, e = .returned (.int .i64 x) ∧ (0 ≤ x ∧ x < 256) ∧ w'' = W := fun W h => at_any a n cap z w W hr h 2 (by omega) (by omega)
    have AT2 := Lib.hid hat2
    clear hat0 hat1 hat2
    clear hr hb
    go_enter Try.func3, Try.ntmps3
    go_wp2_with (go_at_call 10; refine (BG.out _).mono ?_; rintro e w' ⟨rfl, rfl⟩)
    refine DB.out.mono ?_
    rintro e w1 ⟨J, v, ls, rfl, o1, hok, b1⟩
    obtain ⟨m, rfl⟩ := Int.eq_ofNat_of_zero_le (show 0 ≤ J by have := ok_len hok; omega)
    obtain ⟨A, c, rfl⟩ := o1.slice
    obtain ⟨hf, hlm, hm12, hrun⟩ := ok_parts' hok
    have hm1 : 1 ≤ m := by have := ok_len hok; omega
    have OK := Lib.hid hok
    have HF := Lib.hid (And.intro hf (And.intro hlm hrun))
    have hll : ls.length ≤ 11 := by omega
    have K1 := Lib.hid (show KeepD w w1.heap.size m (.slice A ls.length c) ls (w1.alloc (.cells #[.int .i64 (m : Int), .slice A ls.length c] 26)) from ⟨boxAt_new w1 (m : Int) (.slice A ls.length c), o1.alloc _, b1.alloc b1.size _⟩)
    have CD := Lib.hid (fun (i j : Nat) (hi : i < m) (hj : j < m) W h => implDist_yes m i j (.slice A ls.length c) ls w.heap.size W h hok hi hj)
    have CF := Lib.hid (fun (i : Nat) (hi : i < m) W h => implDists_yes m i (.slice A ls.length c) ls w.heap.size W h hok hi)
    have CP := Lib.hid (fun (i j : Nat) (hi : i < m) (hj : j < m) es hw hn W h => implPath_yes m i j (.slice A ls.length c) ls w.heap.size W h hok hi hj (es := es) hw hn)
    have CS := Lib.hid (fun W h => implSpan m (.slice A ls.length c) ls w.heap.size W h (by omega))
    have CC := Lib.hid (fun W h => implCenter m (.slice A ls.length c) ls w.heap.size W h (by omega))
    have CE := Lib.hid (fun W h => sameD_self m ls ▸ implSame_yes m (.slice A ls.length c) (.slice A ls.length c) ls ls w.heap.size w.heap.size W h h hok hok)
    have hmp : (0 : Int) < (m : Int) := by omega
    have hm0 : ¬ m = 0 := by omega
    have hmb : (m == 0) = false := by simpa using hm0
    clear o1 hok hf hlm hrun b1
    unfold bodyV at CD CF CP CS CC CE ⊢
    have at0 := Lib.hid (AT0.out _ K1.out.drew.2.2)
    have x0 := K1.out.1.1
    go_wp2_with fail
    go_region_held3 (fun w' => w'.cell? ⟨w1.heap.size, 0, none⟩ = some (.int .i64 (m : Int)))
      (first | exact x0) (first | (go_at_call 12; (with_reducible refine at0.out.mono ?_); rintro e w5 ⟨x, rfl, ⟨hx0, hx1⟩, rfl⟩))
    have hy0 : 0 ≤ x.tmod (m : Int) := Int.tmod_nonneg _ hx0
    have hy1 : x.tmod (m : Int) < (m : Int) := Int.tmod_lt_of_pos _ hmp
    generalize x.tmod (m : Int) = y at hy0 hy1 ⊢
    obtain ⟨p, rfl⟩ := Int.eq_ofNat_of_zero_le hy0
    have K2 := Lib.hid K1.out.drew
    have at1 := Lib.hid (AT1.out _ K2.out.drew.2.2)
    clear x0 hx0 hx1 hy0 at0
    have x0 := K2.out.1.1
    go_wp2_with fail
    go_region_held3 (fun w' => w'.cell? ⟨w1.heap.size, 0, none⟩ = some (.int .i64 (m : Int)))
      (first | exact x0) (first | (go_at_call 12; (with_reducible refine at1.out.mono ?_); rintro e w5 ⟨x, rfl, ⟨hx0, hx1⟩, rfl⟩))
    have hy0 : 0 ≤ x.tmod (m : Int) := Int.tmod_nonneg _ hx0
    have hy2 : x.tmod (m : Int) < (m : Int) := Int.tmod_lt_of_pos _ hmp
    generalize x.tmod (m : Int) = y at hy0 hy2 ⊢
    obtain ⟨q, rfl⟩ := Int.eq_ofNat_of_zero_le hy0
    have K3 := Lib.hid K2.out.drew
    have at2 := Lib.hid (AT2.out _ K3.out.drew.2.2)
    clear x0 hx0 hx1 hy0 at1
    have x0 := K3.out.1.1
    go_wp2_with fail
    go_region_held3 (fun w' => w'.cell? ⟨w1.heap.size, 0, none⟩ = some (.int .i64 (m : Int)))
      (first | exact x0) (first | (go_at_call 12; (with_reducible refine at2.out.mono ?_); rintro e w5 ⟨x, rfl, ⟨hx0, hx1⟩, rfl⟩))
    have hy0 : 0 ≤ x.tmod (m : Int) := Int.tmod_nonneg _ hx0
    have hy3 : x.tmod (m : Int) < (m : Int) := Int.tmod_lt_of_pos _ hmp
    generalize x.tmod (m : Int) = y at hy0 hy3 ⊢
    obtain ⟨r, rfl⟩ := Int.eq_ofNat_of_zero_le hy0
    have K4 := Lib.hid K3.out.drew
    clear x0 hx0 hx1 hy0 at2 K1 K2 K3 AT0 AT1 AT2 BG DB
    have hp : p < m := by omega
    have hq : q < m := by omega
    have hr : r < m := by omega
    obtain ⟨es, hw, hne⟩ := way_some HF.out.1 HF.out.2.1 HF.out.2.2 hp hq
    have WAY := Lib.hid (And.intro hw hne)
    have CPe := Lib.hid (fun W h => CP.out p q hp hq es hw hne W h)
    clear hw hne CP
    obtain ⟨x0, x1⟩ := K4.out.1
    go_wp2_with fail
    refine (CD.out p q hp hq _ K4.out.2.1).mono ?_
    rintro e w2 ⟨rfl, b2⟩
    have K5 := Lib.hid (K4.out.below b2)
    clear x0 x1 b2 K4
    obtain ⟨x0, x1⟩ := K5.out.1
    go_wp2_with fail
    refine (CPe.out _ K5.out.2.1).mono ?_
    rintro e w3 ⟨vp, rfl, op, b3⟩
    have K6 := Lib.hid (K5.out.below b3)
    obtain ⟨Ap, cp, rfl⟩ := op.slice
    have P6 := Lib.hid op
    clear x0 x1 b3 K5 op
    obtain ⟨x0, x1⟩ := K6.out.1
    go_wp2_with fail
    refine (CF.out p hp _ K6.out.2.1).mono ?_
    rintro e w4 ⟨vl, rfl, ol, b4⟩
    have K7 := Lib.hid (K6.out.below b4)
    have P7 := Lib.hid (P6.out.below b4)
    obtain ⟨Al, cl, rfl⟩ := ol.slice
    have L7 := Lib.hid ol
    clear x0 x1 b4 K6 P6 ol
    obtain ⟨x0, x1⟩ := K7.out.1
    go_wp2_with fail
    refine (CS.out _ K7.out.2.1).mono ?_
    rintro e w5 ⟨rfl, b5⟩
    have K8 := Lib.hid (K7.out.below b5)
    have P8 := Lib.hid (P7.out.below b5)
    have L8 := Lib.hid (L7.out.below b5)
    clear x0 x1 b5 K7 P7 L7
    obtain ⟨x0, x1⟩ := K8.out.1
    go_wp2_with fail
    refine (CC.out _ K8.out.2.1).mono ?_
    rintro e w6 ⟨rfl, b6⟩
    have K9 := Lib.hid (K8.out.below b6)
    have P9 := Lib.hid (P8.out.below b6)
    have L9 := Lib.hid (L8.out.below b6)
    clear x0 x1 b6 K8 P8 L8
    obtain ⟨x0, x1⟩ := K9.out.1
    have hdl := distsTo_len m ls p m
    obtain ⟨gl, _, el, _, _, l0, _⟩ := L9.out.spot (k := q) (by rw [hdl]; exact hq)
    rw [distsTo_at] at l0
    simp only [Value.slice.injEq] at el
    obtain ⟨rfl, em, ec⟩ := el
    clear em ec
    rw [hdl]
    obtain ⟨cc, hcc, hc1, hc2⟩ := centerTo_is (m := m) (ls := ls) (k := m) (by omega)
    have hSp : spanOf m ls = spanTo m ls m := if_pos OK.out
    have hCe : centerOf m ls = (cc : Int) := (if_pos OK.out).trans hc1
    rw [hSp, hCe]
    have hD := dist_range HF.out.1 p q (m := m)
    have hX := dist_range HF.out.1 p r (m := m)
    have hY := dist_range HF.out.1 r q (m := m)
    have hXY := dist_three HF.out.1 p r q (m := m)
    have hDS : dist m ls p q ≤ spanTo m ls m := Int.le_trans (farTo_le (i := p) hq) (spanTo_le (ls := ls) (m := m) hp)
    have hSR := spanTo_range HF.out.1 m (m := m)
    have hz := dist_zero HF.out.1 HF.out.2.1 HF.out.2.2 hp hq
    have hzb : (dist m ls p q == 0) = ((p : Int) == (q : Int)) := by
      rw [Bool.eq_iff_iff, beq_iff_eq, beq_iff_eq, hz]
      omega
    have C1 := Lib.hid (fun W h => dist_comm (m := m) (ls := ls) p q ▸ CD.out q p hq hp W h)
    have C2 := Lib.hid (fun W h => CD.out p r hp hr W h)
    have C3 := Lib.hid (fun W h => CD.out r q hr hq W h)
    have KE := Lib.hid (show KeepE w w1.heap.size m (.slice A ls.length c) ls gl q (dist m ls p q) w2.heap.size (.slice Ap (verts ls p es).length cp) (verts ls p es) w6 from ⟨K9.out, l0, P9.out⟩)
    have hcm : (cc : Int) < (m : Int) := by omega
    have hqm : (q : Int) < (m : Int) := by omega
    clear hz hc1 hc2 hSp hCe L9 P9 K9 CS CC
    generalize dist m ls p r = X at hX hXY C2
    generalize dist m ls r q = Y at hY hXY C3
    obtain ⟨D, hDe⟩ : ∃ D, dist m ls p q = D := ⟨_, rfl⟩
    obtain ⟨SP, hSe⟩ : ∃ SP, spanTo m ls m = SP := ⟨_, rfl⟩
    rw [hDe] at hD hXY hDS hzb C1 KE l0 ⊢
    rw [hSe] at hDS hSR ⊢
    have DE := Lib.hid (And.intro hDe hSe)
    clear hDe hSe
    have g0 : decide (D < 0) = false := by simp; omega
    have g2 : ((D == 0) == ((p : Int) == (q : Int))) = true := by rw [hzb]; simp
    have gw : IntKind.i64.wrap (X + Y) = X + Y := IntWalk.i64_in _ (by omega)
    have g3 : decide (X + Y < D) = false := by simp; omega
    have g6 : decide (SP < D) = false := by simp; omega
    have g7 : decide ((cc : Int) < 0) = false := by simp
    have g8 : decide ((m : Int) ≤ (cc : Int)) = false := by simp; omega
    have g9 : decide (m ≤ cc) = false := by simp; omega
    clear hzb
    go_wp2_with fail
    go_region_held3 (fun w' => w'.cell? ⟨w1.heap.size, 0, none⟩ = some (.int .i64 (m : Int)) ∧ w'.cell? ⟨w1.heap.size, 1, none⟩ = some (.slice A ls.length c) ∧ w'.cell? ⟨gl, q, none⟩ = some (.int .i64 D))
      (first | exact ⟨x0, x1, l0⟩ | exact KA.out.cells | exact KB.out.cells | exact KC.out.cells)
      (first | (go_at_call 13; (with_reducible refine (C1.out _ ?_).mono ?_); (exact KE.out.k.2.1); rintro e wa ⟨rfl, ba⟩; have KA := Lib.hid (KE.out.below (undrew ba))) | (go_at_call 13; (with_reducible refine (C2.out _ ?_).mono ?_); (exact KA.out.k.2.1); rintro e wb ⟨rfl, bb⟩; have KB := Lib.hid (KA.out.below bb)) | (go_at_call 13; (with_reducible refine (C3.out _ ?_).mono ?_); (exact KB.out.k.2.1); rintro e wc ⟨rfl, bc⟩; have KC := Lib.hid (KB.out.below bc)))
    clear C1 C2 C3 KE KA KB ba bb bc x0 x1 l0 g0 g2 g3 g6 g7 g8 g9 gw hX hY hXY CPe hr
    have hel : es.length ≤ 11 := by
      obtain ⟨hnd, hlt⟩ := way_nodup HF.out.1 HF.out.2.1 HF.out.2.2 WAY.out.1 WAY.out.2
      have := way_count hnd hlt
      omega
    have HLT := Lib.hid (way_nodup HF.out.1 HF.out.2.1 HF.out.2.2 WAY.out.1 WAY.out.2).2
    rw [verts_len]
    have hvl := verts_len ls p es
    obtain ⟨gp, _, ep, _, _, p0, _⟩ := KC.out.p.spot (k := 0) (by omega)
    rw [verts_at, vert_first] at p0
    simp only [Value.slice.injEq] at ep
    obtain ⟨rfl, em, rfl⟩ := ep
    clear em
    obtain ⟨_, _, ep, _, _, p1, _⟩ := KC.out.p.spot (k := es.length) (by omega)
    rw [verts_at, vert_last WAY.out.1] at p1
    simp only [Value.slice.injEq, Option.some.injEq, Addr.mk.injEq] at ep
    obtain ⟨⟨rfl, _⟩, em, ec⟩ := ep
    clear em ec
    have he0 : (0 : Int) ≤ (es.length : Int) := by omega
    have he1 : ((es.length : Int) + 1 == 0) = false := by
      rw [beq_eq_false_iff_ne]
      omega
    go_wp2_with fail
    clear p0 p1 he0 he1
    generalize hN : es.length + 1 = N
    have NE := Lib.hid hN.symm
    clear hN
    go_loopw [12, 13] (fun wv mv wr => ∃ (k : Nat), k ≤ es.length ∧ mv = .int .i64 ((k : Int) + 1) ∧ wv = .int .i64 (wayLen ls (es.take k)) ∧ Hid (KeepE w w1.heap.size m (.slice A ls.length c) ls gl q D w2.heap.size (.slice (some ⟨gp, 0, none⟩) (verts ls p es).length cp) (verts ls p es) wr)) (fun _ mv _ => N - (intOf mv).toNat)
    case atStart => exact ⟨0, by omega, rfl, rfl, KC⟩
    case round =>
      clear KC
      obtain ⟨k, hk, rfl, rfl, KW⟩ := hrel
      obtain ⟨x0, x1, -⟩ := KW.out.cells
      by_cases hlt : k < es.length
      · obtain ⟨_, _, e1, _, _, z0, _⟩ := KW.out.p.spot (k := k) (by rw [verts_len]; omega)
        rw [verts_at] at z0
        simp only [Value.slice.injEq, Option.some.injEq, Addr.mk.injEq] at e1
        obtain ⟨⟨rfl, _⟩, em, ec⟩ := e1
        clear em ec
        obtain ⟨_, _, e1, _, _, z1, _⟩ := KW.out.p.spot (k := k + 1) (by rw [verts_len]; omega)
        rw [verts_at] at z1
        simp only [Value.slice.injEq, Option.some.injEq, Addr.mk.injEq] at e1
        obtain ⟨⟨rfl, _⟩, em, ec⟩ := e1
        clear em ec
        obtain ⟨ht, htt, hoo⟩ := way_piece WAY.out.1 hlt
        have hv0 := vert_lt HF.out.1 WAY.out.1 hp (k := k) (by omega)
        have hv1 := vert_lt HF.out.1 WAY.out.1 hp (k := k + 1) (by omega)
        have hdl' := dist_limb HF.out.1 HF.out.2.1 HF.out.2.2 ht htt hoo
        have C := Lib.hid (fun W h => hdl' ▸ CD.out _ _ hv0 hv1 W h)
        obtain ⟨hn1, hn2⟩ := limb_pos HF.out.1 ht
        have hwr := wayLen_range HF.out.1 (es := es.take k) (fun t h => HLT.out t (List.mem_of_mem_take h))
        have HWT := Lib.hid (wayLen_take (ls := ls) hlt)
        have htl : (es.take k).length = k := by rw [List.length_take]; omega
        rw [htl] at hwr
        clear ht htt hoo hdl' htl hv0 hv1
        generalize vert ls p es k = x at z0 C
        generalize vert ls p es (k + 1) = y at z1 C
        generalize (limbAt ls es[k]).n = nn at C hn1 hn2 HWT
        generalize wayLen ls (es.take k) = wl at hwr HWT
        have gw1 : IntKind.i64.wrap (k : Int) = (k : Int) := IntWalk.i64_in _ (by omega)
        have gw2 : IntKind.i64.wrap (wl + nn) = wl + nn := IntWalk.i64_in _ (by omega)
        have hk0 : (0 : Int) ≤ (k : Int) := by omega
        have hk1 : (0 : Int) ≤ (k : Int) + 1 := by omega
        have hNn := NE.out
        have hk2 : (k : Int) < (N : Int) := by omega
        have hk3 : (k : Int) + 1 < (N : Int) := by omega
        clear hNn
        go_wp2_with fail
        go_region_held3 (fun w' => w'.cell? ⟨w1.heap.size, 0, none⟩ = some (.int .i64 (m : Int)) ∧ w'.cell? ⟨w1.heap.size, 1, none⟩ = some (.slice A ls.length c) ∧ w'.cell? ⟨gp, k, none⟩ = some (.int .i64 (x : Int)) ∧ w'.cell? ⟨gp, k + 1, none⟩ = some (.int .i64 (y : Int)))
          (first | exact ⟨x0, x1, z0, z1⟩ | exact KS.out)
          (first | (go_at_call 13; (with_reducible refine (C.out _ ?_).mono ?_); (exact KW.out.k.2.1); rintro e wa ⟨rfl, ba⟩; have KA := Lib.hid (KW.out.below (undrew ba)); have KS := Lib.hid (And.intro KA.out.cells.1 (And.intro KA.out.cells.2.1 (And.intro (cell_below z0 (undrew ba)) (cell_below z1 (undrew ba)))))))
        clear ba KS z0 z1 x0 x1
        go_wp2
        exact ⟨⟨k + 1, by omega, by go_num, by rw [HWT.out], KA⟩, by have := NE.out; simp [intOf]; omega⟩
      · obtain rfl : k = es.length := by omega
        have hwD : wayLen ls (es.take es.length) = D := by rw [List.take_length, dist_way HF.out.1 HF.out.2.1 HF.out.2.2 WAY.out.1 WAY.out.2, DE.out.1]
        rw [hwD]
        clear hwD
        have hk5 : ¬ (es.length : Int) + 1 < (N : Int) := by have := NE.out; omega
        go_wp2_with fail
        refine (CF.out cc hcc _ KW.out.k.2.1).mono ?_
        rintro e w7 ⟨v7, rfl, o7, b7⟩
        obtain ⟨A7, c7, rfl⟩ := o7.slice
        rw [distsTo_len]
        have K7 := Lib.hid (KW.out.k.below b7)
        have O7 := Lib.hid o7
        have DA := Lib.hid (fun r (h : r < (distsTo m ls cc m).length) => distsTo_at h)
        have DL := Lib.hid (distsTo_len m ls cc m)
        have FR := Lib.hid (fun k => farTo_range HF.out.1 (m := m) cc k)
        clear o7 b7 x0 x1 KW
        go_wp2_with fail
        go_loopw [14, 16] (fun nv iv wr => wr = w7 ∧ ∃ r : Nat, r ≤ m ∧ iv = .int .i64 (r : Int) ∧ nv = .int .i64 (farTo m ls cc r)) (fun _ iv _ => m - (intOf iv).toNat)
        case atStart => exact ⟨rfl, 0, by omega, rfl, rfl⟩
        case round =>
          obtain ⟨rfl, r, hr, rfl, rfl⟩ := hrel
          obtain ⟨hw0, hw1⟩ := FR.out r
          by_cases hlt : r < m
          · obtain ⟨g2, c', e1, _, _, z0, _⟩ := O7.out.spot (k := r) (by rw [DL.out]; exact hlt)
            rw [DL.out] at e1
            simp only [Value.slice.injEq] at e1
            obtain ⟨rfl, hloop, rfl⟩ := e1
            clear hloop
            rw [DA.out] at z0
            have SUM := Lib.hid (show farTo m ls cc (r + 1) = if farTo m ls cc r < dist m ls cc r then dist m ls cc r else farTo m ls cc r from maxed _ _)
            generalize dist m ls cc r = d at z0 SUM
            generalize farTo m ls cc r = f at hw0 hw1 SUM
            have hr1 : (r : Int) < (m : Int) := by omega
            have hr0 : (0 : Int) ≤ (r : Int) := by omega
            go_wp2
            exact ⟨⟨trivial, r + 1, by omega, by go_num, by rw [SUM.out]⟩, by simp [intOf]; omega⟩
          · obtain rfl : m = r := by omega
            have h1 := span_twice HF.out.1 (m := m) (by omega) hcc
            have h2 : far m ls cc ≤ spanTo m ls m := spanTo_le hcc
            unfold far at h1 h2
            rw [DE.out.2] at h1 h2
            generalize farTo m ls cc m = F at h1 h2 hw0 hw1
            obtain ⟨x0, x1⟩ := K7.out.1
            go_wp2_with (go_at_call 18; refine (CE.out _ K7.out.2.1).mono ?_; rintro e w8 ⟨rfl, b8⟩)
            go_ret
            exact ⟨rfl, (K7.out.below b8).2.2⟩
end Go.Proofs.Ytnoocpokicccpaa
