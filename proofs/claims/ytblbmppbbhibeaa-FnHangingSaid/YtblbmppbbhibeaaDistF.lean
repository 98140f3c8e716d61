/- The contract of spec.DistanceOf. No condition but that the limbs lie in a row of their own: distOf says -1 where a joint is no joint of a valid body. -/
import Derived.Test.YtblbmppbbhibeaaDistW
import Derived.Deep.RegionHeld3
namespace Go.Proofs.Ytblbmppbbhibeaa
set_option linter.unusedVariables false
set_option linter.unusedSimpArgs false
open Go.RowKit

def distOf (J i j : Int) (ls : List Lb) : Int := if joints J i j ls = true then dist J.toNat ls i.toNat j.toNat else -1

set_option maxRecDepth 100000 in
set_option maxHeartbeats 800000 in
theorem specDist_no (J i j : Int) (v : Value) (ls : List Lb) (base : Nat) (w : World) (hown : OwnL w base v ls) (h : joints J i j ls = false) :
    Calls Try.prog 61 #[bodyV J v, .int .i64 i, .int .i64 j] w fun e w' => e = .returned (.int .i64 (-1)) ∧ Below w.heap.size w w' := by
  have CJ := Lib.hid (fun W hW => h ▸ joints_any J i j v ls base W hW)
  obtain ⟨A, c, e⟩ := hown.slice
  subst e
  have OWN := Lib.hid hown
  have BX := Lib.hid (box_facts (J := J) hown)
  clear hown h
  unfold bodyV at CJ ⊢
  go_enter Try.func61, Try.ntmps61
  go_wp2_with fail
  refine (CJ.out _ (OWN.out.alloc _)).mono ?_
  rintro e w1 ⟨rfl, b1⟩
  simp only [World.size_alloc] at b1
  obtain ⟨-, -, -, bw⟩ := BX.out w1 b1
  clear b1
  go_wp2
  go_ret
  exact ⟨rfl, bw⟩
set_option maxRecDepth 100000 in
set_option maxHeartbeats 1600000 in
theorem specDist_yes (m : Nat) (v : Value) (ls : List Lb) (base : Nat) (w : World) (hown : OwnL w base v ls) (hok : bodyOk m ls = true) {i j : Nat} (hi : i < m) (hj : j < m) :
    Calls Try.prog 61 #[bodyV (m : Int) v, .int .i64 (i : Int), .int .i64 (j : Int)] w fun e w' => e = .returned (.int .i64 (dist m ls i j)) ∧ Below w.heap.size w w' := by
  obtain ⟨hf, hl, hm, hr⟩ := ok_parts' hok
  obtain ⟨es, hw, hn⟩ := way_some hf hl hr hi hj
  obtain ⟨hnd, hlt⟩ := way_nodup hf hl hr hw hn
  have hel := way_count hnd hlt
  have HD := Lib.hid (dist_way hf hl hr hw hn)
  have WP := Lib.hid (fun r (h : r < es.length) => way_piece hw h)
  have WT := Lib.hid (fun r (h : r < es.length) => wayLen_take (ls := ls) h)
  have WR := Lib.hid (fun r => wayLen_range hf (es := es.take r) (fun t ht => hlt t (List.mem_of_mem_take ht)))
  have CJ := Lib.hid (fun W hW => joints_yes hok hi hj ▸ joints_any m i j v ls base W hW)
  have CW := Lib.hid (fun W hW => walk_first m v ls base W hW hok hi hj hw hn)
  have CL := Lib.hid (fun t x y ht hx hy W hW => length_any m v ls base W hW hok (t := t) (x := x) (y := y) ht hx hy)
  obtain ⟨A, c, e⟩ := hown.slice
  subst e
  have OWN := Lib.hid hown
  have BX := Lib.hid (box_facts (J := (m : Int)) hown)
  have hll : es.length ≤ 11 := by omega
  clear hown hf hl hr hw hn hnd hlt hel hok
  unfold bodyV at CJ CW CL ⊢
  go_enter Try.func61, Try.ntmps61
  go_wp2_with fail
  refine (CJ.out _ (OWN.out.alloc _)).mono ?_
  rintro e w1 ⟨rfl, b1⟩
  simp only [World.size_alloc] at b1
  have K1 := Lib.hid (BX.out w1 b1)
  have B1 := Lib.hid b1
  have hz1 := b1.size
  simp only [World.size_alloc] at hz1
  obtain ⟨x0, x1, -, -⟩ := K1.out
  clear b1
  go_wp2_with fail
  refine (CW.out _ K1.out.2.2.1).mono ?_
  rintro e w2 ⟨v2, rfl, o2, b2⟩
  obtain ⟨A2, c2, rfl⟩ := o2.slice
  have O2 := Lib.hid o2
  have B2 := Lib.hid (B1.out.trans (b2.mono hz1))
  have VL := Lib.hid (verts_len ls i es)
  have VA := Lib.hid (fun r (h : r < (verts ls i es).length) => verts_at h)
  clear o2 b2 x0 x1
  go_wp2
  go_loopw [7, 9] (fun nv iv wr => ∃ r : Nat, r ≤ es.length ∧ iv = .int .i64 ((r : Int) + 1) ∧ nv = .int .i64 (wayLen ls (es.take r)) ∧ Below w2.heap.size w2 wr) (fun _ iv _ => es.length + 2 - (intOf iv).toNat)
  case atStart => exact ⟨0, by omega, rfl, rfl, Below.refl _ _⟩
  case round =>
    obtain ⟨r, hr, rfl, rfl, hbel⟩ := hrel
    have O := Lib.hid (O2.out.below hbel)
    have HB := Lib.hid hbel
    have K := Lib.hid (BX.out wr (B2.out.trans (hbel.mono (by have := B2.out.size; simp at this; omega))))
    have hwr := hbel.size
    obtain ⟨x0, x1, -, -⟩ := K.out
    obtain ⟨hw0, hw1⟩ := WR.out r
    have htl : (es.take r).length ≤ 11 := by rw [List.length_take]; omega
    clear hbel
    by_cases hlt : r < es.length
    · obtain ⟨g2, c', e1, _, l2, z0, _⟩ := O.out.spot (k := r) (by rw [VL.out]; omega)
      simp only [Value.slice.injEq] at e1
      obtain ⟨rfl, hloop, rfl⟩ := e1
      clear hloop
      obtain ⟨_, _, e2, _, _, z1, _⟩ := O.out.spot (k := r + 1) (by rw [VL.out]; omega)
      simp only [Value.slice.injEq, Option.some.injEq, Addr.mk.injEq] at e2
      obtain ⟨⟨rfl, _⟩, em, ec⟩ := e2
      clear em ec
      rw [VA.out] at z0 z1
      obtain ⟨h1, h2, h3⟩ := WP.out r hlt
      have CLr := Lib.hid (CL.out _ _ _ h1 h2 h3)
      have SUM := Lib.hid (WT.out r hlt)
      have hv1 := WR.out (r + 1)
      rw [SUM.out] at hv1
      have hv2 : (es.take (r + 1)).length ≤ 11 := by rw [List.length_take]; omega
      have hlen1 : (r : Int) + 1 < ((verts ls i es).length : Int) := by rw [VL.out]; omega
      have hr0 : (0 : Int) ≤ (r : Int) := by omega
      have hr1 : (0 : Int) ≤ (r : Int) + 1 := by omega
      have hr2 : (r : Int) < ((verts ls i es).length : Int) := by omega
      have hsub : IntKind.i64.wrap ((r : Int) + 1 - 1) = r := by rw [show (r : Int) + 1 - 1 = r by omega]; exact IntWalk.i64_in _ (by omega)
      have hsub2 : IntKind.i64.wrap (r : Int) = r := IntWalk.i64_in _ (by omega)
      have htn : ((r : Int) + 1).toNat = r + 1 := by omega
      clear h1 h2 h3
      generalize vert ls i es r = p at z0 CLr
      generalize vert ls i es (r + 1) = q at z1 CLr
      generalize (limbAt ls es[r]).n = n at CLr SUM hv1
      generalize wayLen ls (es.take r) = s at hw0 hw1 SUM hv1
      obtain ⟨hv3, hv4⟩ := hv1
      have Z := Lib.hid (And.intro x0 (And.intro x1 (And.intro z0 z1)))
      have hs2 : s + n ≤ 1100 := by omega
      have hs3 : 0 ≤ s + n := hv3
      clear hv4 hv2 htl hw1
      go_wp2
      go_region_held3 (fun w' => w'.cell? ⟨w.heap.size, 0, none⟩ = some (.int .i64 (m : Int)) ∧ w'.cell? ⟨w.heap.size, 1, none⟩ = some (.slice A ls.length c) ∧ w'.cell? ⟨g2, r, none⟩ = some (.int .i64 (p : Int)) ∧ w'.cell? ⟨g2, r + 1, none⟩ = some (.int .i64 (q : Int)))
        (first | exact Z.out | exact Z3.out) (first | (go_at_call 71; refine (CLr.out _ ?_).mono ?_; (exact K.out.2.2.1); rintro e w3 ⟨rfl, b3⟩; have Z3 := Lib.hid (And.intro (cell_below Z.out.1 (undrew b3)) (And.intro (cell_below Z.out.2.1 (undrew b3)) (And.intro (cell_below Z.out.2.2.1 (undrew b3)) (cell_below Z.out.2.2.2 (undrew b3)))))))
      have FIN := Lib.hid (show Below w2.heap.size w2 w3 from HB.out.trans ((undrew b3).mono hwr))
      have hsw : IntKind.i64.wrap (s + n) = s + n := IntWalk.i64_in _ (by omega)
      clear b3
      go_wp2
      exact ⟨⟨r + 1, by omega, by go_num, by rw [SUM.out, hsw], FIN.out⟩, by simp [intOf]; omega⟩
    · obtain rfl : r = es.length := by omega
      have hT := Lib.hid (show wayLen ls (es.take es.length) = dist m ls i j by rw [List.take_length]; exact HD.out)
      have hlenI : ((verts ls i es).length : Int) ≤ (es.length : Int) + 1 := by rw [VL.out]; omega
      generalize wayLen ls (es.take es.length) = s at hT hw0 hw1
      go_wp2
      go_ret
      exact ⟨ret_int hT.out, K.out.2.2.2⟩

theorem specDist (J i j : Int) (v : Value) (ls : List Lb) (base : Nat) (w : World) (hown : OwnL w base v ls) :
    Calls Try.prog 61 #[bodyV J v, .int .i64 i, .int .i64 j] w fun e w' => e = .returned (.int .i64 (distOf J i j ls)) ∧ Below w.heap.size w w' := by
  unfold distOf
  cases h : joints J i j ls
  · rw [if_neg (by simp)]
    exact specDist_no _ i j v ls base w hown h
  · obtain ⟨hok, m, p, q, rfl, rfl, rfl, hi, hj⟩ := joints_of h
    rw [if_pos rfl, Int.toNat_natCast, Int.toNat_natCast, Int.toNat_natCast]
    exact specDist_yes m v ls base w hown hok hi hj

theorem distOf_yes {m i j : Nat} {ls : List Lb} (h : bodyOk m ls = true) (hi : i < m) (hj : j < m) : distOf m i j ls = dist m ls i j := by
  rw [distOf, if_pos (joints_yes h hi hj), Int.toNat_natCast, Int.toNat_natCast, Int.toNat_natCast]
end Go.Proofs.Ytblbmppbbhibeaa
