/- The contract of spec.SortingSwaps. Condition: the numbers lie in a row of their own. -/
import Derived.Test.YthijfipjfdmoeaaSwpS
import Derived.Test.YthijfipjfdmoeaaOrdS
import Derived.Test.YthijfipjfdmoeaaSrtM
import Derived.Deep.AppendLies
namespace Go.Proofs.Ythijfipjfdmoeaa
set_option linter.unusedVariables false
set_option linter.unusedSimpArgs false
open Go.RowKit

set_option maxRecDepth 100000 in
set_option maxHeartbeats 3200000 in
theorem specSort (v : Value) (zs : List Int) (b : Nat) (w : World) (h : OwnI w b v zs) (hl : zs.length ≤ 2000000) :
    Calls Try.prog 52 #[v] w (IntsPost w (sortSwaps zs)) := by
  obtain ⟨i0, hi0, hz0, hz1, hz2⟩ := info_parts info_int
  have hpos : 0 < 1 := by omega
  have CI := Lib.hid (fun v zs b W h hl => specInv v zs b W h hl)
  have CS := Lib.hid (fun v zs k b W h hl => specSwap v zs k b W h hl)
  obtain ⟨A, c, rfl⟩ := h.slice
  have O := Lib.hid h
  have lo := fun q hq => (h.lt q hq).2
  clear h
  have E0 := Lib.hid (ownI_empty w w.heap.size w.heap.size #[] rfl (Nat.le_refl _) rfl)
  have E1 := Lib.hid (ownI_empty (w.alloc (.cells #[] 3)) (w.heap.size + 1) (w.heap.size + 1) #[] (by simp) (by simp) rfl)
  go_enter Try.func52, Try.ntmps52
  go_wp2_with (at_builtin; refine wpList_rowsI rfl (.tmp 7) (.tmp 8) rfl (w.heap.size + 1) b (.slice (some ⟨w.heap.size + 1, 0, none⟩) 0 0) (.slice A zs.length c) [] zs rfl rfl E1.out ((O.out.alloc _).alloc _) ?_ ?_ ?_; (simp only [List.length_nil]; omega); (simp); intro v1 w1 o1 g1 hat; replace o1 : OwnI w1 (w.heap.size + 1) v1 zs := o1; obtain ⟨B, d, rfl⟩ := o1.slice; have b1 : Below (w.heap.size + 1) (w.alloc (.cells #[] 3)) w1 := ((Below.refl _ _).alloc (by simp) _).grown g1 (by simp) (fun q hq => (E1.out.lt q hq).1); have O1 := Lib.hid o1; have B1 := Lib.hid b1; clear o1 b1 g1 hat)
  have V1 := Lib.hid (E0.out.below (by simpa using B1.out))
  have W1 := Lib.hid (((Below.refl w.heap.size w).alloc (Nat.le_refl _) (.cells #[] 3)).trans (B1.out.mono (by omega)))
  have hs1 := W1.out.size
  cases hok : orderOk zs with
  | false =>
    have R := Lib.hid (show sortSwaps zs = [] by unfold sortSwaps; rw [hok]; rfl)
    have C1 := Lib.hid (CI.out _ zs _ w1 O1.out hl)
    rw [hok] at C1
    clear hok
    go_loopw [3, 4] (fun ov nv wr => ov = .slice (some ⟨w.heap.size, 0, none⟩) 0 0 ∧ nv = .slice B zs.length d ∧ wr = w1) (fun _ _ _ => 0)
    case atStart => exact ⟨rfl, rfl, rfl⟩
    case round =>
      obtain ⟨rfl, rfl, rfl⟩ := hrel
      go_wp2_with (go_at_call 16; refine C1.out.mono ?_; rintro e w2 ⟨rfl, b2⟩)
      go_ret
      exact ⟨_, rfl, by rw [R.out]; exact V1.out.below b2, W1.out.trans (b2.mono hs1)⟩
  | true =>
  have HO := Lib.hid (order_iff.1 hok)
  have R := Lib.hid (show sortSwaps zs = sortS (invs zs) zs by unfold sortSwaps; rw [hok]; rfl)
  have hV := invs_le HO.out
  clear hok
  have AP := Lib.hid (show (Value.slice B zs.length d).ownBlock = none ∨ (Value.slice B zs.length d).ownBlock ≠ (Value.slice (some ⟨w.heap.size, 0, none⟩) 0 0).ownBlock from sep_of fun x h1 h2 => by
    have := (O1.out.lt x h1).1
    have h3 : some w.heap.size = some x := h2
    have := Option.some.inj h3
    omega)
  have O1' := Lib.hid (O1.out.mono (show w.heap.size ≤ w.heap.size + 1 by omega))
  go_loopw [3, 4] (fun ov nv wr => ∃ (cur done : List Int) (vo vn : Value), vo = ov ∧ vn = nv ∧ Hid (OwnI wr w.heap.size vo done) ∧ Hid (OwnI wr w.heap.size vn cur) ∧ Hid (vn.ownBlock = none ∨ vn.ownBlock ≠ vo.ownBlock) ∧ Hid (IsOrd cur) ∧ Hid (done ++ sortS (invs cur) cur = sortSwaps zs) ∧ done.length + invs cur = invs zs ∧ Hid (Below w.heap.size w wr)) (fun ov _ _ => invs zs - lenV ov)
  case atStart => exact ⟨zs, [], _, _, rfl, rfl, V1, O1', AP, HO, Lib.hid (by rw [R.out]; rfl), by simp, W1⟩
  case round =>
    clear V1 O1 O1' AP B1 W1 hs1
    obtain ⟨cur, done, vo, vn, rfl, rfl, OV, ON, SEP, HC, EQ, hlen, BW⟩ := hrel
    obtain ⟨P, c1, rfl⟩ := OV.out.slice
    obtain ⟨Q, c2, rfl⟩ := ON.out.slice
    have hc7 := HC.out.len
    have hcl : cur.length ≤ 2000000 := by omega
    have C1 := Lib.hid (CI.out _ cur _ wr ON.out hcl)
    rw [if_pos (order_iff.2 HC.out)] at C1
    by_cases hz : invs cur = 0
    · have R2 := Lib.hid (show done = sortSwaps zs by have := EQ.out; rw [hz, sortS] at this; simpa using this)
      rw [hz] at C1
      go_wp2_with (go_at_call 16; refine C1.out.mono ?_; rintro e w2 ⟨rfl, b2⟩)
      go_ret
      exact ⟨_, rfl, by rw [← R2.out]; exact OV.out.below b2, BW.out.trans (b2.mono BW.out.size)⟩
    obtain ⟨f1, f2, f3⟩ := first_ok HC.out (by omega)
    obtain ⟨o1, o2, o3⟩ := sort_step HC.out (by omega)
    have F := Lib.hid (And.intro f2 f3)
    have NEXT := Lib.hid (show IsOrd (swapL cur (firstD cur)) ∧ done ++ [((firstD cur : Nat) : Int)] ++ sortS (invs (swapL cur (firstD cur))) (swapL cur (firstD cur)) = sortSwaps zs from ⟨o1, by have := EQ.out; rw [o3] at this; rw [List.append_assoc]; exact this⟩)
    have C2 := Lib.hid (fun v b W h => swapR_yes HC.out f1 ▸ CS.out v cur ((firstD cur : Nat) : Int) b W h hcl)
    have hlen2 : done.length + 1 + invs (swapL cur (firstD cur)) = invs zs := by omega
    have hpi : (0 : Int) < (invs cur : Int) := by omega
    have hdl : done.length ≤ 49 := by omega
    clear f2 f3 o1 o2 o3 hlen
    generalize hfd : firstD cur = q at F NEXT C2 f1 hlen2
    generalize hic : (invs cur : Int) = ic at C1 hpi
    clear hfd hic hz
    go_wp2_with (go_at_call 16; refine C1.out.mono ?_; rintro e w2 ⟨rfl, b2⟩)
    have B2 := Lib.hid (BW.out.trans (b2.mono BW.out.size))
    have OV2 := Lib.hid (OV.out.below b2)
    have ON2 := Lib.hid (ON.out.below b2)
    have hs2 := B2.out.size
    clear b2 C1 BW OV ON
    go_loopw [5] (fun kv wr => ∃ i : Nat, i ≤ q ∧ kv = .int .i64 (i : Int) ∧ Hid (Below w2.heap.size w2 wr)) (fun kv _ => q - (intOf kv).toNat)
    case atStart => exact ⟨0, by omega, rfl, Lib.hid (Below.refl _ _)⟩
    case round =>
      obtain ⟨i, hi, rfl, BI⟩ := hrel
      have h1 : i < cur.length := by omega
      have h2 : i + 1 < cur.length := by omega
      have hq0 : (0 : Int) ≤ (i : Int) := by omega
      have hi1 : (i : Int) < (cur.length : Int) := by omega
      have hi2 : (0 : Int) ≤ (i : Int) + 1 := by omega
      have hi3 : (i : Int) + 1 < (cur.length : Int) := by omega
      have e2 : IntKind.i64.wrap ((i : Int) + 1) = (i : Int) + 1 := IntWalk.i64_in _ (by omega)
      obtain ⟨g, _, e, _, _, z0, _⟩ := (ON2.out.below BI.out).spot h1
      simp only [Value.slice.injEq] at e
      obtain ⟨rfl, em, rfl⟩ := e
      clear em
      obtain ⟨_, _, e, _, _, z1, _⟩ := (ON2.out.below BI.out).spot h2
      simp only [Value.slice.injEq, Option.some.injEq, Addr.mk.injEq] at e
      obtain ⟨⟨rfl, -⟩, -⟩ := e
      by_cases hiq : i < q
      · have hx := F.out.2 i hiq
        rw [atI_of h1, atI_of h2] at hx
        have dx : decide (cur[i] < cur[i + 1]) = true := decide_eq_true hx
        generalize cur[i] = x at z0 dx
        generalize cur[i + 1] = y at z1 dx
        clear hx
        go_wp2
        go_quiet (fail)
        go_wp2
        exact ⟨⟨i + 1, by omega, by go_num, Lib.hid (below_drewN BI.out _)⟩, by simp [intOf]; omega⟩
      · obtain rfl : i = q := by omega
        have hx := F.out.1
        rw [atI_of h1, atI_of h2] at hx
        have dx : decide (cur[i] < cur[i + 1]) = false := decide_eq_false (by omega)
        generalize cur[i] = x at z0 dx
        generalize cur[i + 1] = y at z1 dx
        have C3 := Lib.hid (fun W (hb : Below w2.heap.size w2 W) => C2.out _ _ W (ON2.out.below hb))
        have hmax : done.length + 1 ≤ maxLen := by simp only [maxLen]; omega
        have hbd : (done.length + 1) * 8 ≤ 140737488355328 := by omega
        clear hx
        go_wp2
        go_quiet (fail)
        go_wp2_with fail
        refine (C3.out _ (below_drewN BI.out _)).mono ?_
        rintro e w3 ⟨v3, rfl, o3, b3⟩
        have b23 := (below_drewN BI.out _).trans (b3.mono (below_drewN BI.out _).size)
        have B3 := Lib.hid (B2.out.trans (b23.mono hs2))
        have OV3 := Lib.hid (OV2.out.below b23)
        have o3' := o3.mono (show w2.heap.size ≤ _ from (below_drewN BI.out _).size)
        have O3 := Lib.hid o3'
        have hs3 := B3.out.size
        obtain ⟨D3, d3, rfl⟩ := o3'.slice
        have hown := OV3.out
        have SEP3 := Lib.hid (show (Value.slice D3 (swapL cur i).length d3).ownBlock = none ∨ (Value.slice D3 (swapL cur i).length d3).ownBlock ≠ (Value.slice P done.length c1).ownBlock from sep_of fun x h1 h2 => by
          have := (O3.out.lt x h1).1
          have := (OV2.out.lt x h2).2
          omega)
        clear b3 b23 o3 o3'
        go_wp2_with (at_builtin; refine wpList_append_lies _ rfl (.tmp 31) (.tmp 33) 36 rfl w.heap.size 3 i0 (.int .i64 0) 1 8 Try.underlying36 hi0 hz0 hz1 hz2 rfl hpos (.slice P done.length c1) _ _ rfl (hown.alloc _) ⟨w3.heap.size, 0, none⟩ 1 1 [.int .i64 (i : Int)] rfl rfl (World.news_of_block (heap_alloc_new w3 _)) ?_ hpos hmax hbd ?_ (w3.heap.size + 1) ?_ ?_; (simp [Value.oneCell']); (simp; omega); (simp); intro gg cap w4 hown1 hgrow hat hlt')
        have O4 := Lib.hid (ownI_snoc hown1)
        have B4 := Lib.hid (ints_snoc_below B3.out hs3 hown hgrow)
        have N4 := Lib.hid (((O3.out.alloc _).kept hgrow SEP3.out).mono hs2)
        have S4 := Lib.hid (show (Value.slice D3 (swapL cur i).length d3).ownBlock = none ∨ (Value.slice D3 (swapL cur i).length d3).ownBlock ≠ (Value.slice (some ⟨gg, 0, none⟩) (done.length + 1) cap).ownBlock from sep_of fun x h1 h2 => by
          have h3 : gg = x := Option.some.inj h2
          rcases hat with h | h
          · rcases SEP3.out with s | s
            · rw [s] at h1; cases h1
            · exact s (by rw [h1, h, h3])
          · have := (O3.out.lt x h1).2
            omega)
        exact ⟨⟨swapL cur i, done ++ [(i : Int)], _, _, rfl, rfl, (by simpa using O4), N4, (by simpa using S4), Lib.hid NEXT.out.1, Lib.hid NEXT.out.2, by simp; omega, B4⟩, by simp [lenV]; omega⟩
end Go.Proofs.Ythijfipjfdmoeaa
