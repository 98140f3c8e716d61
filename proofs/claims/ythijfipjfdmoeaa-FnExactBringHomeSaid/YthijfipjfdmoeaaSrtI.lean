/- The contract of the program's SortingSwaps. Condition: the numbers lie in a row of their own. -/
import Derived.Test.YthijfipjfdmoeaaOrdQ
import Derived.Test.YthijfipjfdmoeaaSwpM
import Derived.Deep.AppendLies
namespace Go.Proofs.Ythijfipjfdmoeaa
set_option linter.unusedVariables false
set_option linter.unusedSimpArgs false
open Go.RowKit

theorem fall_zero {zs : List Int} (h : invs zs = 0) : fall zs = -1 := by unfold fall; rw [if_pos h]
theorem fall_next {zs : List Int} (h : ¬ invs zs = 0) : fall zs = (firstD zs : Int) := by unfold fall; rw [if_neg h]

set_option maxRecDepth 100000 in
set_option maxHeartbeats 800000 in
theorem implSort (v : Value) (zs : List Int) (b : Nat) (w : World) (h : OwnI w b v zs) (hl : zs.length ≤ 2000000) :
    Calls Try.prog 46 #[v] w (IntsPost w (sortSwaps zs)) := by
  obtain ⟨i0, hi0, hz0, hz1, hz2⟩ := info_parts info_int
  have hpos : 0 < 1 := by omega
  have C := Lib.hid (orderQ v zs b w h hl)
  have CC := Lib.hid (cloneI_any v zs b w h (by omega))
  obtain ⟨A, c, rfl⟩ := h.slice
  clear h
  cases hok : orderOk zs with
  | false =>
    have R := Lib.hid (show sortSwaps zs = [] by unfold sortSwaps; rw [hok]; rfl)
    rw [hok] at C
    go_enter Try.func46, Try.ntmps46
    go_wp2_with (go_at_call 62; refine C.out.mono ?_; rintro e w' ⟨rfl, rfl⟩)
    go_ret
    exact ⟨_, rfl, by rw [R.out]; exact ⟨rfl, .inl ⟨rfl, rfl⟩⟩, Below.refl _ _⟩
  | true =>
  rw [hok] at C
  have HO := Lib.hid (order_iff.1 hok)
  have R := Lib.hid (show sortSwaps zs = sortS (invs zs) zs by unfold sortSwaps; rw [hok]; rfl)
  have hi49 := invs_le HO.out
  have hl7 := HO.out.len
  clear hok
  go_enter Try.func46, Try.ntmps46
  go_wp2_with (first | (go_at_call 62; refine C.out.mono ?_; rintro e w' ⟨rfl, rfl⟩) | (go_at_call 63; refine CC.out.mono ?_; rintro e w1 ⟨v1, rfl, o1, b1⟩; have CF := Lib.hid (fallM _ zs _ w1 o1 HO.out); obtain ⟨B, d, rfl⟩ := o1.slice; have O1 := Lib.hid o1; have B1 := Lib.hid b1; clear o1 b1) | (go_at_call 64; refine CF.out.mono ?_; rintro e w2 ⟨rfl, b2⟩))
  have O2 := Lib.hid (O1.out.below b2)
  have B2 := Lib.hid (B1.out.trans (b2.mono B1.out.size))
  clear O1 B1 b2 CF CC C
  go_loopw [4, 5] (fun sv kv wr => ∃ (cur done : List Int) (vs : Value), vs = sv ∧ kv = .int .i64 (fall cur) ∧ Hid (OwnI wr w.heap.size vs done) ∧ Hid (OwnI wr w.heap.size (.slice B zs.length d) cur) ∧ Hid (vs.ownBlock = none ∨ vs.ownBlock ≠ (Value.slice B zs.length d).ownBlock) ∧ Hid (IsOrd cur) ∧ Hid (done ++ sortS (invs cur) cur = sortSwaps zs) ∧ done.length + invs cur = invs zs ∧ Hid (cur.length = zs.length) ∧ Hid (Below w.heap.size w wr)) (fun sv _ _ => invs zs - lenV sv)
  case atStart => exact ⟨zs, [], _, rfl, rfl, Lib.hid ⟨rfl, .inl ⟨rfl, rfl⟩⟩, O2, Lib.hid (.inl rfl), HO, Lib.hid (by rw [R.out]; rfl), by simp, Lib.hid rfl, B2⟩
  case round =>
    clear O2 B2
    obtain ⟨cur, done, vs, rfl, rfl, OV, ON, SEP, HC, EQ, hlen, HCL, BW⟩ := hrel
    obtain ⟨Q, c2, rfl⟩ := OV.out.slice
    by_cases hz : invs cur = 0
    · have R2 := Lib.hid (show done = sortSwaps zs by have := EQ.out; rw [hz, sortS] at this; simpa using this)
      rw [fall_zero hz]
      go_wp2_with fail
      go_ret
      exact ⟨_, rfl, by rw [← R2.out]; exact OV.out, BW.out⟩
    obtain ⟨f1, f2, f3⟩ := first_ok HC.out (by omega)
    obtain ⟨o1, o2, o3⟩ := sort_step HC.out (by omega)
    have NEXT := Lib.hid (show IsOrd (swapL cur (firstD cur)) ∧ done ++ [((firstD cur : Nat) : Int)] ++ sortS (invs (swapL cur (firstD cur))) (swapL cur (firstD cur)) = sortSwaps zs from ⟨o1, by have := EQ.out; rw [o3] at this; rw [List.append_assoc]; exact this⟩)
    have CS := Lib.hid (swapM _ cur (firstD cur) _ wr (HCL.out ▸ ON.out) f1 (by rw [HCL.out]; exact hl))
    rw [HCL.out] at CS
    have hlen2 : done.length + 1 + invs (swapL cur (firstD cur)) = invs zs := by omega
    have hmax : done.length + 1 ≤ maxLen := by simp only [maxLen]; omega
    have hbd : (done.length + 1) * 8 ≤ 140737488355328 := by omega
    have HNL := Lib.hid (show (swapL cur (firstD cur)).length = zs.length by rw [swap_len, HCL.out])
    rw [fall_next hz]
    clear f2 f3 o1 o2 o3 hlen hz
    generalize firstD cur = q at NEXT CS f1 hlen2 HNL
    generalize swapL cur q = nx at NEXT CS hlen2 HNL
    have LT := Lib.hid (fun x hx => (ON.out.lt x hx).1)
    have SEP3 := Lib.hid (show (Value.slice B zs.length d).ownBlock = none ∨ (Value.slice B zs.length d).ownBlock ≠ (Value.slice Q done.length c2).ownBlock from sep_of fun x p1 p2 => by
      rcases SEP.out with s | s
      · rw [s] at p2; cases p2
      · exact s (by rw [p1, p2]))
    have hqn : ¬ (q : Int) = -1 := by omega
    have hqb : ((q : Int) == -1) = false := by simp
    go_wp2_with fail
    refine CS.out.mono ?_
    rintro e w3 ⟨rfl, o3, g3⟩
    have O3 := Lib.hid o3
    have B3 := Lib.hid (BW.out.grown g3 BW.out.size LT.out)
    have hs3 := B3.out.size
    have hown := OV.out.kept g3 SEP.out
    clear o3 g3
    go_wp2_with (at_builtin; refine wpList_append_lies _ rfl (.tmp 20) (.tmp 22) 36 rfl w.heap.size 3 i0 (.int .i64 0) 1 8 Try.underlying36 hi0 hz0 hz1 hz2 rfl hpos (.slice Q done.length c2) _ _ rfl (hown.alloc _) ⟨w3.heap.size, 0, none⟩ 1 1 [.int .i64 (q : Int)] rfl rfl (World.news_of_block (heap_alloc_new w3 _)) ?_ hpos hmax hbd ?_ (w3.heap.size + 1) ?_ ?_; (simp [Value.oneCell']); (simp; omega); (simp); intro gg cap w4 hown1 hgrow hat hlt')
    have O4 := Lib.hid (ownI_snoc hown1)
    have B4 := Lib.hid (ints_snoc_below B3.out hs3 hown hgrow)
    have N4 := Lib.hid ((O3.out.alloc _).kept hgrow SEP3.out)
    have S4 := Lib.hid (show (Value.slice (some ⟨gg, 0, none⟩) (done.length + 1) cap).ownBlock = none ∨ (Value.slice (some ⟨gg, 0, none⟩) (done.length + 1) cap).ownBlock ≠ (Value.slice B zs.length d).ownBlock from sep_of fun x h1 h2 => by
      have h3 : gg = x := Option.some.inj h1
      rcases hat with h | h
      · rcases SEP.out with s | s
        · rw [s] at h; cases h
        · exact s (by rw [h2, h, h3])
      · have := (O3.out.lt x h2).2
        omega)
    have CF := Lib.hid (fallM _ nx _ w4 (HNL.out ▸ N4.out) NEXT.out.1)
    rw [HNL.out] at CF
    go_wp2_with (go_at_call 64; refine CF.out.mono ?_; rintro e w5 ⟨rfl, b5⟩)
    exact ⟨⟨nx, done ++ [(q : Int)], _, rfl, rfl, Lib.hid (by simpa using O4.out.below b5), Lib.hid (N4.out.below b5), (by simpa using S4), Lib.hid NEXT.out.1, Lib.hid NEXT.out.2, by simp; omega, HNL, Lib.hid (B4.out.trans (b5.mono B4.out.size))⟩, by simp [lenV]; omega⟩
end Go.Proofs.Ythijfipjfdmoeaa
