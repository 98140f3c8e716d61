/- The contract of slices.Repeat at a row of one number, up to twelve times. Condition: the row is the call's own. -/
import Derived.Test.YtigiechidcndpaaCopK
import Derived.Deep.RegionLaw
namespace Go.Proofs.Ytigiechidcndpaa
set_option linter.unusedVariables false
open Go.RowKit

set_option maxHeartbeats 1600000 in
theorem mul64_small (m : Nat) (h1 : 1 ≤ m) (h : m ≤ 12) (w : World) :
    Calls Try.prog 60 #[.int .u64 1, .int .u64 (m : Int)] w fun e w' => e = .returned (.tuple #[.int .u64 0, .int .u64 (m : Int)]) ∧ w = w' := by
  rcases (by omega : m = 1 ∨ m = 2 ∨ m = 3 ∨ m = 4 ∨ m = 5 ∨ m = 6 ∨ m = 7 ∨ m = 8 ∨ m = 9 ∨ m = 10 ∨ m = 11 ∨ m = 12) with rfl | rfl | rfl | rfl | rfl | rfl | rfl | rfl | rfl | rfl | rfl | rfl
  all_goals
    go_enter Try.func60, Try.ntmps60
    go_wp2
    go_ret2
    exact ⟨rfl, rfl⟩
theorem mul_small (m : Nat) (h1 : 1 ≤ m) (h : m ≤ 12) (w : World) :
    Calls Try.prog 53 #[.int .u64 1, .int .u64 (m : Int)] w fun e w' => e = .returned (.tuple #[.int .u64 0, .int .u64 (m : Int)]) ∧ w = w' := by
  have C := Lib.hid (fun W => mul64_small m h1 h W)
  go_enter Try.func53, Try.ntmps53
  go_wp2_with (go_at_call 60; refine (C.out _).mono ?_; rintro e w' ⟨rfl, rfl⟩)
  go_ret2
  exact ⟨rfl, rfl⟩

theorem splice_take {α : Type} {L : List α} {n k : Nat} {x : α} (h : L.take n = List.replicate n x) (hk : n + k ≤ L.length) : (splice L n (List.replicate k x)).take (n + k) = List.replicate (n + k) x := by
  unfold splice
  rw [h, ← List.append_assoc, List.replicate_append_replicate, List.take_append_of_le_length (by simp)]
  simp
theorem fullI {w : World} {base g n : Nat} {cur : List Value} {zs : List Int} (hb : base ≤ g) (hn : n = zs.length) (hm : n ≤ maxLen) (hc : cur = zs.map intV)
    (h : w.heap[g]? = some (.cells cur.toArray 3 (0, 0))) : OwnI w base (.slice (some ⟨g, 0, none⟩) n n) zs := by
  subst hn hc
  exact ⟨by simp, .inr ⟨g, zs.length, _, rfl, hb, h, Nat.le_refl _, hm, by simp, by simpa using List.take_of_length_le (by simp)⟩⟩

set_option maxRecDepth 100000 in
set_option maxHeartbeats 1600000 in
theorem repeat_any (m : Nat) (h1 : 1 ≤ m) (h12 : m ≤ 12) (v : Value) (z : Int) (b : Nat) (w : World) (hown : OwnI w b v [z]) :
    Calls Try.prog 35 #[v, .int .i64 (m : Int)] w (IntsPost w (List.replicate m z)) := by
  have C := Lib.hid (fun W => mul_small m h1 h12 W)
  obtain ⟨i, hi, hi0, his, hib⟩ := info_parts info_int
  obtain ⟨g0, c0, rfl, _, _, r0, _⟩ := hown.spot (k := 0) (by simp)
  have R0 := Lib.hid (show ∀ W, Below w.heap.size w W → ∀ j u, [intV z][j]? = some u → W.cell? ((⟨g0, 0, none⟩ : Addr).add j) = some u from fun W hb => World.ownsRow.cells (hown.below hb) rfl)
  clear hown r0
  have hm0 : ¬ (m : Int) < 0 := by omega
  have hmu : IntKind.u64.wrap (m : Int) = (m : Int) := by rw [IntKind.wrap_u64]; omega
  have hmi : IntKind.i64.wrap (m : Int) = (m : Int) := IntWalk.i64_in _ (by omega)
  have hmm : ¬ (9223372036854775807 : Int) < (m : Int) := by omega
  have hl1 : [z].length = 1 := rfl
  go_enter Try.func35, Try.ntmps35
  go_wp2_with (first
    | (go_at_call 53; refine (C.out _).mono ?_; rintro e w' ⟨rfl, rfl⟩)
    | (refine wpList_make_full _ rfl _ _ 24 rfl w.heap.size 3 i (.int .i64 0) 1 Try.underlying24 hi hi0 his .i64 .i64 _ _ m rfl rfl rfl rfl (by rw [hib]; omega) (by simp only [maxLen]; omega) (by simp) ?_; intro w1 own1 grown1; have B1 := Lib.hid (below_of_grown grown1); obtain ⟨cur, hcl, hcu⟩ := madeRow own1 rfl; have HC := Lib.hid hcu; clear own1 grown1 hcu)
    | (refine wpList_copy_splice (o := ⟨some 33, _, _, _, _, _⟩) rfl (.tmp 31) (.tmp 32) 24 24 rfl 3 Try.underlying24 size_int (some ⟨w.heap.size, 0, none⟩) (some ⟨g0, 0, none⟩) m m 1 c0 rfl rfl w.heap.size 0 cur 3 HC.out [intV z] (Nat.min_eq_left h1).symm (by intro _; exact ⟨rfl, _, rfl, R0.out _ B1.out⟩) (show 0 + 1 ≤ cur.length by omega) (intV_one [z]) w.heap.size w B1.out (Nat.le_refl _) ?_; intro w2 hh b2; have B2 := Lib.hid b2; clear b2))
  have hs1 : (splice cur 0 [intV z]).length = m := by rw [length_splice _ _ _ (show 0 + 1 ≤ cur.length by omega)]; exact hcl
  have ht1 : (splice cur 0 [intV z]).take 1 = List.replicate 1 (intV z) := splice_take (L := cur) (n := 0) (k := 1) rfl (by omega)
  have H2 := Lib.hid hh.out
  clear hh HC B1 hcl
  generalize splice cur 0 [intV z] = cur at hs1 ht1 H2
  go_loopw [8] (fun nv wr => ∃ (n : Nat) (cur : List Value), 1 ≤ n ∧ n ≤ m ∧ nv = .int .i64 (n : Int) ∧ cur.length = m ∧ Hid (cur.take n = List.replicate n (intV z)) ∧ Hid (wr.heap[w.heap.size]? = some (.cells cur.toArray 3 (0, 0))) ∧ Hid (Below w.heap.size w wr)) (fun nv _ => m - (intOf nv).toNat)
  case atStart => exact ⟨1, cur, by omega, h1, rfl, hs1, ht1, H2, B2⟩
  case round =>
    clear hs1 ht1 H2 B2 cur
    obtain ⟨n, cur, hn1, hnm, rfl, hcl, HT, HC, HB⟩ := hrel
    by_cases hlt : n < m
    · have hn0 : (0 : Int) ≤ (n : Int) := by omega
      have hn2 : (n : Int) < (m : Int) := by omega
      have hn3 : (n : Int) ≤ (m : Int) := by omega
      have hne : ¬ m = n := by omega
      obtain ⟨k, hk⟩ : ∃ k, Nat.min n (m - n) = k := ⟨_, rfl⟩
      have hk1 : 1 ≤ k := by rw [← hk]; exact Nat.le_min.2 ⟨hn1, by omega⟩
      have hk2 : k ≤ n := by rw [← hk]; exact Nat.min_le_left _ _
      have hk3 : k ≤ m - n := by rw [← hk]; exact Nat.min_le_right _ _
      have RC := Lib.hid (show ∀ W : World, W.heap[w.heap.size]? = some (.cells cur.toArray 3 (0, 0)) → ∀ j u, (List.replicate k (intV z))[j]? = some u → W.cell? ((⟨w.heap.size, 0, none⟩ : Addr).add j) = some u from fun W hW j u hj => by
        have hjk : j < k := by have := (List.getElem?_eq_some_iff.1 hj).1; simpa using this
        have hu : u = intV z := by rw [List.getElem?_replicate, if_pos hjk] at hj; exact (Option.some.inj hj).symm
        have hc : cur[j]? = some (intV z) := by
          have h := congrArg (fun l => l[j]?) HT.out
          simp only [List.getElem?_take, List.getElem?_replicate] at h
          rwa [if_pos (by omega), if_pos (by omega)] at h
        have he : ((⟨w.heap.size, 0, none⟩ : Addr).add j) = ⟨w.heap.size, j, none⟩ := by unfold Addr.add; split <;> simp_all
        rw [he, hu]
        simp [World.cell?, hW, hc])
      have T2 := Lib.hid (splice_take (x := intV z) (k := k) HT.out (show n + k ≤ cur.length by omega))
      have L2 : (splice cur n (List.replicate k (intV z))).length = m := by rw [length_splice _ _ _ (by simp; omega)]; exact hcl
      have hw : IntKind.i64.wrap ((n : Int) + (k : Int)) = ((n + k : Nat) : Int) := by rw [IntWalk.i64_in _ (by omega)]; omega
      generalize hX : List.replicate k (intV z) = X at RC T2 L2
      have hXl : X.length = k := by rw [← hX]; simp
      have HX := Lib.hid (show ∀ v ∈ X, v.oneCell' = true by rw [← hX]; intro v hv; rw [List.eq_of_mem_replicate hv]; rfl)
      clear hX
      go_wp2
      go_region_held3 (fun _ => True) (exact trivial) (first | (refine step_copy_splice rfl (.tmp 41) (.tmp 44) 24 24 rfl 3 Try.underlying24 size_int _ (some ⟨w.heap.size, 0, none⟩) (m - n) (m - n) n m rfl rfl w.heap.size n cur 3 HC.out X (by rw [hXl, hk]) (by intro _; refine ⟨?_, _, rfl, RC.out _ HC.out⟩; first | rfl | exact if_neg hne) (by omega) HX.out w.heap.size w HB.out.drew (Nat.le_refl _) ?_; intro w4 hg4 hb4; have G4 := Lib.hid hg4.out; have B4 := Lib.hid hb4; clear hg4 hb4))
      go_wp2
      exact ⟨⟨n + k, splice cur n X, by omega, by omega, by go_num, L2, T2, G4, B4⟩, by simp [intOf]; omega⟩
    · have hke : n = m := by omega
      subst hke
      have F := Lib.hid (fullI (n := n) (base := w.heap.size) (zs := List.replicate n z) (Nat.le_refl _) (by simp) (by simp only [maxLen]; omega) (by rw [List.map_replicate, ← HT.out, List.take_of_length_le (by omega)]) HC.out)
      go_wp2
      go_ret
      exact ⟨_, rfl, F.out, HB.out⟩
end Go.Proofs.Ytigiechidcndpaa
