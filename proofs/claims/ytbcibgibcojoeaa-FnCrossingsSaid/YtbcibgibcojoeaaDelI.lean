/- The contracts of slices.Clone and slices.Delete (two neighbours) at rows of crossings. Condition: the crossings lie in a row of their own. -/
import Derived.Test.YtbcibgibcojoeaaCrsM
import Derived.Test.YtbcibgibcojoeaaCrossA
import Derived.BigQuiet
import Derived.Deep.RegionLaw
import Derived.Lib.SliceRun
namespace Go.Proofs.Ytbcibgibcojoeaa
set_option linter.unusedVariables false
set_option linter.unusedSimpArgs false
open Go.RowKit

set_option maxHeartbeats 800000 in
theorem cloneX_any (v : Value) (ls : List RCross) (base : Nat) (w : World) (hown : OwnCross w base v ls) (hl : ls.length ≤ 2000000) :
    Calls Try.prog 42 #[v] w (CrossPost w ls) := by
  rcases id hown.2 with ⟨rfl, hn⟩ | ⟨g, cap, cur, rfl, _⟩
  · have hy : ls = [] := List.eq_nil_of_length_eq_zero hn
    subst hy
    have ke := fun W => Lib.run_eql_slice_nil (P := Try.prog) W 24 36 none 0 0 0 0 Try.underlying24
    clear hown hn
    go_enter Try.func42, Try.ntmps42
    go_wp2
    go_ret
    exact ⟨_, rfl, ⟨rfl, .inl ⟨rfl, rfl⟩⟩, Below.refl _ _⟩
  · have OWN := Lib.hid (hown.alloc (.cells #[] 36))
    have O0 := Lib.hid (emptyCross w w.heap.size w.heap.size #[] rfl (Nat.le_refl _) rfl)
    have ke := fun W => Lib.run_eql_slice_nil (P := Try.prog) W 24 36 (some ⟨g, 0, none⟩) ls.length cap 0 0 Try.underlying24
    clear hown
    go_enter Try.func42, Try.ntmps42
    go_wp2_with (at_builtin; refine wpList_rowsCross rfl (.tmp 5) (.tmp 6) rfl w.heap.size base (.slice (some ⟨w.heap.size, 0, none⟩) 0 0) (.slice (some ⟨g, 0, none⟩) ls.length cap) [] ls rfl rfl O0.out OWN.out ?_ ?_ ?_; (simp; omega); (simp); intro v' w1 own1 hgrow hat)
    go_ret
    refine ⟨_, rfl, own1, ((Below.refl w.heap.size w).alloc (Nat.le_refl _) _).grown hgrow (by simp) (fun k hk => ?_)⟩
    have : w.heap.size = k := by simpa [Value.ownBlock] using hk
    omega

/-- The row with the xs written from place k on. -/
def putL (ls : List RCross) (k : Nat) : List RCross → List RCross
  | [] => ls
  | x :: xs => putL (ls.set k x) (k + 1) xs
theorem putL_len (xs : List RCross) : ∀ (ls : List RCross) (k : Nat), (putL ls k xs).length = ls.length := by
  induction xs with
  | nil => exact fun _ _ => rfl
  | cons x xs ih => intro ls k; rw [putL, ih, List.length_set]
theorem putL_at (xs : List RCross) : ∀ (ls : List RCross) (k t : Nat), k + xs.length ≤ ls.length → (putL ls k xs)[t]? = if k ≤ t ∧ t < k + xs.length then xs[t - k]? else ls[t]? := by
  induction xs with
  | nil => intro ls k t _; rw [if_neg (by rw [List.length_nil]; omega)]; rfl
  | cons x xs ih =>
    intro ls k t h
    rw [List.length_cons] at h ⊢
    rw [putL, ih _ _ _ (by rw [List.length_set]; omega)]
    by_cases c1 : t = k
    · subst c1
      rw [if_neg (by omega), if_pos (by omega), List.getElem?_set_self (by omega), Nat.sub_self, List.getElem?_cons_zero]
    · by_cases c2 : k + 1 ≤ t ∧ t < k + 1 + xs.length
      · rw [if_pos c2, if_pos (by omega), show t - k = t - (k + 1) + 1 by omega, List.getElem?_cons_succ]
      · rw [if_neg c2, if_neg (by omega), List.getElem?_set_ne (by omega)]
/-- What stood behind two neighbours moved to the left over them, and the last two places written anew. -/
theorem put_cut (ls : List RCross) (k : Nat) (a d : RCross) (h : k + 1 < ls.length) :
    (putL (putL ls k (ls.drop (k + 2))) (ls.length - 2) [a, d]).take (ls.length - 2) = ls.take k ++ ls.drop (k + 2) := by
  apply List.ext_getElem?
  intro t
  rw [List.getElem?_take]
  by_cases c0 : t < ls.length - 2
  · rw [if_pos c0, putL_at _ _ _ _ (by rw [putL_len]; simp; omega), if_neg (by omega), putL_at _ _ _ _ (by simp; omega)]
    by_cases c1 : k ≤ t
    · rw [if_pos (by simp; omega), List.getElem?_append_right (by simp; omega), List.length_take, Nat.min_eq_left (by omega)]
    · rw [if_neg (by omega), List.getElem?_append_left (by simp; omega), List.getElem?_take, if_pos (by omega)]
  · rw [if_neg c0, List.getElem?_eq_none (by simp; omega)]
theorem OwnCross.sets {base g c n : Nat} (xs : List RCross) : ∀ {w : World} {ls : List RCross} (k : Nat), OwnCross w base (.slice (some ⟨g, 0, none⟩) n c) ls → n = ls.length →
    OwnCross (w.setCells g (k * 2) (flatCross xs)) base (.slice (some ⟨g, 0, none⟩) n c) (putL ls k xs) ∧ w.grownBy (w.setCells g (k * 2) (flatCross xs)) (some g) := by
  induction xs with
  | nil => exact fun k h _ => ⟨h, World.grownBy.refl _ _⟩
  | cons x xs ih =>
    intro w ls k h hn
    obtain ⟨h1, g1⟩ := h.set hn k x
    obtain ⟨h2, g2⟩ := ih (k + 1) h1 (by rw [List.length_set]; exact hn)
    have e : w.setCells g (k * 2) (flatCross (x :: xs)) = (w.setCells g (k * 2) x.cells).setCells g ((k + 1) * 2) (flatCross xs) := by
      rw [flatCross_cons, show (k + 1) * 2 = k * 2 + 1 + 1 by omega]
      rfl
    rw [e]
    exact ⟨h2, grown_then g1 g2⟩
theorem flatCross_drop (ls : List RCross) (k : Nat) : flatCross (ls.drop k) = (flatCross ls).drop (k * 2) := by
  have e := congrArg flatCross (List.take_append_drop k ls)
  rw [flatCross_append, flatCross_take] at e
  have e2 := (List.take_append_drop (k * 2) (flatCross ls)).symm
  rw [← e] at e2
  have h := congrArg (List.drop (k * 2)) e
  rcases Nat.lt_or_ge ls.length k with q | q
  · rw [List.drop_eq_nil_of_le (by omega), List.drop_eq_nil_of_le (by rw [flatCross_len]; omega)]; rfl
  · have l : (List.take (k * 2) (flatCross ls)).length = k * 2 := by rw [List.length_take, flatCross_len]; omega
    rw [List.drop_left' l] at h
    exact h
/-- 'clear' over two crossings. -/
theorem clearX {P : Program} (w : World) (t e ty : TypeId) (ht : P.underlying t = some (.slice e)) (hv : ∀ w, (zeroValue e).run P w = .ok RCross.zero.val w) (b o c : Nat)
    (hc : ∀ j, j < 4 → (w.cell? ⟨b, o + j, none⟩).isSome = true) (hf : ∀ j, j < 4 → w.frozen? ⟨b, o + j, none⟩ = false) :
    (Builtin.clear_ #[t] ty #[.slice (some ⟨b, o, none⟩) 2 c]).run P w = .ok (.tuple #[]) (w.setCells b o (flatCross [RCross.zero, RCross.zero])) := by
  have hzc : (Builtin.zeroCells RCross.zero.val.cells 2).toList = flatCross [RCross.zero, RCross.zero] := by
    simp [Builtin.zeroCells, RCross.zero, RCross.val, RCross.cells, flatCross, Value.cells]
    rfl
  have hst := run_storeCells_cells (P := P) b o (flatCross [RCross.zero, RCross.zero]) 0 w (by simpa [flatCross_len] using hc) (by simpa [flatCross_len] using hf) (flatCross_one _)
  simp only [Nat.add_zero] at hst
  simp [Builtin.clear_, run_underlying ht, hv, hzc, hst]

set_option maxRecDepth 1000000 in
set_option maxHeartbeats 4000000 in
theorem delM (g c k base : Nat) (ls : List RCross) (w : World) (h : OwnCross w base (.slice (some ⟨g, 0, none⟩) ls.length c) ls) (hk : k + 1 < ls.length) (hl : ls.length ≤ 2000000) :
    Calls Try.prog 45 #[.slice (some ⟨g, 0, none⟩) ls.length c, .int .i64 (k : Int), .int .i64 ((k : Int) + 2)] w fun e w' =>
      e = .returned (.slice (some ⟨g, 0, none⟩) (ls.length - 2) c) ∧ OwnCross w' base (.slice (some ⟨g, 0, none⟩) (ls.length - 2) c) (ls.take k ++ ls.drop (k + 2)) ∧ w.grownBy w' (some g) := by
  obtain ⟨i0, hi0, hz0, hz1, hz2⟩ := info_parts infoCross
  obtain ⟨hcap, hcm⟩ := capCross h
  simp only [maxLen] at hcm
  have HW := h.below (Below.refl w.heap.size w).drew
  obtain ⟨H1, G1⟩ := OwnCross.sets (ls.drop (k + 2)) k HW rfl
  obtain ⟨H2, G2⟩ := OwnCross.sets [RCross.zero, RCross.zero] (ls.length - 2) H1 (putL_len _ _ _).symm
  have lenL : (putL (putL ls k (ls.drop (k + 2))) (ls.length - 2) [RCross.zero, RCross.zero]).length = ls.length := by rw [putL_len, putL_len]
  have LOW := lowCross (k := ls.length - 2) H2 (by rw [lenL]; omega)
  rw [put_cut ls k _ _ hk] at LOW
  obtain ⟨A, hA, hsrc⟩ : ∃ A : Addr, (if c = k + 2 then some (⟨g, 0, none⟩ : Addr) else some ⟨g, (k + 2) * 2, none⟩) = some A ∧ Hid (∀ t u, (flatCross (ls.drop (k + 2)))[t]? = some u → w.drew.cell? (A.add t) = some u) := by
    by_cases hc : c = k + 2
    · refine ⟨⟨g, 0, none⟩, by simp [hc], fun t u hu => ?_⟩
      have h0 : (flatCross (ls.drop (k + 2))).length = 0 := by rw [flatCross_len, List.length_drop]; omega
      rw [List.length_eq_zero_iff.1 h0] at hu
      simp at hu
    · refine ⟨⟨g, (k + 2) * 2, none⟩, by simp [hc], fun t u hu => ?_⟩
      rw [flatCross_drop, List.getElem?_drop] at hu
      have ht : (k + 2) * 2 + t < ls.length * 2 := by
        have := (List.getElem?_eq_some_iff.1 hu).1
        rwa [flatCross_len] at this
      have e := World.ownsRow.cellAt HW ((k + 2) * 2 + t) (by simpa using ht)
      rw [hu] at e
      have ea : (⟨g, (k + 2) * 2, none⟩ : Addr).add t = ⟨g, (k + 2) * 2 + t, none⟩ := by unfold Addr.add; split <;> simp_all
      rw [ea]
      exact e
  have s1 : Hid ((flatCross (ls.drop (k + 2))).length = (ls.length - (k + 2)) * 2) := by rw [flatCross_len, List.length_drop]; trivial
  have s2 : Hid (∀ u ∈ flatCross (ls.drop (k + 2)), u.oneCell' = true) := flatCross_one _
  have s3 : Hid (∀ t, t < (flatCross (ls.drop (k + 2))).length → (w.drew.cell? ⟨g, 0 + k * 2 + t, none⟩).isSome = true ∧ w.drew.frozen? ⟨g, 0 + k * 2 + t, none⟩ = false) := by
    intro t ht
    rw [flatCross_len, List.length_drop] at ht
    have hlt : k * 2 + t < ls.length * 2 := by omega
    have e := World.ownsRow.cellAt HW (k * 2 + t) (by simpa using hlt)
    rw [Nat.zero_add, e]
    exact ⟨by rw [List.getElem?_eq_getElem (by rw [flatCross_len]; exact hlt)]; rfl, World.ownsRow.frozenAt HW _⟩
  obtain ⟨W1, hW1⟩ : ∃ W1, W1 = w.drew.setCells g (k * 2) (flatCross (ls.drop (k + 2))) := ⟨_, rfl⟩
  rw [← hW1] at H1 G1 H2 G2 LOW
  have HH : World.ownsRow W1 base 36 2 (.slice (some ⟨g, 0, none⟩) ls.length c) ls.length (flatCross (putL ls k (ls.drop (k + 2)))) := by
    have q := H1
    unfold OwnCross at q
    rwa [putL_len] at q
  have hcl : ∀ ty, (Builtin.clear_ #[24] ty #[.slice (some ⟨g, (ls.length - 2) * 2, none⟩) 2 (c - (ls.length - 2))]).run Try.prog W1 = .ok (.tuple #[]) (W1.setCells g ((ls.length - 2) * 2) (flatCross [RCross.zero, RCross.zero])) :=
    fun ty => clearX W1 _ _ ty Try.underlying24 (by intro w; simp [zeroValue, typeInfo, hi0, hz0, go_sem]) g _ _ (fun j hj => by
      have e := World.ownsRow.cellAt HH ((ls.length - 2) * 2 + j) (by omega)
      rw [e, List.getElem?_eq_getElem (by rw [flatCross_len, putL_len]; omega)]; rfl) (fun j hj => World.ownsRow.frozenAt HH _)
  have hcl2 : ∀ ty, (Builtin.clear_ #[24] ty #[.slice (some ⟨g, (k + (ls.length - (k + 2))) * 2, none⟩) (ls.length - (k + (ls.length - (k + 2)))) (c - (k + (ls.length - (k + 2))))]).run Try.prog W1 = .ok (.tuple #[]) (W1.setCells g ((ls.length - 2) * 2) (flatCross [RCross.zero, RCross.zero])) := by
    intro ty
    rw [show k + (ls.length - (k + 2)) = ls.length - 2 by omega, show ls.length - (ls.length - 2) = 2 by omega]
    exact hcl ty
  clear hcl
  have hic : k ≤ c := by omega
  have hjc : k + 2 ≤ c := by omega
  have DONE := Lib.hid (And.intro LOW (grown_then (show w.grownBy W1 (some g) from ⟨G1.os, G1.tape, G1.output, G1.size, G1.block⟩) G2))
  have hW : Hid (W1 = w.drew.setCells g (0 + k * 2) (flatCross (ls.drop (k + 2)))) := Lib.hid (by rw [Nat.zero_add]; exact hW1)
  have hp0 : (0 : Int) ≤ (k : Int) + 2 := by omega
  have hp1 : (k : Int) + 2 ≤ (ls.length : Int) := by omega
  have hp2 : ((k : Int) + 2).toNat = k + 2 := by omega
  clear hW1 H1 G1 H2 G2 LOW HW lenL h HH
  go_enter Try.func45, Try.ntmps45
  go_wp2_with fail
  go_region_law (refine step_append_room rfl (.tmp 22) (.tmp 25) 24 rfl 36 i0 2 Try.underlying24 hi0 hz1 g 0 k c (by simp [Act.eval, Act.put]) A (ls.length - (k + 2)) (c - (k + 2)) (flatCross (ls.drop (k + 2))) (by simp [Act.eval, Act.put]) s1.out hsrc.out s2.out (by omega) s3.out ?_; rw [← hW.out])
  go_wp2
  go_ret
  exact ⟨by rw [show k + (ls.length - (k + 2)) = ls.length - 2 by omega]; rfl, DONE.out.1, DONE.out.2⟩
end Go.Proofs.Ytbcibgibcojoeaa
