/- The contract of impl.walkFrom, for whatever is called at each joint that stores one number in a row. Condition: the body is valid. -/
import Derived.Test.YtblbmppbbhibeaaRoamW
import Derived.Laws.EntriesVeiled
import Derived.Maps.RangeWalk
namespace Go.Proofs.Ytblbmppbbhibeaa
set_option linter.unusedVariables false
set_option linter.unusedSimpArgs false
open Go.RowKit

set_option maxRecDepth 100000 in
set_option maxHeartbeats 1600000 in
theorem from_any (m i nb rb bl b0 K : Nat) (v : Value) (ls : List Lb) (G : Int → Int → Int) (eg : ∀ args w, (callFunc K args).run Try.prog w = .ok (.enter K args) w) (HK : Stores K nb rb m b0 G)
    (hf : Fits m ls) (hl : ls.length + 1 = m) (hr : (joinRun m ls (apart m)).isSome = true) (hm : m ≤ 12) (zs : List Int) (w : World) (hown : OwnL w bl v ls) (hne : v.ownBlock = none ∨ v.ownBlock ≠ some rb) (hnr : nb ≠ rb)
    (hc : w.cell? ⟨nb, 0, none⟩ = some (.slice (some ⟨rb, 0, none⟩) m m)) (ho : OwnI w b0 (.slice (some ⟨rb, 0, none⟩) m m) zs) (hz : zs.length = m) (hi : i < m) :
    Calls Try.prog 72 #[bodyV (m : Int) v, .int .i64 (i : Int), .func (.func K) #[] #[.pointer (some ⟨nb, 0, none⟩)]] w
      fun e w' => e = .returned (.tuple #[]) ∧ ∃ zs', OwnI w' b0 (.slice (some ⟨rb, 0, none⟩) m m) zs' ∧ zs'.length = m ∧ Roamed ls G i none (-1) 0 zs zs' ∧ w.grownBy w' (some rb) := by
  have hmf : ∀ (fn : Fn) (first cap : Array Value) (w : World), (Instr.makeFunc fn first cap).run Try.prog w = .ok (.func fn first cap) w := fun _ _ _ _ => rfl
  have hrb := (ho.lt rb rfl).2
  have hnb := World.block_lt_of_cell? w _ hc
  obtain ⟨A, c, e⟩ := hown.slice
  subst e
  have OWN := Lib.hid hown
  have HO := Lib.hid ho
  have HC := Lib.hid hc
  have HNE := Lib.hid hne
  have HZ := Lib.hid hz
  have LK := Lib.hid (fun W h => link_any m (.slice A ls.length c) ls bl W h hf hl hm)
  have RO := Lib.hid (fun Ba Bj Bb Bw g base pb vl vb => roam_any Ba Bj Bb Bw nb rb g m base bl b0 K pb vl vb (.slice A ls.length c) ls G eg HK hf hl hr hm ls.length i none (-1) 0 zs)
  have HB := Lib.hid (box_facts (J := (m : Int)) hown)
  clear hown ho hc hne hz HK hr
  unfold bodyV at LK ⊢
  go_enter Try.func72, Try.ntmps72
  go_wp2_with fail
  refine (LK.out _ ((OWN.out.alloc _).alloc _)).mono ?_
  rintro e w1 ⟨g, base, pb, vl, vb, rfl, hg, hgb, hsz, net1, row1, b1⟩
  simp only [World.size_alloc] at hg
  have a0 := World.grownBy_alloc w (.cells #[.int .i64 (m : Int), .slice A ls.length c] 26) none
  have a1 := World.grownBy_alloc (w.alloc (.cells #[.int .i64 (m : Int), .slice A ls.length c] 26)) (.cells #[.func (.func K) #[] #[.pointer (some ⟨nb, 0, none⟩)]] 94) none
  have a2 := (a0.trans a1).trans (grown_of_below b1 none)
  have a3 := World.grownBy_alloc w1 (.cells #[.slice (some ⟨g, 0, none⟩) m m] 77) none
  have a4 := World.grownBy_alloc (w1.alloc (.cells #[.slice (some ⟨g, 0, none⟩) m m] 77)) (.cells #[.func (.func 74) #[] #[.pointer (some ⟨w.heap.size + 1, 0, none⟩), .pointer (some ⟨w1.heap.size, 0, none⟩), .pointer (some ⟨w.heap.size, 0, none⟩), .pointer (some ⟨w1.heap.size + 1, 0, none⟩)]] 94) none
  have a5 := a3.trans a4
  have sz : w.heap.size + 2 ≤ w1.heap.size := by
    have := b1.size
    simp only [World.size_alloc] at this
    omega
  have k1 : ((w.alloc (.cells #[.int .i64 (m : Int), .slice A ls.length c] 26)).alloc (.cells #[.func (.func K) #[] #[.pointer (some ⟨nb, 0, none⟩)]] 94)).cell? ⟨w.heap.size + 1, 0, none⟩ = some (.func (.func K) #[] #[.pointer (some ⟨nb, 0, none⟩)]) := by simp [go_sem]
  have k2 := (elder (cell_below k1 b1)).2.1
  obtain ⟨-, y1, y2, -⟩ := HB.out w1 (((Below.refl _ _).alloc (by simp) _).trans (b1.mono (by simp)))
  have y3 := (elder y1).2.1
  have k0 := (a2.trans a5).cell HC.out (by simp)
  have S := Lib.hid (show SiteOk _ (w.heap.size + 1) w1.heap.size w.heap.size (w1.heap.size + 1) nb rb g m base bl K pb vl vb (.slice A ls.length c) ls from
    ⟨k2 _ _, by simp [go_sem], y3 _ _, by simp [go_sem], k0, (y2.alloc _).alloc _, (net1.below ((Below.refl _ _).alloc (Nat.le_refl _) _)).below ((Below.refl _ _).alloc (Nat.le_refl _) _), (row1.alloc _).alloc _, by omega, by omega, by omega, by omega, hnr, by omega, by omega, HNE.out⟩)
  have O := Lib.hid (HO.out.kept (a2.trans a5) (.inr (by simp [Value.ownBlock])))
  have GR := Lib.hid ((a2.trans a5).but (some rb))
  go_wp2_with fail
  refine (RO.out _ _ _ _ _ _ _ _ _ _ S.out O.out HZ.out hi (.inl ⟨rfl, rfl⟩) ⟨i, [], rfl, trivial, rfl, by simp⟩ (by omega) (by omega)).mono ?_
  rintro e w2 ⟨rfl, zs', o2, hz2, hro, g2⟩
  have R := Lib.hid (show _ ∧ _ from ⟨hro, GR.out.trans g2⟩)
  have O2 := Lib.hid o2
  clear hro g2 o2
  go_wp2
  go_end0
  exact ⟨rfl, zs', O2.out, hz2, R.out.1, R.out.2⟩
end Go.Proofs.Ytblbmppbbhibeaa
