/- The contract of spec.DistancesFrom. Condition: the limbs lie in a row of their own. -/
import Derived.Test.YtblbmppbbhibeaaDistF
import Derived.Deep.AppendLies
namespace Go.Proofs.Ytblbmppbbhibeaa
set_option linter.unusedVariables false
set_option linter.unusedSimpArgs false
open Go.RowKit

def distsFrom (J i : Int) (ls : List Lb) : List Int := if joints J i i ls = true then distsTo J.toNat ls i.toNat J.toNat else []
theorem distsFrom_len (J i : Int) (ls : List Lb) : (distsFrom J i ls).length ≤ 12 := by
  unfold distsFrom
  cases h : joints J i i ls
  · simp
  · obtain ⟨hok, m, p, q, rfl, rfl, _, _, _⟩ := joints_of h
    obtain ⟨_, _, hm, _⟩ := ok_parts' hok
    rw [if_pos rfl, distsTo_len, Int.toNat_natCast]
    exact hm
theorem distsFrom_yes {m i : Nat} {ls : List Lb} (h : bodyOk m ls = true) (hi : i < m) : distsFrom m i ls = distsTo m ls i m := by
  rw [distsFrom, if_pos (joints_yes h hi hi), Int.toNat_natCast, Int.toNat_natCast]

set_option maxRecDepth 100000 in
set_option maxHeartbeats 800000 in
theorem specDists_no (J i : Int) (v : Value) (ls : List Lb) (base : Nat) (w : World) (hown : OwnL w base v ls) (h : joints J i i ls = false) :
    Calls Try.prog 46 #[bodyV J v, .int .i64 i] w (IntsPost w []) := by
  have CJ := Lib.hid (fun W hW => h ▸ joints_any J i i v ls base W hW)
  obtain ⟨A, c, e⟩ := hown.slice
  subst e
  have OWN := Lib.hid hown
  have BX := Lib.hid (box_facts (J := J) hown)
  clear hown h
  unfold bodyV at CJ ⊢
  have O0 := Lib.hid (ownI_empty (w.alloc (.cells #[.int .i64 J, .slice A ls.length c] 26)) w.heap.size (w.heap.size + 1) #[] (by simp) (by omega) rfl)
  go_enter Try.func46, Try.ntmps46
  go_wp2_with fail
  have hno : ¬ (0 : Int) < J ∨ (0 : Int) < J := by omega
  go_loopw [5, 6] (fun ov iv wr => ov = .slice (some ⟨w.heap.size + 1, 0, none⟩) 0 0 ∧ iv = .int .i64 0 ∧ wr = (w.alloc (.cells #[.int .i64 J, .slice A ls.length c] 26)).alloc (.cells #[] 3)) (fun _ _ _ => 0)
  case atStart => exact ⟨rfl, rfl, rfl⟩
  case round =>
    obtain ⟨rfl, rfl, rfl⟩ := hrel
    obtain ⟨x0, x1, -, bw⟩ := BX.out _ ((Below.refl _ _).alloc (by simp) (.cells #[] 3))
    by_cases h : (0 : Int) < J
    · go_wp2_with fail
      refine (CJ.out _ ((OWN.out.alloc _).alloc _)).mono ?_
      rintro e w1 ⟨rfl, b1⟩
      have O1 := Lib.hid (O0.out.moved b1)
      obtain ⟨-, -, -, bw⟩ := BX.out w1 (specAt_world b1)
      clear b1 x0 x1
      go_wp2
      go_ret
      exact ⟨_, rfl, O1.out, bw⟩
    · go_wp2
      go_ret
      exact ⟨_, rfl, O0.out, bw⟩


set_option maxRecDepth 100000 in
set_option maxHeartbeats 800000 in
theorem specDists_yes (m i : Nat) (v : Value) (ls : List Lb) (base : Nat) (w : World) (hown : OwnL w base v ls) (hok : bodyOk m ls = true) (hi : i < m) :
    Calls Try.prog 46 #[bodyV (m : Int) v, .int .i64 (i : Int)] w (IntsPost w (distsTo m ls i m)) := by
  have CJ := Lib.hid (fun W hW => joints_yes hok hi hi ▸ joints_any m i i v ls base W hW)
  have CD := Lib.hid (fun j (hj : j < m) W hW => distOf_yes hok hi hj ▸ specDist m i j v ls base W hW)
  obtain ⟨A, c, e⟩ := hown.slice
  subst e
  have OWN := Lib.hid hown
  have BX := Lib.hid (box_facts (J := (m : Int)) hown)
  obtain ⟨_, _, hm, _⟩ := ok_parts' hok
  clear hown hok
  unfold bodyV at CJ CD ⊢
  have O0 := Lib.hid (ownI_empty (w.alloc (.cells #[.int .i64 (m : Int), .slice A ls.length c] 26)) (w.heap.size + 1) (w.heap.size + 1) #[] (by simp) (by omega) rfl)
  obtain ⟨i0, hi0, hz0, hz1, hz2⟩ := info_parts info_int
  have hpos : 0 < 1 := by omega
  go_enter Try.func46, Try.ntmps46
  go_wp2_with fail
  go_loopw [5, 6] (fun ov iv wr => ∃ (k : Nat) (vo : Value), vo = ov ∧ k ≤ m ∧ iv = .int .i64 (k : Int) ∧ OwnI wr (w.heap.size + 1) vo (distsTo m ls i k) ∧ Below (w.heap.size + 1) (w.alloc (.cells #[.int .i64 (m : Int), .slice A ls.length c] 26)) wr) (fun _ iv _ => m - (intOf iv).toNat)
  case atStart => exact ⟨0, _, rfl, by omega, rfl, O0.out, (Below.refl _ _).alloc (by simp) _⟩
  case round =>
    obtain ⟨k, vo, rfl, hk, rfl, hown, hbel⟩ := hrel
    obtain ⟨x0, x1, ol, bw⟩ := BX.out wr hbel
    have HO := Lib.hid hown
    have HB := Lib.hid hbel
    have hsz := hbel.size
    simp only [World.size_alloc] at hsz
    clear hbel
    by_cases hlt : k < m
    · have hlen := distsTo_len m ls i k
      have hmax : (distsTo m ls i k).length + 1 ≤ maxLen := by simp only [maxLen]; omega
      have hbd : ((distsTo m ls i k).length + 1) * 8 ≤ 140737488355328 := by omega
      have hkm : (k : Int) < (m : Int) := by omega
      have CDk := Lib.hid (CD.out k hlt)
      have DS := Lib.hid (show distsTo m ls i (k + 1) = distsTo m ls i k ++ [dist m ls i k] from rfl)
      generalize dist m ls i k = d at CDk DS
      clear hlen hown
      go_wp2_with fail
      refine (CJ.out _ ol).mono ?_
      rintro e w1 ⟨rfl, b1⟩
      have B1 := Lib.hid (HB.out.trans (b1.mono hsz))
      have O1 := Lib.hid (HO.out.moved b1)
      obtain ⟨y0, y1, o1, -⟩ := BX.out w1 B1.out
      have hs1 : w.heap.size + 1 ≤ w1.heap.size := Nat.le_trans hsz b1.size
      clear b1 x0 x1 ol bw
      go_wp2_with fail
      refine (CDk.out _ o1).mono ?_
      rintro e w2 ⟨rfl, b2⟩
      have B2 := Lib.hid (B1.out.trans (b2.mono hs1))
      have O2 := Lib.hid (O1.out.moved b2)
      obtain ⟨y0, y1, -, -⟩ := BX.out w2 B2.out
      have hs2 : w.heap.size + 1 ≤ w2.heap.size := Nat.le_trans hs1 b2.size
      have own2 := O2.out
      clear b2
      go_wp2_with (at_builtin; refine wpList_append_lies _ rfl (.tmp 20) (.tmp 25) 27 rfl (w.heap.size + 1) 3 i0 (.int .i64 0) 1 8 Try.underlying27 hi0 hz0 hz1 hz2 rfl hpos vo _ _ rfl (own2.alloc _) ⟨w2.heap.size, 0, none⟩ 1 1 [.int .i64 d] rfl rfl (cell_one_new _ _ _) ?_ hpos hmax hbd ?_ (w2.heap.size + 1) ?_ ?_; (simp [Value.oneCell']); (simp; omega); (simp); intro gg cap w3 hown1 hgrow hat hlt')
      exact ⟨⟨k + 1, _, rfl, by omega, by go_num, (by rw [DS.out]; exact ownI_snoc hown1), ints_snoc_below B2.out hs2 O2.out hgrow⟩, by simp [intOf]; omega⟩
    · obtain rfl : k = m := by omega
      have HO := Lib.hid (hown.mono (b := w.heap.size) (by omega))
      clear hown
      go_wp2
      go_ret
      exact ⟨_, rfl, HO.out, bw⟩


theorem specDists (J i : Int) (v : Value) (ls : List Lb) (base : Nat) (w : World) (hown : OwnL w base v ls) :
    Calls Try.prog 46 #[bodyV J v, .int .i64 i] w (IntsPost w (distsFrom J i ls)) := by
  unfold distsFrom
  cases h : joints J i i ls
  · rw [if_neg (by simp)]
    exact specDists_no _ i v ls base w hown h
  · obtain ⟨hok, m, p, _, rfl, rfl, -, hi, -⟩ := joints_of h
    rw [if_pos rfl, Int.toNat_natCast, Int.toNat_natCast]
    exact specDists_yes m p v ls base w hown hok hi

theorem maxed (a b : Int) : max a b = if a < b then b else a := by
  split <;> omega

end Go.Proofs.Ytblbmppbbhibeaa
