/- The contracts of laws.toCross, toCrossS, szCrossS, eqCross, eqCrossS, and markCrossS (made by gen_rec.py; heldCrossS: XCrossH). Condition: the rows lie as they came in, or are the call's own. -/
import Derived.Test.YthijfipjfdmoeaaPk1
import Derived.Deep.RegionHeld3
namespace Go.Proofs.Ythijfipjfdmoeaa
set_option linter.unusedVariables false
set_option linter.unusedSimpArgs false
open Go.RowKit

theorem toCross_any (x0 : Int) (x1 : Bool) (w : World) :
    Calls Try.prog 51 #[.agg #[.int .i64 x0, .bool x1]] w fun e w' => e = .returned (.agg #[.int .i64 x0, .bool x1]) ∧ Below w.heap.size w w' := by
  go_enter Try.func51, Try.ntmps51
  go_wp2
  go_returns
  exact ⟨rfl, ((((Below.refl w.heap.size w).alloc (Nat.le_refl _) _).alloc (by simp) _).alloc (by simp; omega) _)⟩

set_option maxHeartbeats 800000 in
theorem toCrossS_any (a : Option Addr) (cap : Nat) (ls : List RCross) (w : World) (ha : ArgCross w a ls) (hl : ls.length ≤ 1048576) :
    Calls Try.prog 27 #[.slice a ls.length cap] w fun e w' => ∃ v, e = .returned v ∧ OwnCross w' w.heap.size v ls ∧ Below w.heap.size w w' := by
  obtain ⟨i, hi, hz, hs, hb⟩ := info_parts infoCross
  have HA := Lib.hid ha
  clear ha
  go_enter Try.func27, Try.ntmps27
  go_wp2_with (refine wpList_make_full _ rfl _ _ 24 rfl w.heap.size 56 i RCross.zero.val 2 Try.underlying24 hi hz hs .i64 .i64 _ _ ls.length rfl rfl rfl rfl (by rw [hb]; omega) (by simp only [maxLen]; omega) (by simp) ?_; intro w1 own1 grown1)
  have own0 : OwnCross w1 w.heap.size (.slice (some ⟨w.heap.size, 0, none⟩) ls.length ls.length) (ls.take 0 ++ List.replicate (ls.length - 0) RCross.zero) := by
    unfold OwnCross
    simpa [madeCross] using own1
  have b1 : Below w.heap.size w w1 := below_of_grown grown1
  clear own1 grown1
  go_loopw [4] (fun i wr => ∃ k : Nat, k ≤ ls.length ∧ i = .int .i64 k ∧ OwnCross wr w.heap.size (.slice (some ⟨w.heap.size, 0, none⟩) ls.length ls.length) (ls.take k ++ List.replicate (ls.length - k) RCross.zero) ∧ Below w.heap.size w wr) (fun i _ => ls.length - (intOf i).toNat)
  case atStart => exact ⟨0, by omega, rfl, own0, b1⟩
  case round =>
    obtain ⟨k, hk, rfl, hown, hbel⟩ := hrel
    by_cases hlt : k < ls.length
    · have hk0 : (0 : Int) ≤ (k : Int) := by omega
      have hk1 : (k : Int) < (ls.length : Int) := by omega
      obtain ⟨x, rfl, hx⟩ : ∃ x, a = some x ∧ ∀ k (h : k < ls.length) j v, ls[k].cells[j]? = some v → w.cell? (x.add (k * 2 + j)) = some v := by
        rcases HA.out with ⟨_, h0⟩ | h1
        · rw [h0] at hlt
          simp at hlt
        · exact h1
      obtain ⟨c0, c1⟩ := argCross_cells hx hlt
      have c0 := (hbel.cell (World.block_lt_of_cell? w _ c0)).trans c0
      have c1 := (hbel.cell (World.block_lt_of_cell? w _ c1)).trans c1
      have hlen : (ls.take k ++ List.replicate (ls.length - k) RCross.zero).length = ls.length := by simp; omega
      have OWN := Lib.hid hown
      have hbs := hbel.size
      clear hown
      go_wp2_with fail
      refine (toCross_any _ _ _).mono ?_
      rintro e w2 ⟨rfl, b2⟩
      have own2 := OWN.out.kept (grown_of_below b2 none) (.inr (by simp [Value.ownBlock]))
      obtain ⟨⟨y0, t0⟩, ⟨y1, t1⟩, f0, f1⟩ := thereCross (own2.there (k := k) (by rw [hlen]; exact hlt))
      have st := own2.set hlen.symm k ls[k]
      rw [copiedCross ls k hlt] at st
      have ST := Lib.hid st
      clear own2 st OWN hlen
      go_wp2
      exact ⟨⟨k + 1, by omega, by go_num, ST.out.1, (hbel.trans (b2.mono hbs)).grown ST.out.2 (by have := b2.size; omega) (by simp)⟩, by simp [intOf]; omega⟩
    · have hke : k = ls.length := by omega
      subst hke
      have hfin : OwnCross wr w.heap.size (.slice (some ⟨w.heap.size, 0, none⟩) ls.length ls.length) ls := by simpa using hown
      go_wp2
      go_ret
      exact ⟨_, rfl, hfin, hbel⟩

theorem szCrossS_in (a : Option Addr) (n cap : Nat) (left : Int) (w : World) (h0 : 0 ≤ left) (h1 : left ≤ 1048576) (h : (n : Int) ≤ left) :
    Calls Try.prog 25 #[.slice a n cap, .int .i64 left] w fun e w' => e = .returned (.int .i64 (left - n)) ∧ w = w' := by
  have e1 : IntKind.i64.wrap (left - n) = left - n := IntWalk.i64_in _ (by omega)
  have h2 : ¬ left - (n : Int) < 0 := by omega
  go_enter Try.func25, Try.ntmps25
  go_wp2
  go_ret
  exact ⟨rfl, rfl⟩
theorem szCrossS_out (a : Option Addr) (n cap : Nat) (left : Int) (w : World) (h0 : 0 ≤ left) (h1 : left ≤ 1048576) (h : left < (n : Int)) (hm : n ≤ 9223372036854775807) :
    Calls Try.prog 25 #[.slice a n cap, .int .i64 left] w fun e w' => e = .returned (.int .i64 (-1)) ∧ w = w' := by
  have e1 : IntKind.i64.wrap (left - n) = left - n := IntWalk.i64_in _ (by omega)
  have h2 : left - (n : Int) < 0 := by omega
  go_enter Try.func25, Try.ntmps25
  go_wp2
  go_ret
  exact ⟨rfl, rfl⟩

theorem eqCross_same (x0 : Int) (x1 : Bool) (w : World) :
    Calls Try.prog 49 #[.agg #[.int .i64 x0, .bool x1], .agg #[.int .i64 x0, .bool x1]] w fun e w' => e = .returned (.bool true) ∧ Below w.heap.size w w' := by
  go_enter Try.func49, Try.ntmps49
  go_wp2
  go_ret
  exact ⟨rfl, ((Below.refl w.heap.size w).alloc (Nat.le_refl _) _).alloc (by simp) _⟩

set_option maxHeartbeats 800000 in
theorem eqCrossS_same (v1 v2 : Value) (ls : List RCross) (b1 b2 : Nat) (w : World) (h1 : OwnCross w b1 v1 ls) (h2 : OwnCross w b2 v2 ls) (hl : ls.length ≤ 2000000) :
    Calls Try.prog 22 #[v1, v2] w fun e w' => e = .returned (.bool true) ∧ Below w.heap.size w w' := by
  obtain ⟨A1, c1, rfl⟩ := h1.slice
  obtain ⟨A2, c2, rfl⟩ := h2.slice
  have H1 := Lib.hid h1
  have H2 := Lib.hid h2
  clear h1 h2
  go_enter Try.func22, Try.ntmps22
  go_wp2
  go_loopw [5] (fun i wr => ∃ (k : Nat), k ≤ ls.length ∧ i = .int .i64 k ∧ Below w.heap.size w wr) (fun i _ => ls.length - (intOf i).toNat)
  case atStart => exact ⟨0, by omega, rfl, Below.refl _ _⟩
  case round =>
    obtain ⟨k, hk, rfl, hb⟩ := hrel
    by_cases hlt : k < ls.length
    · obtain ⟨g1, d1, e1, _, l1, r1, _⟩ := H1.out.spot hlt
      obtain ⟨g2, d2, e2, _, l2, r2, _⟩ := H2.out.spot hlt
      simp only [Value.slice.injEq] at e1 e2
      obtain ⟨rfl, -, rfl⟩ := e1
      obtain ⟨rfl, -, rfl⟩ := e2
      have hk0 : (0 : Int) ≤ (k : Int) := by omega
      have hk1 : (k : Int) < (ls.length : Int) := by omega
      have r1 := r1.below hb l1
      have r2 := r2.below hb l2
      have C := Lib.hid (fun W => eqCross_same ls[k].f0 ls[k].f1 W)
      have lw := hb.size
      go_wp2_with fail
      have six := bothCross_cells r1 r2
      go_region_held3 (fun w' => w'.cell? ⟨g1, k * 2, none⟩ = some (.int .i64 ls[k].f0) ∧ w'.cell? ⟨g1, k * 2 + 1, none⟩ = some (.bool ls[k].f1) ∧ w'.cell? ⟨g2, k * 2, none⟩ = some (.int .i64 ls[k].f0) ∧ w'.cell? ⟨g2, k * 2 + 1, none⟩ = some (.bool ls[k].f1)) (first | exact six | assumption | exact bothCross_below (by assumption) hbq) (first | (go_at_call 49; refine (C.out _).mono ?_; rintro e w' ⟨rfl, hbq⟩))
      go_wp2
      exact ⟨⟨k + 1, by omega, by go_num, hb.drew.trans (hbq.mono hb.size)⟩, by simp [intOf]; omega⟩
    · go_wp2
      go_ret
      exact ⟨rfl, hb⟩

/-- n structs marked from number u on. -/
def markCross (u n : Nat) : List RCross := (List.range n).map fun k => ⟨((u + 2 * k : Nat) : Int), (decide (((u + 2 * k + 1 : Nat) : Int) % 3 = 0))⟩
theorem markCross_len (u n : Nat) : (markCross u n).length = n := by simp [markCross]
theorem markCross_at (u n k : Nat) (h : k < n) : (markCross u n)[k]'(by rw [markCross_len]; exact h) = ⟨((u + 2 * k : Nat) : Int), (decide (((u + 2 * k + 1 : Nat) : Int) % 3 = 0))⟩ := by simp [markCross]
theorem markCross_set (u : Nat) (ls : List RCross) (k : Nat) (h : k < ls.length) :
    (markCross u k ++ ls.drop k).set k ⟨((u + 2 * k : Nat) : Int), (decide (((u + 2 * k + 1 : Nat) : Int) % 3 = 0))⟩ = markCross u (k + 1) ++ ls.drop (k + 1) := by
  rw [List.drop_eq_getElem_cons h, List.set_append_right _ _ (by simp [markCross_len]), markCross_len, Nat.sub_self, List.set_cons_zero]
  unfold markCross
  simp only [List.range_succ, List.map_append, List.map_cons, List.map_nil, List.append_assoc, List.cons_append, List.nil_append]

set_option maxHeartbeats 800000 in
theorem markCrossS_at (v : Value) (ls : List RCross) (base : Nat) (w : World) (hown : OwnCross w base v ls) (hl : ls.length ≤ 2000000) (u : Nat) (k : Int) (hk : k = (u : Int)) (h1 : u ≤ 10000000) :
    Calls Try.prog 23 #[v, .int .i64 k] w fun e w' => e = .returned (.int .i64 ((u + 2 * ls.length : Nat) : Int)) ∧ OwnCross w' base v (markCross u ls.length) ∧ w.grownBy w' v.ownBlock := by
  subst hk
  obtain ⟨A, c, rfl⟩ := hown.slice
  have HH := Lib.hid hown
  clear hown
  go_enter Try.func23, Try.ntmps23
  go_wp2
  go_loopw [1, 5] (fun kv i wr => ∃ k : Nat, k ≤ ls.length ∧ i = .int .i64 k ∧ kv = .int .i64 ((u + 2 * k : Nat) : Int) ∧ OwnCross wr base (.slice A ls.length c) (markCross u k ++ ls.drop k) ∧ w.grownBy wr (Value.slice A ls.length c).ownBlock) (fun _ i _ => ls.length - (intOf i).toNat)
  case atStart => exact ⟨0, by omega, rfl, rfl, (by simpa [markCross] using HH.out), World.grownBy.refl w _⟩
  case round =>
    obtain ⟨k, hk, rfl, rfl, hown, hg⟩ := hrel
    have hlen : (markCross u k ++ ls.drop k).length = ls.length := by simp [markCross_len]; omega
    by_cases hlt : k < ls.length
    · obtain ⟨g, c', e1, _, _, rg, th⟩ := hown.spot (k := k) (by rw [hlen]; exact hlt)
      simp only [Value.slice.injEq] at e1
      obtain ⟨rfl, hloop, rfl⟩ := e1
      clear hloop
      obtain ⟨⟨y0, t0⟩, ⟨y1, t1⟩, f0, f1⟩ := thereCross th
      have st := hown.set hlen.symm k ⟨((u + 2 * k : Nat) : Int), (decide (((u + 2 * k + 1 : Nat) : Int) % 3 = 0))⟩
      rw [markCross_set u ls k hlt] at st
      have ST := Lib.hid st
      have hk0 : (0 : Int) ≤ (k : Int) := by omega
      have hk1 : (k : Int) < (ls.length : Int) := by omega
      clear rg st hown hlen th
      go_wp2
      exact ⟨⟨k + 1, by omega, by go_num, by go_num, ST.out.1, grown_then hg ST.out.2⟩, by simp [intOf]; omega⟩
    · have hke : k = ls.length := by omega
      subst hke
      have hfin : OwnCross wr base (.slice A ls.length c) (markCross u ls.length) := by simpa using hown
      go_wp2
      go_ret
      exact ⟨rfl, hfin, hg⟩
end Go.Proofs.Ythijfipjfdmoeaa
