/- The marks that the exact laws write into a result, and the contracts of the functions that compare, mark and look at rows of texts. Condition: the rows are the call's own. -/
import Derived.Test.YtmcdjppppnmomaaDig
import Derived.Test.YtmcdjppppnmomaaSpW0
import Derived.BigQuiet
import Derived.Deep.QuietTactic
import Derived.Deep.RegionHeld3
namespace Go.Proofs.Ytmcdjppppnmomaa
open Go.RowKit

/-- The mark of number k: the letter m, then k in decimal. -/
def markL (k : Nat) : List UInt8 := 109 :: Lib.decDigits k

set_option maxHeartbeats 400000 in
theorem markText_any (u : Nat) (w : World) (h0 : 0 < u) (h1 : u ≤ 9223372036854775807) :
    Calls Try.prog 29 #[.int .i64 (u : Int)] w fun e w' => e = .returned (strV (markL u)) ∧ Below w.heap.size w w' := by
  go_enter Try.func29, Try.ntmps29
  go_wp2
  go_loopw [0, 3] (fun nv sv wr => ∃ (m : Nat) (l : List UInt8), m ≤ u ∧ nv = .int .i64 m ∧ sv = .string ⟨l.toArray⟩ ∧ Hid (preD m ++ l = Lib.decDigits u) ∧ Below w.heap.size w wr) (fun nv _ _ => (intOf nv).toNat)
  case atStart => exact ⟨u, [], by omega, rfl, rfl, (by show preD u ++ [] = _; unfold preD; rw [if_neg (by omega), List.append_nil]), Below.refl _ _⟩
  case round =>
    obtain ⟨m, l, hm, rfl, rfl, hl, hb⟩ := hrel
    have hll := pre_len hl.out (by omega)
    have hcat := str_cons
    by_cases hm0 : 0 < m
    · obtain ⟨c, hcE, hc⟩ := conv_digit wr m
      have hsz := hb.size
      go_wp2
      exact ⟨⟨m / 10, c :: l, by omega, by go_num, str_cons c l ▸ rfl, pre_step hm0 hcE.out hl.out, hb.alloc hsz _⟩, by simp [intOf]; omega⟩
    · have hme : m = 0 := by omega
      subst hme
      have he := hl.out
      simp [preD] at he
      subst he
      go_wp2
      go_ret
      exact ⟨rfl, hb⟩

theorem eqStringS_same (v1 v2 : Value) (fs : List (List UInt8)) (b1 b2 : Nat) (w : World) (h1 : OwnS w b1 v1 fs) (h2 : OwnS w b2 v2 fs) (hl : fs.length ≤ 1000000) :
    Calls Try.prog 17 #[v1, v2] w fun e w' => e = .returned (.bool true) ∧ ∃ n, w' = w.drewN n := by
  obtain ⟨A1, c1, e1⟩ := slice_own h1
  obtain ⟨A2, c2, e2⟩ := slice_own h2
  subst e1 e2
  have H1 := Lib.hid h1
  have H2 := Lib.hid h2
  clear h1 h2
  go_enter Try.func17, Try.ntmps17
  go_wp2
  go_loopw [5] (fun i wr => ∃ (k q : Nat), k ≤ fs.length ∧ i = .int .i64 k ∧ wr = w.drewN q) (fun i _ => fs.length - (intOf i).toNat)
  case atStart => exact ⟨0, 0, by omega, rfl, rfl⟩
  case round =>
    obtain ⟨k, q, hk, rfl, rfl⟩ := hrel
    by_cases hlt : k < fs.length
    · obtain ⟨g1, d1, e1, _, hc1, _⟩ := ownS_at H1.out hlt
      obtain ⟨g2, d2, e2, _, hc2, _⟩ := ownS_at H2.out hlt
      simp only [Value.slice.injEq] at e1 e2
      obtain ⟨rfl, _, _⟩ := e1
      obtain ⟨rfl, _, _⟩ := e2
      unfold strV at hc1 hc2
      generalize (⟨fs[k].toArray⟩ : ByteArray) = t at hc1 hc2
      have hk0 : (0 : Int) ≤ (k : Int) := by omega
      have hk1 : (k : Int) < (fs.length : Int) := by omega
      go_wp2
      go_quiet (fail)
      go_wp2
      exact ⟨⟨k + 1, q + nq, by omega, by go_num, rfl⟩, by simp [intOf]; omega⟩
    · go_wp2
      go_ret
      exact ⟨rfl, q, rfl⟩

/-- n marks from number u on. -/
def marks (u n : Nat) : List (List UInt8) := (List.range n).map fun j => markL (u + j)
theorem marks_len (u n : Nat) : (marks u n).length = n := by simp [marks]
theorem marks_at (u n k : Nat) (h : k < n) : (marks u n)[k]'(by rw [marks_len]; exact h) = markL (u + k) := by simp [marks]

theorem marks_set (u : Nat) (fs : List (List UInt8)) (k : Nat) (h : k < fs.length) :
    ((marks u k ++ fs.drop k).map strV).set k (strV (markL (u + k))) = (marks u (k + 1) ++ fs.drop (k + 1)).map strV := by
  rw [List.drop_eq_getElem_cons h, List.map_append, List.map_cons, List.set_append_right _ _ (by simp [marks_len])]
  rw [List.length_map, marks_len, Nat.sub_self, List.set_cons_zero]
  unfold marks
  simp only [List.range_succ, List.map_append, List.map_cons, List.map_nil, List.append_assoc, List.cons_append, List.nil_append]

theorem grown_then {a b c : World} {row : Option Nat} (h : a.grownBy b row) (k : b.grownBy c row) : a.grownBy c row :=
  ⟨k.os.trans h.os, k.tape.trans h.tape, k.output.trans h.output, Nat.le_trans h.size k.size, fun i hi hne => (k.block i (Nat.lt_of_lt_of_le hi h.size) hne).trans (h.block i hi hne)⟩

set_option maxRecDepth 100000 in
set_option maxHeartbeats 400000 in
theorem markStringS_any (v : Value) (fs : List (List UInt8)) (base : Nat) (w : World) (hown : OwnS w base v fs) (hl : fs.length ≤ 1000000) (u : Nat) (h0 : 0 < u) (h1 : u ≤ 1000000) :
    Calls Try.prog 18 #[v, .int .i64 (u : Int)] w fun e w' => e = .returned (.int .i64 ((u + fs.length : Nat) : Int)) ∧ OwnS w' base v (marks u fs.length) ∧ w.grownBy w' v.ownBlock := by
  obtain ⟨A, c, e⟩ := slice_own hown
  subst e
  have H := Lib.hid hown
  clear hown
  go_enter Try.func18, Try.ntmps18
  go_wp2
  go_loopw [1, 5] (fun kv i wr => ∃ k : Nat, k ≤ fs.length ∧ i = .int .i64 k ∧ kv = .int .i64 ((u + k : Nat) : Int) ∧ OwnS wr base (.slice A fs.length c) (marks u k ++ fs.drop k) ∧ w.grownBy wr (Value.slice A fs.length c).ownBlock) (fun _ i _ => fs.length - (intOf i).toNat)
  case atStart => exact ⟨0, by omega, rfl, rfl, (by simpa [marks] using H.out), World.grownBy.refl w _⟩
  case round =>
    obtain ⟨k, hk, rfl, rfl, hown, hg⟩ := hrel
    have hlen : (marks u k ++ fs.drop k).length = fs.length := by simp [marks_len]; omega
    by_cases hlt : k < fs.length
    · go_wp2_with fail
      refine (markText_any (u + k) wr (by omega) (by omega)).mono ?_
      rintro e w1 ⟨rfl, b1⟩
      have own1 : OwnS w1 base (.slice A fs.length c) (marks u k ++ fs.drop k) := World.ownsRow.kept hown (grown_of_below b1 none) (by cases (Value.slice A fs.length c).ownBlock <;> simp)
      obtain ⟨g, c', e1, _, hc1, hf1⟩ := ownS_at own1 (k := k) (by rw [hlen]; exact hlt)
      simp only [Value.slice.injEq] at e1
      obtain ⟨rfl, hloop, rfl⟩ := e1
      clear hloop
      obtain ⟨xk, hxk⟩ : ∃ xk : Value, w1.cell? ⟨g, k, none⟩ = some xk := ⟨_, hc1⟩
      have hst := World.ownsRow.stored (by unfold OwnS at own1; rw [hlen] at own1; exact own1) k (strV (markL (u + k)))
      rw [marks_set u fs k hlt] at hst
      have HST := Lib.hid hst
      have hmk : ∃ t : ByteArray, strV (markL (u + k)) = .string t := ⟨_, rfl⟩
      have hk0 : (0 : Int) ≤ (k : Int) := by omega
      have hk1 : (k : Int) < (fs.length : Int) := by omega
      have B1 := Lib.hid b1
      clear hst hc1 hown own1 hlen b1
      obtain ⟨t, ht⟩ := hmk
      rw [ht]
      rw [ht] at HST
      clear ht
      go_wp2
      have hlen : (marks u (k + 1) ++ fs.drop (k + 1)).length = fs.length := by simp [marks_len]; omega
      have hno : OwnS (w1.setCell ⟨g, k, none⟩ (.string t)) base (.slice (some ⟨g, 0, none⟩) fs.length c) (marks u (k + 1) ++ fs.drop (k + 1)) := by
        unfold OwnS
        rw [hlen]
        exact HST.out.1
      exact ⟨⟨k + 1, by omega, by go_num, by go_num, hno, grown_then (grown_then hg (grown_of_below B1.out _)) HST.out.2⟩, by simp [intOf]; omega⟩
    · have hke : k = fs.length := by omega
      subst hke
      have hfin : OwnS wr base (.slice A fs.length c) (marks u fs.length) := by simpa using hown
      go_wp2
      go_ret
      exact ⟨rfl, hfin, hg⟩

set_option maxRecDepth 100000 in
set_option maxHeartbeats 400000 in
theorem heldStringS_any (v : Value) (n : Nat) (base : Nat) (w : World) (u : Nat) (hown : OwnS w base v (marks u n)) (hl : n ≤ 1000000) (h0 : 0 < u) (h1 : u ≤ 1000000) :
    Calls Try.prog 19 #[v, .int .i64 (u : Int)] w fun e w' => e = .returned (.int .i64 ((u + n : Nat) : Int)) ∧ Below w.heap.size w w' := by
  obtain ⟨A, c, e⟩ := slice_own hown
  rw [marks_len] at e
  subst e
  have H := Lib.hid hown
  clear hown
  go_enter Try.func19, Try.ntmps19
  go_wp2
  go_loopw [1, 5] (fun kv i wr => ∃ k : Nat, k ≤ n ∧ i = .int .i64 k ∧ kv = .int .i64 ((u + k : Nat) : Int) ∧ Below w.heap.size w wr) (fun _ i _ => n - (intOf i).toNat)
  case atStart => exact ⟨0, by omega, rfl, rfl, Below.refl _ _⟩
  case round =>
    obtain ⟨k, hk, rfl, rfl, hb⟩ := hrel
    by_cases hlt : k < n
    · have C := Lib.hid (fun W => markText_any (u + k) W (by omega) (by omega))
      obtain ⟨g, c', e1, _, hc1, _⟩ := ownS_at H.out (k := k) (by rw [marks_len]; exact hlt)
      rw [marks_at u n k hlt] at hc1
      simp only [Value.slice.injEq] at e1
      obtain ⟨rfl, hloop, rfl⟩ := e1
      clear hloop
      obtain ⟨t, ht⟩ : ∃ t : ByteArray, strV (markL (u + k)) = .string t := ⟨_, rfl⟩
      rw [ht] at hc1
      rw [ht] at C
      clear ht
      have hcr : wr.cell? ⟨g, k, none⟩ = some (.string t) := (hb.cell (World.block_lt_of_cell? w _ hc1)).trans hc1
      have hk0 : (0 : Int) ≤ (k : Int) := by omega
      have hk1 : (k : Int) < (n : Int) := by omega
      have hgl : g < wr.heap.size := World.block_lt_of_cell? wr _ hcr
      clear hc1
      go_wp2
      go_region_held3 (fun w' => w'.cell? ⟨g, k, none⟩ = some (.string t)) (first | assumption | exact (hbq.cell hgl).trans hcr) (first | (go_at_call 29; refine (C.out _).mono ?_; rintro e w' ⟨rfl, hbq⟩))
      go_wp2
      exact ⟨⟨k + 1, by omega, by go_num, by go_num, hb.drew.trans (hbq.mono hb.size)⟩, by simp [intOf]; omega⟩
    · have hke : k = n := by omega
      subst hke
      go_wp2
      go_ret
      exact ⟨rfl, hb⟩
end Go.Proofs.Ytmcdjppppnmomaa
