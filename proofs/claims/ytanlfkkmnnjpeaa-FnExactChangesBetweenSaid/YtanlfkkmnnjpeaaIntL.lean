/- The contracts of laws.eqIntS, markIntS and heldIntS. Condition: the numbers lie in rows of their own. -/
import Derived.Test.YtanlfkkmnnjpeaaIntR
namespace Go.Proofs.Ytanlfkkmnnjpeaa
set_option linter.unusedVariables false
set_option linter.unusedSimpArgs false
open Go.RowKit

set_option maxHeartbeats 400000 in
theorem eqIntS_same (v1 v2 : Value) (zs : List Int) (b1 b2 : Nat) (w : World) (h1 : OwnI w b1 v1 zs) (h2 : OwnI w b2 v2 zs) (hl : zs.length ≤ 2000000) :
    Calls Try.prog 30 #[v1, v2] w fun e w' => e = .returned (.bool true) ∧ Below w.heap.size w w' := by
  obtain ⟨A1, c1, e1⟩ := h1.slice
  obtain ⟨A2, c2, e2⟩ := h2.slice
  subst e1 e2
  have H1 := Lib.hid h1
  have H2 := Lib.hid h2
  clear h1 h2
  go_enter Try.func30, Try.ntmps30
  go_wp2
  go_loopw [5] (fun i wr => ∃ (k : Nat), k ≤ zs.length ∧ i = .int .i64 k ∧ Below w.heap.size w wr) (fun i _ => zs.length - (intOf i).toNat)
  case atStart => exact ⟨0, by omega, rfl, Below.refl _ _⟩
  case round =>
    obtain ⟨k, hk, rfl, hb⟩ := hrel
    by_cases hlt : k < zs.length
    · obtain ⟨g1, d1, e1, _, l1, r1, _⟩ := H1.out.spot hlt
      obtain ⟨g2, d2, e2, _, l2, r2, _⟩ := H2.out.spot hlt
      simp only [Value.slice.injEq] at e1 e2
      obtain ⟨rfl, _, rfl⟩ := e1
      obtain ⟨rfl, _, rfl⟩ := e2
      have hk0 : (0 : Int) ≤ (k : Int) := by omega
      have hk1 : (k : Int) < (zs.length : Int) := by omega
      replace r1 := (hb.cell l1).trans r1
      replace r2 := (hb.cell l2).trans r2
      go_wp2
      go_quiet (fail)
      go_wp2
      exact ⟨⟨k + 1, by omega, by go_num, hb.trans (below_drewN (Below.refl _ _) _)⟩, by simp [intOf]; omega⟩
    · go_wp2
      go_ret
      exact ⟨rfl, hb⟩

/-- n numbers from u on. -/
def marksI (u n : Nat) : List Int := (List.range n).map fun j => ((u + j : Nat) : Int)
theorem marksI_len (u n : Nat) : (marksI u n).length = n := by simp [marksI]
theorem marksI_at (u n k : Nat) (h : k < n) : (marksI u n)[k]'(by rw [marksI_len]; exact h) = ((u + k : Nat) : Int) := by simp [marksI]
theorem marksI_set (u : Nat) (zs : List Int) (k : Nat) (h : k < zs.length) : (marksI u k ++ zs.drop k).set k ((u + k : Nat) : Int) = marksI u (k + 1) ++ zs.drop (k + 1) := by
  rw [List.drop_eq_getElem_cons h, List.set_append_right _ _ (by simp [marksI_len]), marksI_len, Nat.sub_self, List.set_cons_zero]
  unfold marksI
  simp only [List.range_succ, List.map_append, List.map_cons, List.map_nil, List.append_assoc, List.cons_append, List.nil_append]

set_option maxHeartbeats 400000 in
theorem markIntS_any (v : Value) (zs : List Int) (base : Nat) (w : World) (hown : OwnI w base v zs) (hl : zs.length ≤ 2000000) (u : Nat) (h1 : u ≤ 10000000) :
    Calls Try.prog 32 #[v, .int .i64 (u : Int)] w fun e w' => e = .returned (.int .i64 ((u + zs.length : Nat) : Int)) ∧ OwnI w' base v (marksI u zs.length) ∧ w.grownBy w' v.ownBlock := by
  obtain ⟨A, c, e⟩ := hown.slice
  subst e
  have H := Lib.hid hown
  clear hown
  go_enter Try.func32, Try.ntmps32
  go_wp2
  go_loopw [1, 5] (fun kv i wr => ∃ k : Nat, k ≤ zs.length ∧ i = .int .i64 k ∧ kv = .int .i64 ((u + k : Nat) : Int) ∧ OwnI wr base (.slice A zs.length c) (marksI u k ++ zs.drop k) ∧ w.grownBy wr (Value.slice A zs.length c).ownBlock) (fun _ i _ => zs.length - (intOf i).toNat)
  case atStart => exact ⟨0, by omega, rfl, rfl, (by simpa [marksI] using H.out), World.grownBy.refl w _⟩
  case round =>
    obtain ⟨k, hk, rfl, rfl, hown, hg⟩ := hrel
    have hlen : (marksI u k ++ zs.drop k).length = zs.length := by simp [marksI_len]; omega
    by_cases hlt : k < zs.length
    · obtain ⟨g, c', e1, _, _, rg, f0⟩ := hown.spot (k := k) (by rw [hlen]; exact hlt)
      simp only [Value.slice.injEq] at e1
      obtain ⟨rfl, hloop, rfl⟩ := e1
      clear hloop
      obtain ⟨xk, hxk⟩ : ∃ xk : Value, wr.cell? ⟨g, k, none⟩ = some xk := ⟨_, rg⟩
      have st := hown.set hlen.symm k ((u + k : Nat) : Int)
      rw [marksI_set u zs k hlt] at st
      have ST := Lib.hid st
      have hk0 : (0 : Int) ≤ (k : Int) := by omega
      have hk1 : (k : Int) < (zs.length : Int) := by omega
      clear rg st hown hlen
      go_wp2
      exact ⟨⟨k + 1, by omega, by go_num, by go_num, ST.out.1, grown_then hg ST.out.2⟩, by simp [intOf]; omega⟩
    · have hke : k = zs.length := by omega
      subst hke
      have hfin : OwnI wr base (.slice A zs.length c) (marksI u zs.length) := by simpa using hown
      go_wp2
      go_ret
      exact ⟨rfl, hfin, hg⟩

set_option maxHeartbeats 400000 in
theorem heldIntS_any (v : Value) (n : Nat) (base : Nat) (w : World) (u : Nat) (hown : OwnI w base v (marksI u n)) (hl : n ≤ 2000000) (h1 : u ≤ 10000000) :
    Calls Try.prog 59 #[v, .int .i64 (u : Int)] w fun e w' => e = .returned (.int .i64 ((u + n : Nat) : Int)) ∧ Below w.heap.size w w' := by
  obtain ⟨A, c, e⟩ := hown.slice
  rw [marksI_len] at e
  subst e
  have H := Lib.hid hown
  clear hown
  go_enter Try.func59, Try.ntmps59
  go_wp2
  go_loopw [1, 5] (fun kv i wr => ∃ k : Nat, k ≤ n ∧ i = .int .i64 k ∧ kv = .int .i64 ((u + k : Nat) : Int) ∧ Below w.heap.size w wr) (fun _ i _ => n - (intOf i).toNat)
  case atStart => exact ⟨0, by omega, rfl, rfl, Below.refl _ _⟩
  case round =>
    obtain ⟨k, hk, rfl, rfl, hb⟩ := hrel
    by_cases hlt : k < n
    · obtain ⟨g, c', e1, _, l1, rg, _⟩ := H.out.spot (k := k) (by rw [marksI_len]; exact hlt)
      rw [marksI_at u n k hlt] at rg
      simp only [Value.slice.injEq] at e1
      obtain ⟨rfl, hloop, rfl⟩ := e1
      clear hloop
      replace rg := (hb.cell l1).trans rg
      have hk0 : (0 : Int) ≤ (k : Int) := by omega
      have hk1 : (k : Int) < (n : Int) := by omega
      go_wp2
      exact ⟨⟨k + 1, by omega, by go_num, by go_num, hb⟩, by simp [intOf]; omega⟩
    · have hke : k = n := by omega
      subst hke
      go_wp2
      go_ret
      exact ⟨rfl, hb⟩

end Go.Proofs.Ytanlfkkmnnjpeaa
