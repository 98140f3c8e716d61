/- The contracts of laws.has and laws.at. Condition: the numbers lie in a row of their own; the bytes can be read. -/
import Derived.Test.YtgmcinnajhbgfaaInts
import Derived.Test.YtgmcinnajhbgfaaDraw
namespace Go.Proofs.Ytgmcinnajhbgfaa
open Go.RowKit

def hasL (zs : List Int) (j : Int) : Bool := decide (j ∈ zs)
theorem hasL_drop {zs : List Int} {j : Int} {k : Nat} (h : k < zs.length) : hasL (zs.drop k) j = (decide (zs[k] = j) || hasL (zs.drop (k + 1)) j) := by
  unfold hasL
  rw [List.drop_eq_getElem_cons h, Bool.eq_iff_iff, decide_eq_true_iff, List.mem_cons, Bool.or_eq_true, decide_eq_true_iff, decide_eq_true_iff]
  exact ⟨fun x => x.imp (fun e => e.symm) id, fun x => x.imp (fun e => e.symm) id⟩
set_option maxHeartbeats 400000 in
theorem has_any (v : Value) (zs : List Int) (j : Int) (base : Nat) (w : World) (hown : OwnI w base v zs) (hl : zs.length ≤ 2000000) :
    Calls Try.prog 14 #[v, .int .i64 j] w fun e w' => e = .returned (.bool (hasL zs j)) ∧ w' = w := by
  obtain ⟨A, c, e⟩ := hown.slice
  subst e
  have OWN := Lib.hid hown
  clear hown
  go_enter Try.func14, Try.ntmps14
  go_wp2
  go_loop [5] (fun i => ∃ k : Nat, k ≤ zs.length ∧ i = .int .i64 (k : Int) ∧ Hid (hasL (zs.drop k) j = hasL zs j)) (fun i => zs.length - (intOf i).toNat)
  case atStart => exact ⟨0, by omega, rfl, rfl⟩
  case round =>
    obtain ⟨k, hk, rfl, hd⟩ := hrel
    by_cases hlt : k < zs.length
    · obtain ⟨g, c', e1, _, lg, rg, _⟩ := OWN.out.spot hlt
      simp only [Value.slice.injEq] at e1
      obtain ⟨rfl, hloop, rfl⟩ := e1
      clear hloop
      have hk0 : (0 : Int) ≤ (k : Int) := by omega
      have hk1 : (k : Int) < (zs.length : Int) := by omega
      have HD := Lib.hid (hd.out ▸ hasL_drop (j := j) hlt)
      clear hd
      generalize zs[k] = x at rg HD
      by_cases hx : x = j
      · have HR := Lib.hid (show hasL zs j = true by rw [HD.out, decide_eq_true hx]; rfl)
        subst hx
        clear HD
        go_wp2
        go_ret
        exact ⟨by rw [HR.out]; rfl, rfl⟩
      · have HR := Lib.hid (show hasL (zs.drop (k + 1)) j = hasL zs j by rw [HD.out, decide_eq_false hx]; rfl)
        have hxb : (x == j) = false := by simpa using hx
        clear HD hx
        go_wp2
        go_round
        case rel => exact ⟨k + 1, by omega, by go_num, HR.out⟩
        case measure => simp [intOf]; omega
    · obtain rfl : k = zs.length := by omega
      have HR := Lib.hid (show hasL zs j = false by rw [← hd.out, List.drop_length]; rfl)
      clear hd
      go_wp2
      go_ret
      exact ⟨by rw [HR.out]; rfl, rfl⟩

set_option maxHeartbeats 400000 in
theorem at_any (a : Option Addr) (n cap : Nat) (z : List Int) (w w' : World) (hr : IsRow .u8 w a n cap z) (hb : Below w.heap.size w w') (i : Nat) (hi : i ≤ 1000) (hn : n ≤ 1048576) :
    Calls Try.prog 16 #[.slice a n cap, .int .i64 (i : Int)] w' fun e w'' => ∃ x : Int, e = .returned (.int .i64 x) ∧ (0 ≤ x ∧ x < 256) ∧ w'' = w' := by
  by_cases h0 : n = 0
  · subst h0
    go_enter Try.func16, Try.ntmps16
    go_wp2
    go_ret
    exact ⟨0, rfl, by omega, rfl⟩
  · have hlt : (i * 5 + 1) % n < n := Nat.mod_lt _ (by omega)
    obtain ⟨xb, xo, v, rfl, hv, hv0, hv1, hxb⟩ := row_at hr hlt
    have hc := (hb.cell (p := ⟨xb, xo + (i * 5 + 1) % n, none⟩) hxb).trans hv
    have hne : ((n : Int) == 0) = false := by simp; omega
    have hp : (0 : Int) < (n : Int) := by omega
    have hm : ((i : Int) * 5 + 1) % (n : Int) = (((i * 5 + 1) % n : Nat) : Int) := by simp
    have hq0 : (0 : Int) ≤ (((i * 5 + 1) % n : Nat) : Int) := by omega
    have hq1 : (((i * 5 + 1) % n : Nat) : Int) < (n : Int) := by omega
    clear hr hb hv hlt
    generalize (i * 5 + 1) % n = q at hc hm hq0 hq1
    go_enter Try.func16, Try.ntmps16
    go_wp2
    go_ret
    exact ⟨v, rfl, by omega, rfl⟩
end Go.Proofs.Ytgmcinnajhbgfaa
