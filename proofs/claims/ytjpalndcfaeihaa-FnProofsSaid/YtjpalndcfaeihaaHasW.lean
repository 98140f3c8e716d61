/- The contract of laws.has. Condition: the numbers lie in a row of their own. -/
import Derived.Test.YtjpalndcfaeihaaIntR
namespace Go.Proofs.Ytjpalndcfaeihaa
set_option linter.unusedVariables false
open Go.RowKit

def hasL (zs : List Int) (j : Int) : Bool := decide (j ∈ zs)
theorem hasL_drop {zs : List Int} {j : Int} {k : Nat} (h : k < zs.length) : hasL (zs.drop k) j = (decide (zs[k] = j) || hasL (zs.drop (k + 1)) j) := by
  unfold hasL
  rw [List.drop_eq_getElem_cons h, Bool.eq_iff_iff, decide_eq_true_iff, List.mem_cons, Bool.or_eq_true, decide_eq_true_iff, decide_eq_true_iff]
  exact ⟨fun x => x.imp (fun e => e.symm) id, fun x => x.imp (fun e => e.symm) id⟩
set_option maxHeartbeats 400000 in
theorem has_any (v : Value) (zs : List Int) (j : Int) (base : Nat) (w : World) (hown : OwnI w base v zs) (hl : zs.length ≤ 2000000) :
    Calls Try.prog 16 #[v, .int .i64 j] w fun e w' => e = .returned (.bool (hasL zs j)) ∧ w' = w := by
  obtain ⟨A, c, e⟩ := hown.slice
  subst e
  have OWN := Lib.hid hown
  clear hown
  go_enter Try.func16, Try.ntmps16
  go_wp2
  go_loop [5] (fun i => ∃ k : Nat, k ≤ zs.length ∧ i = .int .i64 (k : Int) ∧ Hid (hasL (zs.drop k) j = hasL zs j)) (fun i => zs.length - (intOf i).toNat)
  case atStart => exact ⟨0, by omega, rfl, rfl⟩
  case round =>
    obtain ⟨k, hk, rfl, hd⟩ := hrel
    by_cases hlt : k < zs.length
    · obtain ⟨g, c', e1, _, lg, rg, _⟩ := OWN.out.spot hlt
      simp only [Value.slice.injEq] at e1
      obtain ⟨rfl, hloop, rfl⟩ := e1
      clear hloop
      have hk0 : (0 : Int) ≤ (k : Int) := by omega
      have hk1 : (k : Int) < (zs.length : Int) := by omega
      have HD := Lib.hid (hd.out ▸ hasL_drop (j := j) hlt)
      clear hd
      generalize zs[k] = x at rg HD
      by_cases hx : x = j
      · have HR := Lib.hid (show hasL zs j = true by rw [HD.out, decide_eq_true hx]; rfl)
        subst hx
        clear HD
        go_wp2
        go_ret
        exact ⟨by rw [HR.out]; rfl, rfl⟩
      · have HR := Lib.hid (show hasL (zs.drop (k + 1)) j = hasL zs j by rw [HD.out, decide_eq_false hx]; rfl)
        have hxb : (x == j) = false := by simpa using hx
        clear HD hx
        go_wp2
        go_round
        case rel => exact ⟨k + 1, by omega, by go_num, HR.out⟩
        case measure => simp [intOf]; omega
    · obtain rfl : k = zs.length := by omega
      have HR := Lib.hid (show hasL zs j = false by rw [← hd.out, List.drop_length]; rfl)
      clear hd
      go_wp2
      go_ret
      exact ⟨by rw [HR.out]; rfl, rfl⟩

end Go.Proofs.Ytjpalndcfaeihaa
