/- The contracts of the program's sets of cues: has, hasAll, with. Condition: the sets lie below 2^62, the numbers from 0 to 60. -/
import Derived.Test.YtbgogcobkiaejabBits
import Derived.Test.YtbgogcobkiaejabRowB
namespace Go.Proofs.Ytbgogcobkiaejab
set_option linter.unusedVariables false
set_option linter.unusedSimpArgs false
open Go.RowKit

theorem or_natu {s t : Nat} (hs : s < 2 ^ 62) (ht : t < 2 ^ 62) : bits .or .u64 (s : Int) (t : Int) = ((s ||| t : Nat) : Int) := by
  have h : s ||| t < 2 ^ 62 := Nat.or_lt_two_pow hs ht
  have e : bits .or .u64 (s : Int) (t : Int) = IntKind.u64.wrap (((BitVec.ofInt 64 (s : Int)) ||| (BitVec.ofInt 64 (t : Int))).toNat : Int) := rfl
  rw [e, BitVec.toNat_or, BitVec.ofInt_natCast, BitVec.ofInt_natCast, BitVec.toNat_ofNat, BitVec.toNat_ofNat, Nat.mod_eq_of_lt (by omega), Nat.mod_eq_of_lt (by omega)]
  generalize s ||| t = x at h ⊢
  rw [IntKind.wrap_u64]
  omega
theorem and_natu {s t : Nat} (hs : s < 2 ^ 62) (ht : t < 2 ^ 62) : bits .and .u64 (s : Int) (t : Int) = ((s &&& t : Nat) : Int) := by
  have h : s &&& t < 2 ^ 62 := Nat.and_lt_two_pow s ht
  have e : bits .and .u64 (s : Int) (t : Int) = IntKind.u64.wrap (((BitVec.ofInt 64 (s : Int)) &&& (BitVec.ofInt 64 (t : Int))).toNat : Int) := rfl
  rw [e, BitVec.toNat_and, BitVec.ofInt_natCast, BitVec.ofInt_natCast, BitVec.toNat_ofNat, BitVec.toNat_ofNat, Nat.mod_eq_of_lt (by omega), Nat.mod_eq_of_lt (by omega)]
  generalize s &&& t = x at h ⊢
  rw [IntKind.wrap_u64]
  omega
theorem bit_natu (s m : Nat) (hm : m ≤ 60) (hs : s < 2 ^ 62) : bits .and .u64 ((s : Int) / 2 ^ min m 64) 1 = if s.testBit m = true then 1 else 0 := by
  have h1 : s >>> m < 2 ^ 62 := Nat.lt_of_le_of_lt (by rw [Nat.shiftRight_eq_div_pow]; exact Nat.div_le_self _ _) hs
  rw [shr_nat s m hm, show (1 : Int) = ((1 : Nat) : Int) from rfl, and_natu h1 (by omega)]
  have e : s.testBit m = (1 &&& (s >>> m) != 0) := rfl
  rw [e, Nat.and_comm 1 (s >>> m), Nat.and_one_is_mod]
  rcases (by omega : s >>> m % 2 = 0 ∨ s >>> m % 2 = 1) with h | h <;> rw [h] <;> simp
theorem bit_natu2 (s m : Nat) (hm : m ≤ 60) (hs : s < 2 ^ 62) : bits .and .u64 ((s : Int) / 2 ^ m) 1 = if s.testBit m = true then 1 else 0 := by
  have h := bit_natu s m hm hs
  rwa [Nat.min_eq_left (by omega)] at h
theorem shl_natu (j : Nat) (hj : j ≤ 60) : IntKind.u64.wrap (2 ^ j) = ((1 <<< j : Nat) : Int) := by
  have h : 2 ^ j < 2 ^ 61 := Nat.pow_lt_pow_right (by omega) (by omega)
  rw [Nat.shiftLeft_eq, Nat.one_mul]
  have e : ((2 ^ j : Nat) : Int) = (2 : Int) ^ j := by push_cast; rfl
  rw [← e]
  clear e
  generalize 2 ^ j = p at h ⊢
  rw [IntKind.wrap_u64]
  omega
theorem shl_natum (j : Nat) (hj : j ≤ 60) : IntKind.u64.wrap (2 ^ min j 64) = ((1 <<< j : Nat) : Int) := by
  rw [Nat.min_eq_left (by omega)]
  exact shl_natu j hj

theorem setHas (D k : Nat) (hk : k ≤ 60) (hD : D < 2 ^ 62) (w : World) :
    Calls Try.prog 49 #[.int .u64 (D : Int), .int .i64 (k : Int)] w fun e w' => e = .returned (.bool (D.testBit k)) ∧ w' = w := by
  have e1 := bit_natu D k hk hD
  have e2 := bit_natu2 D k hk hD
  have hk0 : (0 : Int) ≤ (k : Int) := by omega
  by_cases c : D.testBit k = true
  · rw [if_pos c] at e1 e2
    rw [c]
    clear c
    go_enter Try.func49, Try.ntmps49
    go_wp2
    go_ret
    exact ⟨rfl, rfl⟩
  · rw [if_neg c] at e1 e2
    have c : D.testBit k = false := by simpa using c
    rw [c]
    clear c
    go_enter Try.func49, Try.ntmps49
    go_wp2
    go_ret
    exact ⟨rfl, rfl⟩
theorem setWith (D k : Nat) (hk : k ≤ 60) (hD : D < 2 ^ 62) (w : World) :
    Calls Try.prog 36 #[.int .u64 (D : Int), .int .i64 (k : Int)] w fun e w' => e = .returned (.int .u64 ((D ||| 1 <<< k : Nat) : Int)) ∧ w' = w := by
  have e1 := shl_natu k hk
  have e2 := shl_natum k hk
  have hk0 : (0 : Int) ≤ (k : Int) := by omega
  have hq : 1 <<< k < 2 ^ 62 := by
    rw [Nat.shiftLeft_eq, Nat.one_mul]
    exact Nat.pow_lt_pow_right (by omega) (by omega)
  have e3 := or_natu hD hq
  generalize 1 <<< k = t at e1 e2 e3 ⊢
  generalize D ||| t = T at e3 ⊢
  clear hq
  go_enter Try.func36, Try.ntmps36
  go_wp2
  go_ret
  exact ⟨rfl, rfl⟩
def holdsAll (D : Nat) (zs : List Int) : Bool := zs.all fun z => D.testBit z.toNat
theorem holdsAll_iff (D : Nat) (zs : List Int) : holdsAll D zs = true ↔ ∀ i (h : i < zs.length), D.testBit zs[i].toNat = true := by
  unfold holdsAll
  rw [List.all_eq_true]
  exact ⟨fun h i hi => h _ (List.getElem_mem hi), fun h z hz => by obtain ⟨i, hi, rfl⟩ := List.mem_iff_getElem.1 hz; exact h i hi⟩

set_option maxRecDepth 100000 in
theorem setHasAll (D : Nat) (v : Value) (zs : List Int) (b : Nat) (w : World) (hD : D < 2 ^ 62) (h : OwnI w b v zs) (hl : zs.length ≤ 2000000) (hz : ∀ i (h : i < zs.length), 0 ≤ zs[i] ∧ zs[i] ≤ 60) :
    Calls Try.prog 50 #[.int .u64 (D : Int), v] w fun e w' => e = .returned (.bool (holdsAll D zs)) ∧ w' = w := by
  obtain ⟨A, c, rfl⟩ := h.slice
  have O := Lib.hid h
  have C0 := Lib.hid (fun k (hk : k ≤ 60) W => setHas D k hk hD W)
  have R1 := Lib.hid (fun h => (holdsAll_iff D zs).2 h)
  have R0 := Lib.hid (fun i (hi : i < zs.length) (h : D.testBit zs[i].toNat = false) => (show holdsAll D zs = false by
    cases q : holdsAll D zs with
    | false => rfl
    | true => rw [(holdsAll_iff D zs).1 q i hi] at h; cases h))
  have HZ := Lib.hid hz
  clear h hz
  go_enter Try.func50, Try.ntmps50
  go_wp2_with fail
  go_loopw [9] (fun iv wr => w = wr ∧ ∃ k : Nat, k ≤ zs.length ∧ iv = .int .i64 (k : Int) ∧ Hid (∀ i (hi : i < zs.length), i < k → D.testBit zs[i].toNat = true)) (fun iv _ => zs.length - (intOf iv).toNat)
  case atStart => exact ⟨rfl, 0, by omega, rfl, Lib.hid (fun i _ hi => absurd hi (by omega))⟩
  case round =>
    obtain ⟨rfl, k, hk, rfl, HT⟩ := hrel
    by_cases hlt : k < zs.length
    rotate_left
    · obtain rfl : k = zs.length := by omega
      have R := Lib.hid (R1.out (fun i hi => HT.out i hi hi))
      go_wp2
      go_ret
      exact ⟨by rw [R.out]; rfl, rfl⟩
    have hk0 : (0 : Int) ≤ (k : Int) := by omega
    have hk1 : (k : Int) < (zs.length : Int) := by omega
    obtain ⟨g, _, f1, -, -, z0, -⟩ := O.out.spot hlt
    simp only [Value.slice.injEq] at f1
    obtain ⟨rfl, -, -⟩ := f1
    have hr := HZ.out k hlt
    obtain ⟨x, hx⟩ := Int.eq_ofNat_of_zero_le hr.1
    have C1 := Lib.hid (fun W => (C0.out x (by omega) W).mono fun e w' h => (show _ ∧ W = w' from ⟨h.1, h.2.symm⟩))
    have RX := Lib.hid (show D.testBit x = false → holdsAll D zs = false from fun h => R0.out k hlt (by rw [hx, Int.toNat_natCast]; exact h))
    have NX := Lib.hid (show D.testBit x = true → ∀ i (hi : i < zs.length), i < k + 1 → D.testBit zs[i].toNat = true from fun h i hi hj => by
      rcases (by omega : i < k ∨ i = k) with q | rfl
      · exact HT.out i hi q
      · rw [hx, Int.toNat_natCast]; exact h)
    rw [hx] at z0
    clear hr hx
    cases hb : D.testBit x with
    | false =>
      have R := Lib.hid (RX.out hb)
      rw [hb] at C1
      clear hb RX NX
      go_wp2_with (go_at_call 49; refine (C1.out _).mono ?_; rintro e w' ⟨rfl, rfl⟩)
      go_ret
      exact ⟨by rw [R.out]; rfl, rfl⟩
    | true =>
      have N2 := Lib.hid (NX.out hb)
      rw [hb] at C1
      clear hb RX NX
      go_wp2_with (go_at_call 49; refine (C1.out _).mono ?_; rintro e w' ⟨rfl, rfl⟩)
      exact ⟨⟨trivial, k + 1, by omega, by go_num, N2⟩, by simp [intOf]; omega⟩
end Go.Proofs.Ytbgogcobkiaejab
