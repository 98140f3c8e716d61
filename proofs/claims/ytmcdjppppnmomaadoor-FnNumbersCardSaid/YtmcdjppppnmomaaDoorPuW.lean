/- The contract of the model's ParseUint: a number where the text is its numeral, else none. No condition. -/
import Derived.Test.YtmcdjppppnmomaaDoorFmtW
import Derived.Test.YtmcdjppppnmomaaDoorNumM
namespace Go.Proofs.YtmcdjppppnmomaaDoor
open Go.RowKit

theorem all_take {l : List UInt8} {P : UInt8 → Prop} (h : ∀ c ∈ l, P c) (k : Nat) : ∀ c ∈ l.take k, P c := fun c hc => h c (List.mem_of_mem_take hc)
theorem val_take (s : ByteArray) (k : Nat) (hs : s.size ≤ 10) (hk : k ≤ s.size) (hd : ∀ c ∈ s.data.toList.take k, DigB c) : valFrom 0 (s.data.toList.take k) < 10000000000 := by
  have h := val_lt _ hd 0 0 (by decide)
  have hp : 10 ^ (0 + (s.data.toList.take k).length) ≤ 10 ^ 10 := Nat.pow_le_pow_right (by decide) (by simp; omega)
  omega
theorem val_step (s : ByteArray) (k : Nat) (h : k < s.size) : valFrom 0 (s.data.toList.take (k + 1)) = 10 * valFrom 0 (s.data.toList.take k) + (s[k].toNat - 48) := by
  rw [take_snoc s k h, valFrom_snoc]

theorem str_ne {s : ByteArray} {l : List UInt8} (h : s.data.toList ≠ l) : ((⟨l.toArray⟩ : ByteArray).toList == s.toList) = false := by
  rw [beq_eq_false_iff_ne, ByteArray.toList_eq, ByteArray.toList_eq]
  intro e
  exact h (by rw [← e])

theorem specParse_long (s : ByteArray) (w : World) (hs : 10 < s.size) :
    Calls Tryd.prog 20 #[.string s] w fun e w' => e = .returned (.tuple #[.int .i64 0, .bool false]) ∧ Below w.heap.size w w' := by
  go_enter Tryd.func20, Tryd.ntmps20
  go_wp2
  go_ret2
  exact ⟨rfl, Below.refl _ _⟩

set_option maxHeartbeats 400000 in
theorem specParse_yes (s : ByteArray) (u : Nat) (hu : u ≤ 1000000000) (hs : s.data.toList = Lib.decDigits u) (w : World) :
    Calls Tryd.prog 20 #[.string s] w fun e w' => e = .returned (.tuple #[.int .i64 (u : Int), .bool true]) ∧ Below w.heap.size w w' := by
  have hsz : s.size ≤ 10 := by
    have h1 := dec_len_le 9 u (by omega)
    rw [← hs] at h1
    simpa using h1
  have hdig : ∀ c ∈ s.data.toList, DigB c := by rw [hs]; exact dec_dig u
  have hval : valFrom 0 s.data.toList = u := by rw [hs]; exact val_dec u
  have C : ∀ W : World, Calls Tryd.prog 19 #[.int .i64 (u : Int)] W fun e w' => e = .returned (.string s) ∧ Below W.heap.size W w' := by
    intro W
    have h := specFormat (u : Int) W (by omega) (by omega)
    rw [itoa_nat, ← hs] at h
    exact h
  have C := Lib.hid C
  have HD := Lib.hid hdig
  have HV := Lib.hid hval
  clear hs hdig hval
  go_enter Tryd.func20, Tryd.ntmps20
  go_wp2
  go_loop [4, 5] (fun nv i => ∃ k : Nat, k ≤ s.size ∧ i = .int .i64 k ∧ nv = .int .i64 (valFrom 0 (s.data.toList.take k) : Nat)) (fun _ i => s.size - (intOf i).toNat)
  case atStart => exact ⟨0, by omega, rfl, rfl⟩
  case round =>
    obtain ⟨k, hk, rfl, rfl⟩ := hrel
    have hb := val_take s k hsz hk (all_take HD.out k)
    by_cases hlt : k < s.size
    · have hc : DigB s[k] := HD.out _ (by rw [ByteArray.getElem_eq_getElem_data]; simp)
      have hc0 : (48 : Int) ≤ (s[k].toNat : Int) := by unfold DigB at hc; omega
      have hc1 : (s[k].toNat : Int) ≤ 57 := by unfold DigB at hc; omega
      have hstep := Lib.hid (val_step s k hlt)
      clear hc
      generalize valFrom 0 (List.take k s.data.toList) = v at *
      go_wp2
      exact ⟨⟨k + 1, by omega, by go_num, by rw [hstep.out]; go_num⟩, by simp [intOf]; omega⟩
    · have hke : k = s.size := by omega
      subst hke
      have he : valFrom 0 (s.data.toList.take s.size) = u := by rw [List.take_of_length_le (by simp)]; exact HV.out
      rw [he]
      clear he hb
      go_wp2_with fail
      refine (C.out _).mono ?_
      rintro e w1 ⟨rfl, b1⟩
      go_wp2
      go_ret2
      exact ⟨rfl, b1⟩

set_option maxHeartbeats 400000 in
theorem specParse_no (s : ByteArray) (hsz : s.size ≤ 10) (hno : ∀ u : Nat, u ≤ 1000000000 → s.data.toList ≠ Lib.decDigits u) (w : World) :
    Calls Tryd.prog 20 #[.string s] w fun e w' => e = .returned (.tuple #[.int .i64 0, .bool false]) ∧ Below w.heap.size w w' := by
  have HN := Lib.hid hno
  clear hno
  go_enter Tryd.func20, Tryd.ntmps20
  go_wp2
  go_loop [4, 5] (fun nv i => ∃ k : Nat, k ≤ s.size ∧ i = .int .i64 k ∧ Hid (∀ c ∈ s.data.toList.take k, DigB c) ∧ nv = .int .i64 (valFrom 0 (s.data.toList.take k) : Nat)) (fun _ i => s.size - (intOf i).toNat)
  case atStart => exact ⟨0, by omega, rfl, (fun c hc => by simp at hc), rfl⟩
  case round =>
    obtain ⟨k, hk, rfl, hd, rfl⟩ := hrel
    have hb := val_take s k hsz hk hd.out
    by_cases hlt : k < s.size
    · by_cases hc : DigB s[k]
      · have hc0 : (48 : Int) ≤ (s[k].toNat : Int) := by unfold DigB at hc; omega
        have hc1 : (s[k].toNat : Int) ≤ 57 := by unfold DigB at hc; omega
        have hstep := Lib.hid (val_step s k hlt)
        have hd' : Hid (∀ c ∈ s.data.toList.take (k + 1), DigB c) := by
          show ∀ c ∈ s.data.toList.take (k + 1), DigB c
          rw [take_snoc s k hlt]
          intro c hm
          rw [List.mem_append] at hm
          rcases hm with hm | hm
          · exact hd.out c hm
          · simp only [List.mem_singleton] at hm
            subst hm
            exact hc
        clear hc hd
        generalize valFrom 0 (List.take k s.data.toList) = v at *
        go_wp2
        exact ⟨⟨k + 1, by omega, by go_num, hd', by rw [hstep.out]; go_num⟩, by simp [intOf]; omega⟩
      · by_cases hc0 : (s[k].toNat : Int) < 48
        · go_wp2
          go_ret2
          exact ⟨rfl, Below.refl _ _⟩
        · have hc1 : (57 : Int) < (s[k].toNat : Int) := by unfold DigB at hc; omega
          go_wp2
          go_ret2
          exact ⟨rfl, Below.refl _ _⟩
    · have hke : k = s.size := by omega
      subst hke
      have hne := HN.out (valFrom 0 (s.data.toList.take s.size))
      have C := specFormat (valFrom 0 (s.data.toList.take s.size) : Nat) w (by omega) (by omega)
      clear hd
      generalize valFrom 0 (s.data.toList.take s.size) = v at *
      by_cases hv : (1000000000 : Int) < (v : Int)
      · clear C hne
        go_wp2
        go_ret2
        exact ⟨rfl, Below.refl _ _⟩
      · have hne := hne (by omega)
        rw [itoa_nat] at C
        have hne1 := str_ne (l := Lib.decDigits v) hne
        generalize (⟨(Lib.decDigits v).toArray⟩ : ByteArray) = out at *
        have C := Lib.hid C
        clear hne
        go_wp2_with fail
        refine C.out.mono ?_
        rintro e w1 ⟨rfl, b1⟩
        go_wp2
        go_ret2
        exact ⟨rfl, b1⟩
end Go.Proofs.YtmcdjppppnmomaaDoor
