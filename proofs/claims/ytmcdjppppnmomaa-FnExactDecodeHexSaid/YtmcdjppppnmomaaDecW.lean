/- The contract of the model's DecodeHex, got by walking its body. No condition. -/
import Derived.Test.YtmcdjppppnmomaaDecM
import Derived.WalkSpells
import Derived.IntWalk
namespace Go.Proofs.Ytmcdjppppnmomaa
open Go.RowKit

theorem specValue (c : UInt8) (w : World) :
    Calls Try.prog 26 #[.int .u8 (c.toNat : Int)] w fun e w' => e = .returned (.int .i64 (valI c)) ∧ w = w' := by
  have hb : (c.toNat : Int) < 256 := by have := c.toNat_lt; omega
  have h0 : (0 : Int) ≤ (c.toNat : Int) := by omega
  have key : ∀ x : Int, x = (c.toNat : Int) → ((48 ≤ x ∧ x ≤ 57) → valI c = x - 48) ∧ (¬ (48 ≤ x ∧ x ≤ 57) → (97 ≤ x ∧ x ≤ 102) → valI c = x - 87) ∧ (¬ (48 ≤ x ∧ x ≤ 57) → ¬ (97 ≤ x ∧ x ≤ 102) → valI c = -1) := by
    intro x hx
    unfold valI
    refine ⟨fun h => ?_, fun h h' => ?_, fun h h' => ?_⟩
    · rw [if_pos (by omega)]; omega
    · rw [if_neg (by omega), if_pos (by omega)]; omega
    · rw [if_neg (by omega), if_neg (by omega)]
  generalize hx : (c.toNat : Int) = x at *
  obtain ⟨k1, k2, k3⟩ := key x rfl
  have K1 := Lib.hid k1
  have K2 := Lib.hid k2
  have K3 := Lib.hid k3
  clear key k1 k2 k3 hx
  by_cases a1 : 48 ≤ x
  · by_cases a2 : x ≤ 57
    · go_enter Try.func26, Try.ntmps26
      go_wp2
      go_ret
      exact ⟨ret_int (K1.out ⟨a1, a2⟩).symm, rfl⟩
    · by_cases a3 : 97 ≤ x
      · by_cases a4 : x ≤ 102
        · go_enter Try.func26, Try.ntmps26
          go_wp2
          go_ret
          exact ⟨ret_int (by rw [K2.out (by omega) ⟨a3, a4⟩]; omega), rfl⟩
        · go_enter Try.func26, Try.ntmps26
          go_wp2
          go_ret
          exact ⟨ret_int (K3.out (by omega) (by omega)).symm, rfl⟩
      · go_enter Try.func26, Try.ntmps26
        go_wp2
        go_ret
        exact ⟨ret_int (K3.out (by omega) (by omega)).symm, rfl⟩
  · go_enter Try.func26, Try.ntmps26
    go_wp2
    go_ret
    exact ⟨ret_int (K3.out (by omega) (by omega)).symm, rfl⟩

theorem specDecode_bad (s : ByteArray) (w : World) (h : 40000 < s.size ∨ s.size % 2 ≠ 0) :
    Calls Try.prog 13 #[.string s] w fun e w' => e = .returned (.tuple #[.string ⟨#[]⟩, .bool false]) ∧ Below w.heap.size w w' := by
  by_cases h1 : 40000 < s.size
  · go_enter Try.func13, Try.ntmps13
    go_wp2
    go_ret2
    exact ⟨rfl, Below.refl _ _⟩
  · have h2 : 1 ≤ s.size % 2 := by omega
    have hb : ((s.size : Int) % 2 != 0) = true := by rw [bne_iff_ne]; omega
    clear h
    go_enter Try.func13, Try.ntmps13
    go_wp2
    go_ret2
    exact ⟨rfl, Below.refl _ _⟩

set_option maxRecDepth 100000 in
set_option maxHeartbeats 400000 in
theorem specDecode_good (s : ByteArray) (w : World) (h1 : s.size ≤ 40000) (h2 : s.size % 2 ≤ 0) :
    Calls Try.prog 13 #[.string s] w fun e w' => e = .returned (.tuple #[.string (decR s).1, .bool (decR s).2]) ∧ Below w.heap.size w w' := by
  obtain ⟨i0, hi, hz0, hz1, hz2⟩ := info_parts info_u8
  have hev : ((s.size : Int) % 2 != 0) = false := by rw [bne_eq_false_iff_eq]; omega
  go_enter Try.func13, Try.ntmps13
  go_wp2
  clear hev
  go_loopw [4, 5] (fun v i wr => ∃ (k : Nat) (vo : Value), vo = v ∧ k ≤ s.size ∧ k % 2 ≤ 0 ∧ i = .int .i64 k ∧ Hid (okT (s.data.toList.take k) = true) ∧ OwnB wr w.heap.size vo (decT (s.data.toList.take k)) ∧ Below w.heap.size w wr) (fun _ i _ => s.size - (intOf i).toNat)
  case atStart =>
    exact ⟨0, _, rfl, by omega, by omega, rfl, rfl, World.ownsRow_lit w #[] 0 (Nat.le_refl _) (by decide) rfl, (Below.refl _ _).alloc (Nat.le_refl _) _⟩
  case round =>
    obtain ⟨k, vo, rfl, hk, he, rfl, hok, hown, hb⟩ := hrel
    by_cases hlt : k < s.size
    · have hlt1 : k + 1 < s.size := by omega
      have q1 := valI_bd s[k]
      have q2 := valI_bd s[k + 1]
      have hsz := hb.size
      have hlen := decT_len (s.data.toList.take k)
      have hlk : (s.data.toList.take k).length ≤ k := List.length_take_le _ _
      have hpos : 0 < 1 := by omega
      have hmax : (decT (List.take k s.data.toList)).length + 1 ≤ maxLen := by simp only [maxLen]; omega
      have hbd : ((decT (List.take k s.data.toList)).length + 1) * 1 ≤ 140737488355328 := by omega
      by_cases ha : valI s[k] < 0
      · have H := Lib.hid (decR_pair s k hlt1 (by omega) (.inl ha))
        go_wp2_with (go_at_call 26; refine (specValue _ _).mono ?_; rintro e w' ⟨rfl, rfl⟩)
        go_ret2
        rw [H.out]
        exact ⟨rfl, hb⟩
      · by_cases hbb : valI s[k + 1] < 0
        · have H := Lib.hid (decR_pair s k hlt1 (by omega) (.inr hbb))
          go_wp2_with (go_at_call 26; refine (specValue _ _).mono ?_; rintro e w' ⟨rfl, rfl⟩)
          go_ret2
          rw [H.out]
          exact ⟨rfl, hb⟩
        · have Hok := Lib.hid (okT_step s k hlt1 (by omega) hok.out ha hbb)
          clear hok
          go_wp2_with (first | (go_at_call 26; refine (specValue _ _).mono ?_; rintro e w' ⟨rfl, rfl⟩) | (at_builtin; refine wpList_append_lies _ rfl (.tmp 39) (.tmp 45) 22 rfl w.heap.size 5 i0 (.int .u8 0) 1 1 Try.underlying22 hi hz0 hz1 hz2 rfl hpos vo _ _ rfl (hown.alloc _) ⟨wr.heap.size, 0, none⟩ 1 1 [.int .u8 (16 * valI s[k] + valI s[k + 1])] rfl rfl (cell_one_new _ _ _) ?_ hpos hmax hbd ?_ (wr.heap.size + 1) ?_ ?_; (simp [Value.oneCell']); (simp; omega); (simp); intro gg cap w1 hown1 hgrow hat hlt'))
          all_goals exact ⟨⟨k + 2, _, rfl, by omega, by omega, by go_num, Hok, dec_step hlt1 (by omega) (by omega) (by omega) rfl rfl hown1, below_append_plain hb hsz hown hgrow⟩, by simp [intOf]; omega⟩
    · have hke : k = s.size := by omega
      subst hke
      have H := Lib.hid (decR_all s h1 (by omega) hok.out)
      clear hok
      go_wp2_with (rw [conv_own hown])
      go_ret2
      rw [H.out]
      exact ⟨rfl, hb⟩
end Go.Proofs.Ytmcdjppppnmomaa
