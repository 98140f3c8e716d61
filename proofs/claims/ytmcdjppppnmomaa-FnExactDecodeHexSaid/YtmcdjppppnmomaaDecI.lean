/- The contract of the program's DecodeHex, got by walking its body over strings.IndexByte's contract. No condition. -/
import Derived.Test.YtmcdjppppnmomaaDecM
import Derived.Test.YtmcdjppppnmomaaShelf
import Derived.WalkSpells
import Derived.IntWalk
namespace Go.Proofs.Ytmcdjppppnmomaa
open Go.RowKit

theorem index_val : ∀ n : Nat, n < 256 → Lib.indexByte [48, 49, 50, 51, 52, 53, 54, 55, 56, 57, 97, 98, 99, 100, 101, 102] (UInt8.ofNat n) = valI (UInt8.ofNat n) := by decide +kernel
theorem index_valI (c : UInt8) : Lib.indexByte [48, 49, 50, 51, 52, 53, 54, 55, 56, 57, 97, 98, 99, 100, 101, 102] (c.toNat : Int).toNat.toUInt8 = valI c := by
  have h := index_val c.toNat c.toNat_lt
  have e : UInt8.ofNat c.toNat = c := by simp
  rw [e] at h
  rw [Int.toNat_natCast]
  rw [show c.toNat.toUInt8 = c from e]
  exact h

theorem implIndex (c : UInt8) (w : World) :
    Calls Try.prog 27 #[.string { data := #[48, 49, 50, 51, 52, 53, 54, 55, 56, 57, 97, 98, 99, 100, 101, 102] }, .int .u8 (c.toNat : Int)] w fun e w' => e = .returned (.int .i64 (valI c)) ∧ w = w' := by
  refine (Try.strings_IndexByte _ _ _).mono ?_
  rintro e w' ⟨rfl, rfl⟩
  exact ⟨ret_int (index_valI c), rfl⟩

theorem shl_or : ∀ a : Nat, a < 16 → ∀ b : Nat, b < 16 → bits BinOp.or IntKind.i64 ((a : Int) * 16) (b : Int) = 16 * (a : Int) + (b : Int) := by decide +kernel

theorem implDecode_bad (s : ByteArray) (w : World) (h : 40000 < s.size ∨ s.size % 2 ≠ 0) :
    Calls Try.prog 14 #[.string s] w fun e w' => e = .returned (.tuple #[.string ⟨#[]⟩, .bool false]) ∧ Below w.heap.size w w' := by
  by_cases h1 : s.size % 2 ≠ 0
  · have hb : ((s.size : Int) % 2 != 0) = true := by rw [bne_iff_ne]; omega
    clear h
    go_enter Try.func14, Try.ntmps14
    go_wp2
    go_ret2
    exact ⟨rfl, Below.refl _ _⟩
  · have h2 : 40000 < s.size := by omega
    have hb : ((s.size : Int) % 2 != 0) = false := by rw [bne_eq_false_iff_eq]; omega
    clear h h1
    go_enter Try.func14, Try.ntmps14
    go_wp2
    go_ret2
    exact ⟨rfl, Below.refl _ _⟩

set_option maxRecDepth 100000 in
set_option maxHeartbeats 400000 in
theorem implDecode_good (s : ByteArray) (w : World) (h1 : s.size ≤ 40000) (h2 : s.size % 2 ≤ 0) :
    Calls Try.prog 14 #[.string s] w fun e w' => e = .returned (.tuple #[.string (decR s).1, .bool (decR s).2]) ∧ Below w.heap.size w w' := by
  obtain ⟨i0, hi, hz0, hz1, hz2⟩ := info_parts info_u8
  have hev : ((s.size : Int) % 2 != 0) = false := by rw [bne_eq_false_iff_eq]; omega
  have hmk : s.size / 2 ≤ maxLen := by simp only [maxLen]; omega
  have hmb : i0.bytes * (s.size / 2) ≤ 281474976710656 := by rw [hz2]; omega
  have hmc : (s.size : Int) / 2 = ((s.size / 2 : Nat) : Int) := by omega
  have Hmc := Lib.hid hmc
  clear hmc
  go_enter Try.func14, Try.ntmps14
  go_wp2_with (refine wpList_make_own _ rfl (.const (.int .i64 0)) (.tmp 19) 22 (by rfl) w.heap.size 5 i0 (.int .u8 0) 1 Try.underlying22 hi hz0 hz1 .i64 .i64 ((s.size : Int) / 2) (s.size / 2) (by rfl) (by rfl) Hmc.out hmb hmk (Nat.le_refl _) ?_; intro w1 hown hgrow)
  clear hev
  go_loopw [4, 5] (fun v i wr => ∃ (k : Nat) (vo : Value), vo = v ∧ k ≤ s.size ∧ k % 2 ≤ 0 ∧ i = .int .i64 k ∧ Hid (okT (s.data.toList.take k) = true) ∧ OwnB wr w.heap.size vo (decT (s.data.toList.take k)) ∧ Below w.heap.size w wr) (fun _ i _ => s.size - (intOf i).toNat)
  case atStart =>
    exact ⟨0, _, rfl, by omega, by omega, rfl, rfl, hown, (Below.refl _ _).grown hgrow (Nat.le_refl _) (by simp)⟩
  case round =>
    clear hown hgrow
    obtain ⟨k, vo, rfl, hk, he, rfl, hok, hown, hb⟩ := hrel
    by_cases hlt : k < s.size
    · have hlt1 : k + 1 < s.size := by omega
      have q1 := valI_bd s[k]
      have q2 := valI_bd s[k + 1]
      have hsz := hb.size
      have hlen := decT_len (s.data.toList.take k)
      have hlk : (s.data.toList.take k).length ≤ k := List.length_take_le _ _
      have hpos : 0 < 1 := by omega
      have hmax : (decT (List.take k s.data.toList)).length + 1 ≤ maxLen := by simp only [maxLen]; omega
      have hbd : ((decT (List.take k s.data.toList)).length + 1) * 1 ≤ 140737488355328 := by omega
      by_cases ha : valI s[k] < 0
      · have H := Lib.hid (decR_pair s k hlt1 (by omega) (.inl ha))
        go_wp2_with (go_at_call 27; refine (implIndex _ _).mono ?_; rintro e w' ⟨rfl, rfl⟩)
        go_ret2
        rw [H.out]
        exact ⟨rfl, hb⟩
      · by_cases hbb : valI s[k + 1] < 0
        · have H := Lib.hid (decR_pair s k hlt1 (by omega) (.inr hbb))
          go_wp2_with (go_at_call 27; refine (implIndex _ _).mono ?_; rintro e w' ⟨rfl, rfl⟩)
          go_ret2
          rw [H.out]
          exact ⟨rfl, hb⟩
        · have Hok := Lib.hid (okT_step s k hlt1 (by omega) hok.out ha hbb)
          clear hok
          have hor : bits BinOp.or IntKind.i64 (valI s[k] * 16) (valI s[k + 1]) = 16 * valI s[k] + valI s[k + 1] := by
            have h := shl_or (valI s[k]).toNat (by omega) (valI s[k + 1]).toNat (by omega)
            rw [Int.toNat_of_nonneg (by omega), Int.toNat_of_nonneg (by omega)] at h
            exact h
          go_wp2_with (first | (go_at_call 27; refine (implIndex _ _).mono ?_; rintro e w' ⟨rfl, rfl⟩) | (at_builtin; refine wpList_append_lies _ rfl (.tmp 42) (.tmp 48) 22 rfl w.heap.size 5 i0 (.int .u8 0) 1 1 Try.underlying22 hi hz0 hz1 hz2 rfl hpos vo _ _ rfl (hown.alloc _) ⟨wr.heap.size, 0, none⟩ 1 1 [.int .u8 (16 * valI s[k] + valI s[k + 1])] rfl rfl (cell_one_new _ _ _) ?_ hpos hmax hbd ?_ (wr.heap.size + 1) ?_ ?_; (simp [Value.oneCell']); (simp; omega); (simp); intro gg cap w1 hown1 hgrow hat hlt'))
          all_goals exact ⟨⟨k + 2, _, rfl, by omega, by omega, by go_num, Hok, dec_step hlt1 (by omega) (by omega) (by omega) (by omega) rfl hown1, below_append_plain hb hsz hown hgrow⟩, by simp [intOf]; omega⟩
    · have hke : k = s.size := by omega
      subst hke
      have H := Lib.hid (decR_all s h1 (by omega) hok.out)
      clear hok
      go_wp2_with (rw [conv_own hown])
      go_ret2
      rw [H.out]
      exact ⟨rfl, hb⟩

theorem implDecode (s : ByteArray) (w : World) :
    Calls Try.prog 14 #[.string s] w fun e w' => e = .returned (.tuple #[.string (decR s).1, .bool (decR s).2]) ∧ Below w.heap.size w w' := by
  by_cases h : 40000 < s.size ∨ s.size % 2 ≠ 0
  · rw [decR_bad s h]
    exact implDecode_bad s w h
  · exact implDecode_good s w (by omega) (by omega)
end Go.Proofs.Ytmcdjppppnmomaa
