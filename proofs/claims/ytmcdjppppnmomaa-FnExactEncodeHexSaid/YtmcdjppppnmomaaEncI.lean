/- The contract of the program's EncodeHex, got by walking its body. Condition: at most 20000 bytes, or more. -/
import Derived.Test.YtmcdjppppnmomaaBytes
import Derived.Deep.RegionHeld3
import Derived.WalkSpells
import Derived.IntWalk
namespace Go.Proofs.Ytmcdjppppnmomaa
open Go.RowKit

/-- The digits that the program keeps as one text. -/
def digitsB : ByteArray := { data := #[48, 49, 50, 51, 52, 53, 54, 55, 56, 57, 97, 98, 99, 100, 101, 102] }
theorem digit_at : ∀ n : Nat, n < 16 → digitsB.data[n]? = some (fig n) := by decide +kernel
theorem band15 : ∀ n : Nat, n < 256 → bits BinOp.and IntKind.u8 (n : Int) 15 = (n : Int) % 16 := by decide +kernel
theorem run_index_lit (d : ByteArray) (n : Nat) (h : n < d.size) (w : World) :
    (Instr.index 9 (.string d) (.int .u8 (n : Int))).run Try.prog w = .ok (.int .u8 (d[n].toNat : Int)) w := by
  have h1 : (n : Int) < (d.size : Int) := by omega
  have h0 : (0 : Int) ≤ (n : Int) := by omega
  go_simp
theorem run_digit (x : Int) (h0 : 0 ≤ x) (h1 : x < 16) (w : World) :
    (Instr.index 9 (.string digitsB) (.int .u8 x)).run Try.prog w = .ok (.int .u8 (figI x)) w := by
  obtain ⟨n, rfl⟩ := Int.eq_ofNat_of_zero_le h0
  have hn : n < 16 := by omega
  have hd := digit_at n hn
  have hs : digitsB.size = 16 := by decide +kernel
  have hg : digitsB[n]'(by omega) = fig n := by
    have : digitsB.data[n]? = some (digitsB[n]'(by omega)) := by
      rw [Array.getElem?_eq_getElem (by rw [show digitsB.data.size = digitsB.size from rfl]; omega)]
      rfl
    rw [this] at hd
    exact Option.some.inj hd
  rw [figI_eq n hn, ← hg]
  exact run_index_lit digitsB n (by omega) w

set_option maxRecDepth 100000 in
set_option maxHeartbeats 400000 in
theorem implEncode (s : ByteArray) (w : World) (hs : s.size ≤ 20000) :
    Calls Try.prog 12 #[.string s] w fun e w' => e = .returned (.tuple #[.string ⟨(encL s.data.toList).toArray⟩, .bool true]) ∧ Below w.heap.size w w' := by
  obtain ⟨i0, hi, hz0, hz1, hz2⟩ := info_parts info_u8
  have hmk : (2 * s.size) ≤ maxLen := by simp only [maxLen]; omega
  have hmb : i0.bytes * (2 * s.size) ≤ 281474976710656 := by rw [hz2]; omega
  have hmc : 2 * (s.size : Int) = ((2 * s.size : Nat) : Int) := by omega
  have Hmc := Lib.hid hmc; clear hmc
  go_enter Try.func12, Try.ntmps12
  go_wp2_with (refine wpList_make_own _ rfl (.const (.int .i64 0)) (.tmp 11) 22 (by rfl) w.heap.size 5 i0 (.int .u8 0) 1 Try.underlying22 hi hz0 hz1 .i64 .i64 (2 * (s.size : Int)) (2 * s.size) (by rfl) (by rfl) Hmc.out hmb hmk (Nat.le_refl _) ?_; intro w1 hown hgrow)
  go_loopw [4, 15] (fun v i wr => ∃ (k : Nat) (vo : Value), vo = v ∧ k ≤ s.size ∧ i = .int .i64 k ∧ OwnB wr w.heap.size vo (encL (s.data.toList.take k)) ∧ Below w.heap.size w wr) (fun _ i _ => s.size - (intOf i).toNat)
  case atStart =>
    exact ⟨0, _, rfl, by omega, rfl, hown, (Below.refl _ _).grown hgrow (Nat.le_refl _) (by simp)⟩
  case round =>
    obtain ⟨k, vo, rfl, hk, rfl, hown, hb⟩ := hrel
    by_cases hlt : k < s.size
    · have hbyte : (s[k].toNat : Int) < 256 := by have := s[k].toNat_lt; omega
      have r1 := run_digit ((s[k].toNat : Int) / 16) (by omega) (by omega)
      have r2 := run_digit ((s[k].toNat : Int) % 16) (by omega) (by omega)
      have r3 := band15 s[k].toNat s[k].toNat_lt
      unfold digitsB at r1 r2
      have hm : 2 * (List.take k s.data.toList).length ≤ 40000 := by simp; omega
      have hl := encL_len (List.take k s.data.toList)
      have hsz := hb.size
      have hpos : 0 < 1 := by omega
      have hpos2 : 0 < 2 := by omega
      have hmax : (encL (List.take k s.data.toList)).length + 2 ≤ maxLen := by simp only [maxLen]; omega
      have hbd : ((encL (List.take k s.data.toList)).length + 2) * 1 ≤ 140737488355328 := by omega
      go_wp2_with fail
      go_region_held3 (fun _ => True) (trivial) (first | (refine step_append_lies _ (by rfl) (.tmp 18) (.tmp 29) 22 (by rfl) w.heap.size 5 i0 (.int .u8 0) 1 1 Try.underlying22 hi hz0 hz1 hz2 (by rfl) hpos vo _ _ (by rfl) ((hown.alloc _).drew) ⟨wr.heap.size, 0, none⟩ 2 2 [.int .u8 (figI ((s[k].toNat : Int) / 16)), .int .u8 (figI ((s[k].toNat : Int) % 16))] (by rfl) (by rfl) (World.news_of_block (heap_alloc_new wr _)) ?_ hpos2 hmax hbd ?_ (wr.heap.size + 1) ?_ ?_; (simp [Value.oneCell']); (simp; omega); (simp); intro gg cap w1 hown1 hgrow hat hlt'))
      go_wp2
      all_goals exact ⟨⟨k + 1, _, rfl, by omega, by go_num, enc_step hlt rfl hown1, below_append hb hsz hown hgrow⟩, by simp [intOf]; omega⟩
    · have hke : k = s.size := by omega
      subst hke
      go_wp2_with (rw [conv_own hown])
      go_ret2
      rw [show encL (List.take s.size s.data.toList) = encL s.data.toList by rw [List.take_of_length_le (by simp)]]
      exact ⟨rfl, hb⟩

theorem implEncode_long (s : ByteArray) (w : World) (hs : 20000 < s.size) :
    Calls Try.prog 12 #[.string s] w fun e w' => e = .returned (.tuple #[.string ⟨#[]⟩, .bool false]) ∧ w = w' := by
  go_enter Try.func12, Try.ntmps12
  go_wp2
  go_ret2
  exact ⟨rfl, rfl⟩
end Go.Proofs.Ytmcdjppppnmomaa
