/- The contracts of both EncodeHex functions, got by walking their bodies. Condition: the text is a string of the model's lengths. -/
import Derived.Test.YtmcdjppppnmomaaBytes
import Derived.Deep.RegionHeld3
import Derived.WalkSpells
import Derived.IntWalk
namespace Go.Proofs.Ytmcdjppppnmomaa
open Go.RowKit

theorem specFigure (x : Int) (w : World) (h0 : 0 ≤ x) (h1 : x < 16) :
    Calls Try.prog 25 #[.int .i64 x] w fun e w' => e = .returned (.int .u8 (figI x)) ∧ w' = w := by
  by_cases h : x < 10
  all_goals
    go_enter Try.func25, Try.ntmps25
    go_wp2
    go_ret
    refine ⟨?_, rfl⟩
    congr 2
    unfold figI
    simp [h]
    try omega

set_option maxRecDepth 100000 in
set_option maxHeartbeats 400000 in
theorem specEncode (s : ByteArray) (w : World) (hs : s.size ≤ 20000) :
    Calls Try.prog 11 #[.string s] w fun e w' => e = .returned (.tuple #[.string ⟨(encL s.data.toList).toArray⟩, .bool true]) ∧ Below w.heap.size w w' := by
  obtain ⟨i0, hi, hz0, hz1, hz2⟩ := info_parts info_u8
  go_enter Try.func11, Try.ntmps11
  go_wp2
  go_loopw [4, 5] (fun v i wr => ∃ (k : Nat) (vo : Value), vo = v ∧ k ≤ s.size ∧ i = .int .i64 k ∧ OwnB wr w.heap.size vo (encL (s.data.toList.take k)) ∧ Below w.heap.size w wr) (fun _ i _ => s.size - (intOf i).toNat)
  case atStart =>
    exact ⟨0, _, rfl, by omega, rfl, World.ownsRow_lit w #[] 0 (Nat.le_refl _) (by decide) rfl, (Below.refl _ _).alloc (Nat.le_refl _) _⟩
  case round =>
    obtain ⟨k, vo, rfl, hk, rfl, hown, hb⟩ := hrel
    by_cases hlt : k < s.size
    · have hbyte : (s[k].toNat : Int) < 256 := by have := s[k].toNat_lt; omega
      have hm : 2 * (List.take k s.data.toList).length ≤ 40000 := by simp; omega
      have hl := encL_len (List.take k s.data.toList)
      have hsz := hb.size
      have hpos : 0 < 1 := by omega
      have hpos2 : 0 < 2 := by omega
      have hmax : (encL (List.take k s.data.toList)).length + 2 ≤ maxLen := by simp only [maxLen]; omega
      have hbd : ((encL (List.take k s.data.toList)).length + 2) * 1 ≤ 140737488355328 := by omega
      have e1 : IntKind.i64.wrap (s[k].toNat : Int) = (s[k].toNat : Int) := IntWalk.i64_in _ (by omega)
      have e2 : IntKind.i64.wrap ((s[k].toNat : Int) / 16) = (s[k].toNat : Int) / 16 := IntWalk.i64_in _ (by omega)
      have e3 : (s[k].toNat : Int).tmod 16 = (s[k].toNat : Int) % 16 := Int.tmod_eq_emod_of_nonneg (by omega)
      go_wp2
      go_region_held3 (fun _ => True) (trivial) (first | (go_at_call 25; refine (specFigure _ _ ?_ ?_).mono ?_; omega; omega; rintro e w' ⟨rfl, rfl⟩) | (refine step_append_lies _ (by rfl) (.tmp 16) (.tmp 29) 22 (by rfl) w.heap.size 5 i0 (.int .u8 0) 1 1 Try.underlying22 hi hz0 hz1 hz2 (by rfl) hpos vo _ _ (by rfl) ((hown.alloc _).drew) ⟨wr.heap.size, 0, none⟩ 2 2 [.int .u8 (figI ((s[k].toNat : Int) / 16)), .int .u8 (figI ((s[k].toNat : Int) % 16))] (by rfl) (by rfl) (World.news_of_block (heap_alloc_new wr _)) ?_ hpos2 hmax hbd ?_ (wr.heap.size + 1) ?_ ?_; (simp [Value.oneCell']); (simp; omega); (simp); intro gg cap w1 hown1 hgrow hat hlt'))
      go_wp2
      all_goals exact ⟨⟨k + 1, _, rfl, by omega, by go_num, enc_step hlt rfl hown1, below_append hb hsz hown hgrow⟩, by simp [intOf]; omega⟩
    · have hke : k = s.size := by omega
      subst hke
      go_wp2_with (rw [conv_own hown])
      go_ret2
      rw [show encL (List.take s.size s.data.toList) = encL s.data.toList by rw [List.take_of_length_le (by simp)]]
      exact ⟨rfl, hb⟩
end Go.Proofs.Ytmcdjppppnmomaa
