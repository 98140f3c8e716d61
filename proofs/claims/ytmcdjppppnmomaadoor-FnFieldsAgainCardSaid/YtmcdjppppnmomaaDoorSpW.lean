/- The contract of the model's SplitFields, got by walking its body. No condition. -/
import Derived.Test.YtmcdjppppnmomaaDoorSpW0
namespace Go.Proofs.YtmcdjppppnmomaaDoor
open Go.RowKit

theorem specSplit_long (s : ByteArray) (w : World) (h : 600 < s.size) :
    Calls Tryd.prog 17 #[.string s] w (SplitPost w (splitR s.data.toList)) := by
  rw [splitR_long _ (by simpa using h)]
  go_enter Tryd.func17, Tryd.ntmps17
  go_wp2
  go_ret2
  exact ⟨_, rfl, ownS_nil w _ (Nat.le_refl _), (Below.refl _ _).alloc (Nat.le_refl _) _⟩

set_option maxRecDepth 100000 in
set_option maxHeartbeats 800000 in
theorem specSplit_short (s : ByteArray) (w : World) (hs : s.size ≤ 600) :
    Calls Tryd.prog 17 #[.string s] w (SplitPost w (splitR s.data.toList)) := by
  obtain ⟨i0, hi, hz0, hz1, hz2⟩ := info_parts info_str
  go_enter Tryd.func17, Tryd.ntmps17
  go_wp2
  go_loopw [4, 5, 6] (fun v bv i wr => ∃ (k b : Nat) (fs : List (List UInt8)) (vo : Value), vo = v ∧ k ≤ s.size + 1 ∧ b ≤ k ∧ fs.length ≤ k ∧ i = .int .i64 k ∧ bv = .int .i64 b ∧
      Hid ((∀ c ∈ s.data.toList.take k, PrintB c) ∧ (k ≤ s.size → scan s.data.toList k = (fs, b)) ∧ (k = s.size + 1 → fs = fieldsOf s.data.toList)) ∧ OwnS wr w.heap.size vo fs ∧ Below w.heap.size w wr) (fun _ _ i _ => s.size + 1 - (intOf i).toNat)
  case atStart =>
    exact ⟨0, 0, [], _, rfl, by omega, by omega, by simp, rfl, rfl, ⟨by simp, fun _ => rfl, by omega⟩, ownS_nil w _ (Nat.le_refl _), (Below.refl _ _).alloc (Nat.le_refl _) _⟩
  case round =>
    obtain ⟨k, b, fs, vo, rfl, hk, hbk, hfl, rfl, rfl, hinv, hown, hb⟩ := hrel
    by_cases hend : k ≤ s.size
    · have hsz := hb.size
      have hpos : 0 < 1 := by omega
      have hmax : fs.length + 1 ≤ maxLen := by simp only [maxLen]; omega
      have hbd : (fs.length + 1) * 16 ≤ 140737488355328 := by omega
      have hext := ext_cut s b k
      by_cases hlt : k < s.size
      · by_cases hp0 : (s[k].toNat : Int) < 32
        · have hr := Lib.hid (splitR_bad s.data.toList s[k] (by rw [ByteArray.getElem_eq_getElem_data]; simp) (by unfold PrintB; omega))
          go_wp2
          go_ret2
          rw [hr.out]
          exact ⟨_, rfl, ownS_nil wr _ hsz, hb.alloc hsz _⟩
        · by_cases hp1 : (126 : Int) < (s[k].toNat : Int)
          · have hr := Lib.hid (splitR_bad s.data.toList s[k] (by rw [ByteArray.getElem_eq_getElem_data]; simp) (by unfold PrintB; omega))
            go_wp2
            go_ret2
            rw [hr.out]
            exact ⟨_, rfl, ownS_nil wr _ hsz, hb.alloc hsz _⟩
          · by_cases h32 : (s[k].toNat : Int) = 32
            · have hq : ((s[k].toNat : Int) != 32) = false := by rw [bne_eq_false_iff_eq]; exact h32
              clear h32
              obtain ⟨q1, q2, _⟩ := hinv.out
              have hall : ∀ c ∈ s.data.toList.take (k + 1), PrintB c := by
                rw [take_snoc s k hlt]
                intro c hm
                rw [List.mem_append] at hm
                rcases hm with hm | hm
                · exact q1 c hm
                · simp only [List.mem_singleton] at hm
                  subst hm
                  unfold PrintB
                  simp at hq
                  omega
              have hg : s.data.toList.getD k 0 = 32 := by
                rw [getD_byte s k hlt]
                apply UInt8.toNat_inj.1
                show s[k].toNat = 32
                simp at hq
                omega
              have hsc := q2 hend
              have HA := Lib.hid hall
              by_cases hbl : b < k
              · have HS := Lib.hid (scan_space hg (by rw [hsc]; exact hbl))
                rw [hsc] at HS
                clear q1 q2 hall hg hsc
                go_wp2_with (at_builtin; refine wpList_append_lies _ rfl (.tmp 48) (.tmp 53) 31 rfl w.heap.size 9 i0 (.string ⟨#[]⟩) 1 16 Tryd.underlying31 hi hz0 hz1 hz2 rfl hpos vo _ _ rfl (hown.alloc _) ⟨wr.heap.size, 0, none⟩ 1 1 [strV (cut s.data.toList b k)] rfl rfl (cell_one_new _ _ _) ?_ hpos hmax hbd ?_ (wr.heap.size + 1) ?_ ?_; (simp [Value.oneCell', strV]); (simp; omega); (simp); intro gg cap w1 hown1 hgrow hat hlt')
                exact ⟨⟨k + 1, k + 1, fs ++ [cut s.data.toList b k], _, rfl, by omega, by omega, by simp; omega, by go_num, by go_num, ⟨HA.out, fun _ => HS.out, by omega⟩, ownS_snoc rfl hown1, below_append_plain hb hsz hown hgrow⟩, by simp [intOf]; omega⟩
              · have HS := Lib.hid (scan_empty hg (by rw [hsc]; exact hbl))
                rw [hsc] at HS
                clear q1 q2 hall hg hsc
                go_wp2
                exact ⟨⟨k + 1, k + 1, fs, _, rfl, by omega, by omega, by omega, by go_num, by go_num, ⟨HA.out, fun _ => HS.out, by omega⟩, hown, hb⟩, by simp [intOf]; omega⟩
            · have hq : ((s[k].toNat : Int) != 32) = true := by rw [bne_iff_ne]; exact h32
              obtain ⟨q1, q2, _⟩ := hinv.out
              have hall : ∀ c ∈ s.data.toList.take (k + 1), PrintB c := by
                rw [take_snoc s k hlt]
                intro c hm
                rw [List.mem_append] at hm
                rcases hm with hm | hm
                · exact q1 c hm
                · simp only [List.mem_singleton] at hm
                  subst hm
                  unfold PrintB
                  omega
              have hg : s.data.toList.getD k 0 ≠ 32 := by
                rw [getD_byte s k hlt]
                intro e
                rw [e] at h32
                exact h32 rfl
              have HS := Lib.hid (scan_other hg)
              have hsc := q2 hend
              rw [hsc] at HS
              have HA := Lib.hid hall
              clear h32 q1 q2 hall hg hsc
              go_wp2
              exact ⟨⟨k + 1, b, fs, _, rfl, by omega, by omega, by omega, by go_num, rfl, ⟨HA.out, fun _ => HS.out, by omega⟩, hown, hb⟩, by simp [intOf]; omega⟩
      · have hke : k = s.size := by omega
        subst hke
        obtain ⟨q1, q2, _⟩ := hinv.out
        have hsc := q2 (Nat.le_refl _)
        have hl0 : s.data.toList.length = s.size := by simp
        have hf := Lib.hid (show fieldsOf s.data.toList = if b < s.size then fs ++ [cut s.data.toList b s.size] else fs by unfold fieldsOf; rw [hl0, hsc])
        have HA := Lib.hid (show ∀ c ∈ s.data.toList.take (s.size + 1), PrintB c from fun c hc => q1 c (by rw [List.take_of_length_le (by simp)] at hc ⊢; exact hc))
        clear q1 q2 hsc hl0
        by_cases hbl : b < s.size
        · go_wp2_with (at_builtin; refine wpList_append_lies _ rfl (.tmp 48) (.tmp 53) 31 rfl w.heap.size 9 i0 (.string ⟨#[]⟩) 1 16 Tryd.underlying31 hi hz0 hz1 hz2 rfl hpos vo _ _ rfl (hown.alloc _) ⟨wr.heap.size, 0, none⟩ 1 1 [strV (cut s.data.toList b s.size)] rfl rfl (cell_one_new _ _ _) ?_ hpos hmax hbd ?_ (wr.heap.size + 1) ?_ ?_; (simp [Value.oneCell', strV]); (simp; omega); (simp); intro gg cap w1 hown1 hgrow hat hlt')
          exact ⟨⟨s.size + 1, s.size + 1, fs ++ [cut s.data.toList b s.size], _, rfl, by omega, by omega, by simp; omega, by go_num, by go_num, ⟨HA.out, by omega, fun _ => by rw [hf.out, if_pos hbl]⟩, ownS_snoc rfl hown1, below_append_plain hb hsz hown hgrow⟩, by simp [intOf]⟩
        · go_wp2
          exact ⟨⟨s.size + 1, s.size + 1, fs, _, rfl, by omega, by omega, by omega, by go_num, by go_num, ⟨HA.out, by omega, fun _ => by rw [hf.out, if_neg hbl]⟩, hown, hb⟩, by simp [intOf]⟩
    · have hke : k = s.size + 1 := by omega
      subst hke
      obtain ⟨q1, _, q3⟩ := hinv.out
      have hfe := q3 rfl
      have hall : ∀ c ∈ s.data.toList, PrintB c := fun c hc => q1 c (by rw [List.take_of_length_le (by simp)]; exact hc)
      have hsz := hb.size
      obtain ⟨A, cap, rfl⟩ := slice_own hown
      by_cases hc : 24 < fs.length
      · have hr := Lib.hid (splitR_many s.data.toList (by rw [← hfe]; exact hc))
        clear q1 q3 hfe hall hinv
        go_wp2
        go_ret2
        rw [hr.out]
        exact ⟨_, rfl, ownS_nil wr _ hsz, hb.alloc hsz _⟩
      · have hr := Lib.hid (splitR_good s.data.toList (by simpa using hs) hall (by rw [← hfe]; omega))
        rw [← hfe] at hr
        clear q1 q3 hfe hall hinv
        go_wp2
        go_ret2
        rw [hr.out]
        exact ⟨_, rfl, hown, hb⟩

theorem specSplit (s : ByteArray) (w : World) : Calls Tryd.prog 17 #[.string s] w (SplitPost w (splitR s.data.toList)) := by
  by_cases h : 600 < s.size
  · exact specSplit_long s w h
  · exact specSplit_short s w (by omega)
end Go.Proofs.YtmcdjppppnmomaaDoor
