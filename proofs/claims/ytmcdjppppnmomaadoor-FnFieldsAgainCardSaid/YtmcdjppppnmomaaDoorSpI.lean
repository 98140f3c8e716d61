/- The contract of the program's SplitFields, got by walking its body. No condition. -/
import Derived.Test.YtmcdjppppnmomaaDoorSpW0
import Derived.Test.YtmcdjppppnmomaaDoorShelf
namespace Go.Proofs.YtmcdjppppnmomaaDoor
open Go.RowKit

theorem clone_any (s : ByteArray) (w : World) (h : s.size ≤ 281474976710656) :
    Calls Tryd.prog 39 #[.string s] w fun e w' => e = .returned (.string s) ∧ Below w.heap.size w w' := by
  have C := Lib.hid (Tryd.stringslite_Clone s w h)
  go_enter Tryd.func39, Tryd.ntmps39
  go_wp2_with fail
  refine C.out.mono ?_
  rintro e w1 ⟨rfl, b1⟩
  go_wp2
  go_ret
  exact ⟨rfl, b1⟩

def AppendPost (w : World) (base : Nat) (fs : List (List UInt8)) (e : Ending) (w' : World) : Prop :=
  ∃ v' : Value, e = .returned v' ∧ OwnS w' base v' fs ∧ Below base w w'

theorem append_empty (v : Value) (fs : List (List UInt8)) (base : Nat) (w : World) (h : OwnS w base v fs) :
    Calls Tryd.prog 31 #[v, .string ⟨#[]⟩] w (AppendPost w base fs) := by
  obtain ⟨A, cap, rfl⟩ := slice_own h
  go_enter Tryd.func31, Tryd.ntmps31
  go_wp2
  go_ret
  exact ⟨_, rfl, h, Below.refl _ _⟩

theorem append_more (v : Value) (fs : List (List UInt8)) (base : Nat) (w : World) (h : OwnS w base v fs) (hB : base ≤ w.heap.size) (x : List UInt8) (hx : x ≠ []) (hl : x.length ≤ 1000) (hfl : fs.length ≤ 1000) :
    Calls Tryd.prog 31 #[v, .string ⟨x.toArray⟩] w (AppendPost w base (fs ++ [x])) := by
  obtain ⟨i0, hi, hz0, hz1, hz2⟩ := info_parts info_str
  have C := Lib.hid (clone_any ⟨x.toArray⟩ w (by show x.toArray.size ≤ _; simp; omega))
  have he : (⟨x.toArray⟩ : ByteArray).toList.isEmpty = false := by
    rw [ByteArray.toList_eq]
    cases x with
    | nil => exact absurd rfl hx
    | cons a r => simp
  have hst : Value.string ⟨x.toArray⟩ = strV x := rfl
  generalize hs : (⟨x.toArray⟩ : ByteArray) = t at *
  have HS := Lib.hid hst
  have hpos : 0 < 1 := by omega
  have hmax : fs.length + 1 ≤ maxLen := by simp only [maxLen]; omega
  have hbd : (fs.length + 1) * 16 ≤ 140737488355328 := by omega
  clear hs hst hx hl
  go_enter Tryd.func31, Tryd.ntmps31
  go_wp2_with fail
  refine C.out.mono ?_
  rintro e w1 ⟨rfl, b1⟩
  have own1 : OwnS w1 base v fs := by
    have hg : w.grownBy w1 none := ⟨b1.os, b1.tape, b1.output, b1.size, fun k hk _ => b1.block k hk⟩
    exact World.ownsRow.kept h hg (by cases v.ownBlock <;> simp)
  have hsz := b1.size
  go_wp2_with (at_builtin; refine wpList_append_lies _ rfl (.tmp 8) (.tmp 11) 31 rfl base 9 i0 (.string ⟨#[]⟩) 1 16 Tryd.underlying31 hi hz0 hz1 hz2 rfl hpos v _ _ rfl (own1.alloc _) ⟨w1.heap.size, 0, none⟩ 1 1 [.string t] rfl rfl (cell_one_new _ _ _) ?_ hpos hmax hbd ?_ (w1.heap.size + 1) ?_ ?_; (simp [Value.oneCell']); (simp; omega); (simp); intro gg cap w2 hown1 hgrow hat hlt')
  go_ret
  rw [HS.out] at hown1
  exact ⟨_, rfl, ownS_snoc rfl hown1, ((b1.mono hB).alloc (by omega) _).grown hgrow (by simp; omega) (fun q hq => (own1.lt q hq).1)⟩

theorem implSplit_long (s : ByteArray) (w : World) (h : 600 < s.size) :
    Calls Tryd.prog 16 #[.string s] w (SplitPost w (splitR s.data.toList)) := by
  rw [splitR_long _ (by simpa using h)]
  go_enter Tryd.func16, Tryd.ntmps16
  go_wp2
  go_step3
  go_wp2
  rw [Exit.noGoto_ret]
  go_ret2
  exact ⟨_, rfl, World.ownsRow_nil _ _ _ _, Below.refl _ _⟩

theorem cut_len (s : List UInt8) (b k : Nat) : (cut s b k).length ≤ k - b := List.length_take_le _ _
theorem cut_ne (s : List UInt8) (b k : Nat) (h : b < k) (hk : k ≤ s.length) : cut s b k ≠ [] := by
  intro e
  have := congrArg List.length e
  simp [cut] at this
  omega
theorem cut_same (s : List UInt8) (k : Nat) : cut s k k = [] := by simp [cut]

set_option maxRecDepth 100000 in
set_option maxHeartbeats 800000 in
theorem implSplit_short (s : ByteArray) (w : World) (hs : s.size ≤ 600) :
    Calls Tryd.prog 16 #[.string s] w (SplitPost w (splitR s.data.toList)) := by
  go_enter Tryd.func16, Tryd.ntmps16
  go_wp2
  go_step3
  go_wp2
  go_step3
  go_wp2
  go_loopw [4, 5, 6, 14] (fun v ok bv i wr => ∃ (k b : Nat) (fs : List (List UInt8)) (vo : Value), vo = v ∧ k ≤ s.size ∧ b ≤ k ∧ fs.length ≤ k ∧ i = .int .i64 k ∧ bv = .int .i64 b ∧ ok = .bool true ∧
      Hid ((∀ c ∈ s.data.toList.take k, PrintB c) ∧ scan s.data.toList k = (fs, b)) ∧ OwnS wr w.heap.size vo fs ∧ Below w.heap.size w wr) (fun _ _ _ i _ => s.size - (intOf i).toNat)
  case atStart =>
    exact ⟨0, 0, [], _, rfl, by omega, by omega, by simp, rfl, rfl, rfl, ⟨by simp, rfl⟩, World.ownsRow_nil _ _ _ _, Below.refl _ _⟩
  case round =>
    obtain ⟨k, b, fs, vo, rfl, hk, hbk, hfl, rfl, rfl, rfl, hinv, hown, hb⟩ := hrel
    have hsz := hb.size
    have hl0 : s.data.toList.length = s.size := by simp
    have L0 := Lib.hid hl0
    clear hl0
    by_cases hlt : k < s.size
    · by_cases hbad : (s[k].toNat : Int) < 32 ∨ (126 : Int) < (s[k].toNat : Int)
      · have hr := Lib.hid (splitR_bad s.data.toList s[k] (by rw [ByteArray.getElem_eq_getElem_data]; simp) (by unfold PrintB; omega))
        have hext := ext_cut s b s.size
        have D : ∀ W : World, OwnS W w.heap.size vo fs → w.heap.size ≤ W.heap.size → Calls Tryd.prog 31 #[vo, .string ⟨(cut s.data.toList b s.size).toArray⟩] W (AppendPost W w.heap.size (fs ++ [cut s.data.toList b s.size])) := fun W hW hB =>
          append_more vo fs _ W hW hB _ (cut_ne _ _ _ (by omega) (by rw [L0.out]; exact Nat.le_refl _)) (by have := cut_len s.data.toList b s.size; omega) (by omega)
        have D := Lib.hid D
        clear hinv
        rcases hbad with h0 | h0
        all_goals
          go_wp2_with fail
          refine (D.out _ hown hsz).mono ?_
          rintro e w1 ⟨v', rfl, hown', b1⟩
          go_wp2
          rw [Exit.noGoto_ret]
          go_ret2
          rw [hr.out]
          exact ⟨_, rfl, World.ownsRow_nil _ _ _ _, hb.trans b1⟩
      · have hp0 : (32 : Int) ≤ (s[k].toNat : Int) := by omega
        have hp1 : (s[k].toNat : Int) ≤ 126 := by omega
        obtain ⟨q1, hsc⟩ := hinv.out
        have HA := Lib.hid (show ∀ c ∈ s.data.toList.take (k + 1), PrintB c by
          rw [take_snoc s k hlt]
          intro c hm
          rw [List.mem_append] at hm
          rcases hm with hm | hm
          · exact q1 c hm
          · simp only [List.mem_singleton] at hm
            subst hm
            unfold PrintB
            omega)
        by_cases h32 : (s[k].toNat : Int) = 32
        · have hq : ((s[k].toNat : Int) == 32) = true := by rw [beq_iff_eq]; exact h32
          have hg : s.data.toList.getD k 0 = 32 := by
            rw [getD_byte s k hlt]
            apply UInt8.toNat_inj.1
            show s[k].toNat = 32
            omega
          have hext := ext_cut s b k
          by_cases hbl : b < k
          · have HS := Lib.hid (scan_space hg (by rw [hsc]; exact hbl))
            rw [hsc] at HS
            have D := Lib.hid (append_more vo fs _ wr hown hsz _ (cut_ne s.data.toList b k hbl (by rw [L0.out]; exact hk)) (by have := cut_len s.data.toList b k; omega) (by omega))
            clear q1 hsc hg h32 hbad hinv
            go_wp2_with fail
            refine D.out.mono ?_
            rintro e w1 ⟨v', rfl, hown', b1⟩
            go_wp2
            exact ⟨⟨k + 1, k + 1, fs ++ [cut s.data.toList b k], _, rfl, by omega, by omega, by simp; omega, by go_num, by go_num, rfl, ⟨HA.out, HS.out⟩, hown', hb.trans b1⟩, by simp [intOf]; omega⟩
          · have hbe : b = k := by omega
            subst hbe
            have HS := Lib.hid (scan_empty hg (by rw [hsc]; exact hbl))
            rw [hsc] at HS
            rw [cut_same] at hext
            have D := Lib.hid (append_empty vo fs _ wr hown)
            clear q1 hsc hg h32 hbad hinv
            go_wp2_with fail
            refine D.out.mono ?_
            rintro e w1 ⟨v', rfl, hown', b1⟩
            go_wp2
            exact ⟨⟨b + 1, b + 1, fs, _, rfl, by omega, by omega, by omega, by go_num, by go_num, rfl, ⟨HA.out, HS.out⟩, hown', hb.trans b1⟩, by simp [intOf]; omega⟩
        · have hq : ((s[k].toNat : Int) == 32) = false := by rw [beq_eq_false_iff_ne]; exact h32
          have hg : s.data.toList.getD k 0 ≠ 32 := by
            rw [getD_byte s k hlt]
            intro e
            rw [e] at h32
            exact h32 rfl
          have HS := Lib.hid (scan_other hg)
          rw [hsc] at HS
          clear q1 hsc hg h32 hbad hinv
          go_wp2
          exact ⟨⟨k + 1, b, fs, _, rfl, by omega, by omega, by omega, by go_num, rfl, rfl, ⟨HA.out, HS.out⟩, hown, hb⟩, by simp [intOf]; omega⟩
    · have hke : k = s.size := by omega
      subst hke
      obtain ⟨q1, hsc⟩ := hinv.out
      have hall : ∀ c ∈ s.data.toList, PrintB c := fun c hc => q1 c (by rw [List.take_of_length_le (by simp)]; exact hc)
      have hext := ext_cut s b s.size
      have hf : fieldsOf s.data.toList = if b < s.size then fs ++ [cut s.data.toList b s.size] else fs := by unfold fieldsOf; rw [L0.out, hsc]
      have D : Calls Tryd.prog 31 #[vo, .string ⟨(cut s.data.toList b s.size).toArray⟩] wr (AppendPost wr w.heap.size (fieldsOf s.data.toList)) := by
        by_cases hbl : b < s.size
        · rw [hf, if_pos hbl]
          exact append_more vo fs _ wr hown hsz _ (cut_ne _ _ _ hbl (by rw [L0.out]; exact Nat.le_refl _)) (by have := cut_len s.data.toList b s.size; omega) (by omega)
        · rw [hf, if_neg hbl, show cut s.data.toList b s.size = [] by rw [show b = s.size by omega]; exact cut_same _ _]
          exact append_empty vo fs _ wr hown
      have D := Lib.hid D
      have HG : Hid ((fieldsOf s.data.toList).length ≤ 24 → splitR s.data.toList = (fieldsOf s.data.toList, true)) := fun h => splitR_good s.data.toList (by rw [L0.out]; exact hs) hall h
      have HM : Hid (24 < (fieldsOf s.data.toList).length → splitR s.data.toList = ([], false)) := fun h => splitR_many s.data.toList h
      clear q1 hsc hall hf hinv
      generalize fieldsOf s.data.toList = all at *
      go_wp2_with fail
      refine D.out.mono ?_
      rintro e w1 ⟨v', rfl, hown', b1⟩
      obtain ⟨A, cap, rfl⟩ := slice_own hown'
      by_cases hc : 24 < all.length
      · go_wp2
        rw [Exit.noGoto_ret]
        go_ret2
        rw [HM.out hc]
        exact ⟨_, rfl, World.ownsRow_nil _ _ _ _, hb.trans b1⟩
      · go_wp2
        rw [Exit.noGoto_ret]
        go_ret2
        rw [HG.out (by omega)]
        exact ⟨_, rfl, hown', hb.trans b1⟩

theorem implSplit (s : ByteArray) (w : World) : Calls Tryd.prog 16 #[.string s] w (SplitPost w (splitR s.data.toList)) := by
  by_cases h : 600 < s.size
  · exact implSplit_long s w h
  · exact implSplit_short s w (by omega)
end Go.Proofs.YtmcdjppppnmomaaDoor
