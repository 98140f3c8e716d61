/- The law FnFieldsAgain, walked over the contracts of both SplitFields functions, FormatInt and the drawing of a line. Condition: the listed variables of the library hold what their initialisers lay. -/
import Derived.Test.YtmcdjppppnmomaaDoorAgM
import Derived.Test.YtmcdjppppnmomaaDoorAgD
import Derived.Test.YtmcdjppppnmomaaDoorSpW
import Derived.Test.YtmcdjppppnmomaaDoorSpI
import Derived.Test.YtmcdjppppnmomaaDoorFmtL
import Derived.BigQuiet
import Derived.Deep.QuietTactic
namespace Go.Proofs.YtmcdjppppnmomaaDoor
open Go.RowKit

theorem sameTexts_same (v1 v2 : Value) (fs : List (List UInt8)) (b1 b2 : Nat) (w : World) (h1 : OwnS w b1 v1 fs) (h2 : OwnS w b2 v2 fs) (hl : fs.length ≤ 1000000) :
    Calls Tryd.prog 18 #[v1, v2] w fun e w' => e = .returned (.bool true) ∧ ∃ n, w' = w.drewN n := by
  obtain ⟨A1, c1, e1⟩ := slice_own h1
  obtain ⟨A2, c2, e2⟩ := slice_own h2
  subst e1 e2
  have H1 := Lib.hid h1
  have H2 := Lib.hid h2
  clear h1 h2
  go_enter Tryd.func18, Tryd.ntmps18
  go_wp2
  go_loopw [5] (fun i wr => ∃ (k q : Nat), k ≤ fs.length ∧ i = .int .i64 k ∧ wr = w.drewN q) (fun i _ => fs.length - (intOf i).toNat)
  case atStart => exact ⟨0, 0, by omega, rfl, rfl⟩
  case round =>
    obtain ⟨k, q, hk, rfl, rfl⟩ := hrel
    by_cases hlt : k < fs.length
    · obtain ⟨g1, d1, e1, _, hc1, _⟩ := ownS_at H1.out hlt
      obtain ⟨g2, d2, e2, _, hc2, _⟩ := ownS_at H2.out hlt
      simp only [Value.slice.injEq] at e1 e2
      obtain ⟨rfl, _, _⟩ := e1
      obtain ⟨rfl, _, _⟩ := e2
      unfold strV at hc1 hc2
      generalize (⟨fs[k].toArray⟩ : ByteArray) = t at hc1 hc2
      have hk0 : (0 : Int) ≤ (k : Int) := by omega
      have hk1 : (k : Int) < (fs.length : Int) := by omega
      go_wp2
      go_quiet (fail)
      go_wp2
      exact ⟨⟨k + 1, q + nq, by omega, by go_num, rfl⟩, by simp [intOf]; omega⟩
    · go_wp2
      go_ret
      exact ⟨rfl, q, rfl⟩

def joinB (fs : List (List UInt8)) : ByteArray := ⟨(joinL fs).toArray⟩
theorem joinB_step (fs : List (List UInt8)) (k : Nat) (h : k < fs.length) (t : ByteArray) (ht : strV fs[k] = .string t) : (joinB (fs.take k) ++ t) ++ ⟨#[32]⟩ = joinB (fs.take (k + 1)) := by
  unfold strV at ht
  injection ht with ht
  subst ht
  apply ByteArray.ext
  unfold joinB
  rw [join_take fs k h]
  simp
theorem joinB_size (fs : List (List UInt8)) : (joinB fs).size = (joinL fs).length := by
  show (joinL fs).toArray.size = _
  simp

set_option maxHeartbeats 800000 in
theorem FnFieldsAgain_walk (a : Option Addr) (n cap : Nat) (z : List Int) (w : World) (hr : IsRow .u8 w a n cap z) (ht : Tab10 w) :
    Calls Tryd.prog 5 #[.slice a n cap] w fun e w' => e = .returned (.bool true) ∧ Below w.heap.size w w' := by
  by_cases hn : 1048576 < n
  · have hmx := row_len hr
    clear ht
    go_enter Tryd.func5, Tryd.ntmps5
    go_wp2_with fail
    refine (big_yes _ _ _ _ hn hmx).mono ?_
    rintro e w1 ⟨rfl, rfl⟩
    go_wp2
    go_ret
    exact ⟨rfl, Below.refl _ _⟩
  · have D := Lib.hid (drawSplitFields w a n cap z hr (by omega))
    have HT := Lib.hid ht
    clear hr ht
    go_enter Tryd.func5, Tryd.ntmps5
    go_wp2_with fail
    refine (big_no _ _ _ _ (by omega)).mono ?_
    rintro e w1 ⟨rfl, rfl⟩
    go_wp2_with fail
    refine D.out.mono ?_
    rintro e w1 ⟨s, rfl, hs, b1⟩
    have T1 := Lib.hid (HT.out.below b1)
    have hfl := splitR_len s.data.toList
    have hff := splitR_fields s.data.toList
    have hnn := splitR_none s.data.toList
    have c1 := specSplit s
    have c2 := implSplit s
    generalize splitR s.data.toList = r at hfl hff hnn c1 c2
    obtain ⟨fs, ok⟩ := r
    have C1 := Lib.hid c1
    have C2 := Lib.hid c2
    clear c1 c2
    replace hfl : fs.length ≤ 24 := hfl
    have FF : Hid (∀ f ∈ fs, FieldB f) := hff
    have hnn' : ok = false → fs = [] := hnn
    clear hff hnn
    cases ok
    · obtain rfl := hnn' rfl
      have F : ∀ W : World, Tab10 W → Calls Tryd.prog 11 #[.int .i64 (-3)] W fun e w' => e = .returned (.string { data := #[45, 51] }) ∧ Below W.heap.size W w' := by
        intro W hT
        have h := implFormat (-3) W (by omega) (by omega) hT
        have e : (⟨(Lib.itoa (-3)).toArray⟩ : ByteArray) = { data := #[45, 51] } := by decide +kernel
        rw [e] at h
        exact h
      have F := Lib.hid F
      clear hnn'
      go_wp2_with fail
      refine (C2.out _).mono ?_
      rintro e w2 ⟨v2, rfl, o2, b2⟩
      obtain ⟨A2, cp2, rfl⟩ := slice_own o2
      go_wp2_with fail
      refine (C1.out _).mono ?_
      rintro e w3 ⟨v3, rfl, o3, b3⟩
      have bb3 := b1.trans ((b2.trans (b3.mono b2.size)).mono b1.size)
      have T3 := Lib.hid (HT.out.below bb3)
      clear o2 o3
      go_wp2_with fail
      refine (F.out _ T3.out).mono ?_
      rintro e w4 ⟨rfl, b4⟩
      go_wp2
      go_ret
      exact ⟨rfl, bb3.trans (b4.mono bb3.size)⟩
    · clear hnn'
      go_wp2_with fail
      refine (C2.out _).mono ?_
      rintro e w2 ⟨v2, rfl, o2, b2⟩
      obtain ⟨A2, cp2, rfl⟩ := slice_own o2
      go_wp2_with fail
      refine (C1.out _).mono ?_
      rintro e w3 ⟨v3, rfl, o3, b3⟩
      have bb3 := b1.trans ((b2.trans (b3.mono b2.size)).mono b1.size)
      have O2 := Lib.hid (o2.below b3)
      clear o2 o3
      go_wp2
      go_loop [8, 9] (fun sv iv => ∃ k : Nat, k ≤ fs.length ∧ iv = .int .i64 k ∧ sv = .string (joinB (fs.take k))) (fun _ iv => fs.length - (intOf iv).toNat)
      case atStart => exact ⟨0, by omega, rfl, rfl⟩
      case round =>
        obtain ⟨k, hk, rfl, rfl⟩ := hrel
        have hjl : (joinB (fs.take k)).size ≤ 20000 := by
          rw [joinB_size]
          have h1 := join_len (fs.take k) (fun f hf => FF.out f (List.mem_of_mem_take hf))
          rw [List.length_take] at h1
          omega
        by_cases hlt : k < fs.length
        · obtain ⟨g2, d2, e2, _, hc2, _⟩ := ownS_at O2.out hlt
          simp only [Value.slice.injEq] at e2
          obtain ⟨rfl, _, _⟩ := e2
          have htl : fs[k].length ≤ 600 := (FF.out _ (List.getElem_mem hlt)).2.2
          obtain ⟨t, ht, hts⟩ : ∃ t : ByteArray, strV fs[k] = .string t ∧ t.size ≤ 600 := ⟨_, rfl, by show fs[k].toArray.size ≤ 600; simpa using htl⟩
          have HJ := Lib.hid (joinB_step fs k hlt t ht)
          rw [ht] at hc2
          clear ht htl
          generalize joinB (fs.take k) = u at hjl HJ ⊢
          have hk0 : (0 : Int) ≤ (k : Int) := by omega
          have hk1 : (k : Int) < (fs.length : Int) := by omega
          go_wp2
          exact ⟨⟨k + 1, by omega, by go_num, by rw [HJ.out]⟩, by simp [intOf]; omega⟩
        · have hke : k = fs.length := by omega
          subst hke
          rw [List.take_length] at hjl ⊢
          have hsz := joinB_size fs
          have hdl : (joinB fs).data.toList = joinL fs := by simp [joinB]
          have C3 := implSplit (joinB fs)
          by_cases hbig : 600 < (joinB fs).size
          · rw [splitR_long (joinB fs).data.toList (by rw [hdl]; omega)] at C3
            have C3' := Lib.hid C3
            generalize joinB fs = u at *
            clear C3 hsz hdl
            go_wp2_with fail
            refine (C3'.out _).mono ?_
            rintro e w4 ⟨v4, rfl, o4, b4⟩
            go_wp2
            go_ret
            exact ⟨rfl, bb3.trans (b4.mono bb3.size)⟩
          · rw [hdl, split_join fs FF.out hfl (by omega)] at C3
            have C3' := Lib.hid C3
            generalize joinB fs = u at *
            clear C3 hsz hdl
            go_wp2_with fail
            refine (C3'.out _).mono ?_
            rintro e w4 ⟨v4, rfl, o4, b4⟩
            go_wp2_with fail
            refine (sameTexts_same _ v4 fs _ _ _ (O2.out.below b4) o4 (by omega)).mono ?_
            rintro e w5 ⟨rfl, q5, rfl⟩
            go_wp2
            go_ret
            exact ⟨rfl, below_drewN (bb3.trans (b4.mono bb3.size)) _⟩
end Go.Proofs.YtmcdjppppnmomaaDoor
