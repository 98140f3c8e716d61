/- The contract of the program's ParseUint over the library's Atoi, and the law FnExactParseUint walked over both contracts. Condition: the listed variables of the library hold what their initialisers lay. -/
import Derived.Test.YtmcdjppppnmomaaDoorPuW
import Derived.Test.YtmcdjppppnmomaaDoorFmtL
import Derived.Lib.AtoiErrMem
import Derived.Shelf.Strconv.AtoiAll
namespace Go.Proofs.YtmcdjppppnmomaaDoor
open Go.RowKit

/-- Where a text spells no int, Atoi returns an error that is not nil. -/
theorem atoi_bad (s : ByteArray) (hlim : s.size ≤ 281474976710656) (h : ∀ v, Lib.atoiAll s.data.toList ≠ .ok v) (w : World) (hE : ErrVars w) :
    Calls Tryd.prog 29 #[.string s] w fun e w' => ∃ (x : Int) (N : Nat), e = .returned (.tuple #[.int .i64 x, .iface 63 (.pointer (some ⟨N, 0, none⟩))]) ∧ Below w.heap.size w w' := by
  obtain ⟨e1, e2, h1, p1, h2, p2⟩ := hE
  cases ha : Lib.atoiAll s.data.toList with
  | ok v => exact absurd ha (h v)
  | range =>
    refine (Any.strconv_Atoi_range Tryd.laysC172 s hlim ha e2 w h2 p2).mono ?_
    rintro e w' ⟨N, rfl, _, _, hb⟩
    exact ⟨_, N, rfl, hb⟩
  | _ =>
    refine (Any.strconv_Atoi_syntax Tryd.laysC172 s hlim ha e1 w h1 p1).mono ?_
    rintro e w' ⟨N, rfl, _, _, hb⟩
    exact ⟨_, N, rfl, hb⟩

theorem atoi_good (s : ByteArray) (hlim : s.size ≤ 281474976710656) (v : Int) (h : Lib.atoiAll s.data.toList = .ok v) (w : World) :
    Calls Tryd.prog 29 #[.string s] w fun e w' => e = .returned (.tuple #[.int .i64 v, .nilIface]) ∧ Below w.heap.size w w' := by
  refine (Tryd.strconv_Atoi_ok s (by omega) v h w).mono ?_
  rintro e w' ⟨rfl, hw⟩
  refine ⟨rfl, ?_⟩
  rcases hw with rfl | ⟨t, rfl⟩
  · exact Below.refl _ _
  · exact Lib.bytesWorld_below _ _ _

theorem implParse_yes (s : ByteArray) (u : Nat) (hu : u ≤ 1000000000) (hs : s.data.toList = Lib.decDigits u) (w : World) (ht : Tab10 w) :
    Calls Tryd.prog 14 #[.string s] w fun e w' => e = .returned (.tuple #[.int .i64 (u : Int), .bool true]) ∧ Below w.heap.size w w' := by
  have hsz : s.size ≤ 10 := by
    have h1 := dec_len_le 9 u (by omega)
    rw [← hs] at h1
    simpa using h1
  have A := Lib.hid (atoi_good s (by omega) u (by rw [hs]; exact atoi_dec u hu))
  have C : ∀ W : World, Tab10 W → Calls Tryd.prog 11 #[.int .i64 (u : Int)] W fun e w' => e = .returned (.string s) ∧ Below W.heap.size W w' := by
    intro W hT
    have h := implFormat (u : Int) W (by omega) (by omega) hT
    rw [itoa_nat, ← hs] at h
    exact h
  have C := Lib.hid C
  have HT := Lib.hid ht
  clear hs ht
  have hu0 : (0 : Int) ≤ (u : Int) := by omega
  go_enter Tryd.func14, Tryd.ntmps14
  go_wp2_with fail
  refine (A.out _).mono ?_
  rintro e w1 ⟨rfl, b1⟩
  go_wp2_with fail
  refine (C.out _ (HT.out.below b1)).mono ?_
  rintro e w2 ⟨rfl, b2⟩
  go_wp2
  go_ret2
  exact ⟨rfl, b1.trans (b2.mono b1.size)⟩

theorem implParse_no (s : ByteArray) (hlim : s.size ≤ 281474976710656) (hno : ∀ u : Nat, u ≤ 1000000000 → s.data.toList ≠ Lib.decDigits u) (w : World) (ht : Tab10 w) (hE : ErrVars w) :
    Calls Tryd.prog 14 #[.string s] w fun e w' => e = .returned (.tuple #[.int .i64 0, .bool false]) ∧ Below w.heap.size w w' := by
  by_cases hok : ∃ v, Lib.atoiAll s.data.toList = .ok v
  · obtain ⟨v, hv⟩ := hok
    have A := Lib.hid (atoi_good s hlim v hv)
    have HT := Lib.hid ht
    have HN := Lib.hid hno
    clear hv hno ht hE
    by_cases h0 : v < 0
    · go_enter Tryd.func14, Tryd.ntmps14
      go_wp2_with fail
      refine (A.out _).mono ?_
      rintro e w1 ⟨rfl, b1⟩
      go_wp2
      go_ret2
      exact ⟨rfl, b1⟩
    · by_cases h1 : 1000000000 < v
      · go_enter Tryd.func14, Tryd.ntmps14
        go_wp2_with fail
        refine (A.out _).mono ?_
        rintro e w1 ⟨rfl, b1⟩
        go_wp2
        go_ret2
        exact ⟨rfl, b1⟩
      · obtain ⟨u, rfl⟩ := Int.eq_ofNat_of_zero_le (show 0 ≤ v by omega)
        have hne := HN.out u (by omega)
        have C := fun W (hT : Tab10 W) => implFormat (u : Int) W (by omega) (by omega) hT
        rw [itoa_nat] at C
        have hne1 := str_ne (l := Lib.decDigits u) hne
        generalize (⟨(Lib.decDigits u).toArray⟩ : ByteArray) = out at C hne1
        have C' := Lib.hid C
        clear hne C HN
        go_enter Tryd.func14, Tryd.ntmps14
        go_wp2_with fail
        refine (A.out _).mono ?_
        rintro e w1 ⟨rfl, b1⟩
        go_wp2_with fail
        refine (C'.out _ (HT.out.below b1)).mono ?_
        rintro e w2 ⟨rfl, b2⟩
        go_wp2
        go_ret2
        exact ⟨rfl, b1.trans (b2.mono b1.size)⟩
  · have A := Lib.hid (atoi_bad s hlim (fun v h => hok ⟨v, h⟩) w hE)
    clear hok hno ht hE
    go_enter Tryd.func14, Tryd.ntmps14
    go_wp2_with fail
    refine A.out.mono ?_
    rintro e w1 ⟨x, N, rfl, b1⟩
    go_wp2
    go_ret2
    exact ⟨rfl, b1⟩

theorem FnExactParseUint_walk (s : ByteArray) (w : World) (_ : s.size ≤ maxLen) (ht : Tab10 w) (hE : ErrVars w) :
    Calls Tryd.prog 7 #[.string s] w fun e w' => e = .returned (.bool true) ∧ Below w.heap.size w w' := by
  by_cases h1 : 1048576 < s.size
  · go_enter Tryd.func7, Tryd.ntmps7
    go_wp2
    go_ret
    exact ⟨rfl, Below.refl _ _⟩
  · have key : ∃ (x : Int) (ok : Bool), Calls Tryd.prog 20 #[.string s] w (fun e w' => e = .returned (.tuple #[.int .i64 x, .bool ok]) ∧ Below w.heap.size w w') ∧
        ∀ W, Tab10 W → ErrVars W → Calls Tryd.prog 14 #[.string s] W (fun e w' => e = .returned (.tuple #[.int .i64 x, .bool ok]) ∧ Below W.heap.size W w') := by
      by_cases hy : ∃ u : Nat, u ≤ 1000000000 ∧ s.data.toList = Lib.decDigits u
      · obtain ⟨u, hu, hs⟩ := hy
        exact ⟨u, true, specParse_yes s u hu hs w, fun W hT _ => implParse_yes s u hu hs W hT⟩
      · have hno : ∀ u : Nat, u ≤ 1000000000 → s.data.toList ≠ Lib.decDigits u := fun u hu h => hy ⟨u, hu, h⟩
        refine ⟨0, false, ?_, fun W hT hE' => implParse_no s (by omega) hno W hT hE'⟩
        by_cases hl : 10 < s.size
        · exact specParse_long s w hl
        · exact specParse_no s (by omega) hno w
    obtain ⟨x, ok, C1, C2⟩ := key
    have C1 := Lib.hid C1
    have C2 := Lib.hid C2
    have HT := Lib.hid ht
    have HE := Lib.hid hE
    clear ht hE
    cases ok
    all_goals
      go_enter Tryd.func7, Tryd.ntmps7
      go_wp2_with fail
      refine C1.out.mono ?_
      rintro e w1 ⟨rfl, b1⟩
      go_wp2_with fail
      refine (C2.out _ (HT.out.below b1) (HE.out.below b1)).mono ?_
      rintro e w2 ⟨rfl, b2⟩
      go_wp2
      go_ret
      exact ⟨rfl, b1.trans (b2.mono b1.size)⟩
end Go.Proofs.YtmcdjppppnmomaaDoor
