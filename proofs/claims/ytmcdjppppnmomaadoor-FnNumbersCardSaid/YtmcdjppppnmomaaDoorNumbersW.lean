/- The law FnNumbers, walked over the contracts of FormatInt and ParseUint and of the drawing functions. Condition: the listed variables of the library hold what their initialisers lay. -/
import Derived.Test.YtmcdjppppnmomaaDoorPuI
import Derived.Test.YtmcdjppppnmomaaDoorNew
namespace Go.Proofs.YtmcdjppppnmomaaDoor
open Go.RowKit

theorem wrap64_in64 (x : Int) : InI64 (wrap64 x) := by
  unfold InI64 wrap64
  omega

def IntPost (w : World) (e : Ending) (w' : World) : Prop := ∃ x : Int, e = .returned (.int .i64 x) ∧ InI64 x ∧ Below w.heap.size w w'

theorem drawFormatInt (w : World) (a : Option Addr) (n cap : Nat) (z : List Int) (hr : IsRow .u8 w a n cap z) (hn : n ≤ 1048576) :
    Calls Tryd.prog 13 #[.slice a n cap] w (IntPost w) := by
  have N := Lib.hid (new_any w a n cap z hr hn)
  have O := Lib.hid (once_any w a n cap z hr)
  have M := Lib.hid (number_any w a n cap z hr)
  have B := Lib.hid (below_any w a n cap z hr)
  clear hr
  go_enter Tryd.func13, Tryd.ntmps13
  go_wp2_with fail
  refine N.out.mono ?_
  rintro e w1 ⟨b, rfl, s1⟩
  go_wp2_with fail
  refine (O.out _ _ s1 _).mono ?_
  rintro e w2 ⟨x, rfl, s2, _⟩
  cases x
  · go_wp2_with fail
    refine (M.out _ _ s2).mono ?_
    rintro e w3 ⟨x3, rfl, i3, s3, _⟩
    go_wp2
    go_ret
    exact ⟨_, rfl, i3, s3.below⟩
  · go_wp2_with fail
    refine (B.out _ _ s2 _).mono ?_
    rintro e w3 ⟨x3, rfl, ⟨l3, u3, _⟩, s3, _⟩
    have u3 := u3 (by omega)
    go_wp2_with fail
    refine (B.out _ _ s3 _).mono ?_
    rintro e w4 ⟨x4, rfl, ⟨l4, u4, _⟩, s4, _⟩
    have u4 := u4 (by omega)
    go_wp2
    go_ret
    exact ⟨_, rfl, wrap64_in64 _, s4.below⟩

theorem itoa_cases (n : Int) (hn : ¬ (0 ≤ n ∧ n ≤ 1000000000)) : ∀ u : Nat, u ≤ 1000000000 → Lib.itoa n ≠ Lib.decDigits u := by
  intro u hu e
  unfold Lib.itoa at e
  split at e
  · have h1 := dec_dig u 45 (by rw [← e]; simp)
    unfold DigB at h1
    simp at h1
  · have h1 := congrArg (valFrom 0) e
    rw [val_dec, val_dec] at h1
    omega

theorem itoa_ne_nil (n : Int) : Lib.itoa n ≠ [] := by
  unfold Lib.itoa
  split
  · simp
  · exact dec_ne_nil _
theorem itoa_len (n : Int) (h : InI64 n) : (Lib.itoa n).length ≤ 20 := by
  unfold InI64 at h
  unfold Lib.itoa
  split
  · have := dec_len20 n.natAbs (by omega)
    simp
    omega
  · have := dec_len20 n.toNat (by omega)
    omega

theorem FnNumbers_walk (a : Option Addr) (n cap : Nat) (z : List Int) (w : World) (hr : IsRow .u8 w a n cap z) (ht : Tab10 w) (hE : ErrVars w) :
    Calls Tryd.prog 4 #[.slice a n cap] w fun e w' => e = .returned (.bool true) ∧ Below w.heap.size w w' := by
  by_cases hn : 1048576 < n
  · have hmx := row_len hr
    clear ht hE
    go_enter Tryd.func4, Tryd.ntmps4
    go_wp2_with fail
    refine (big_yes _ _ _ _ hn hmx).mono ?_
    rintro e w1 ⟨rfl, rfl⟩
    go_wp2
    go_ret
    exact ⟨rfl, Below.refl _ _⟩
  · have D := Lib.hid (drawFormatInt w a n cap z hr (by omega))
    have HT := Lib.hid ht
    have HE := Lib.hid hE
    clear hr ht hE
    go_enter Tryd.func4, Tryd.ntmps4
    go_wp2_with fail
    refine (big_no _ _ _ _ (by omega)).mono ?_
    rintro e w1 ⟨rfl, rfl⟩
    go_wp2_with fail
    refine D.out.mono ?_
    rintro e w1 ⟨x, rfl, hx, b1⟩
    have T1 := Lib.hid (HT.out.below b1)
    have E1 := Lib.hid (HE.out.below b1)
    have C := implFormat x w1 hx.1 hx.2 T1.out
    have hnil := itoa_ne_nil x
    have hlen := itoa_len x hx
    have P : ∃ (y : Int) (ok : Bool), (ok = true → y = x) ∧ (ok = decide (0 ≤ x ∧ x ≤ 1000000000)) ∧ ∀ W, Tab10 W → ErrVars W → Calls Tryd.prog 14 #[.string ⟨(Lib.itoa x).toArray⟩] W (fun e w' => e = .returned (.tuple #[.int .i64 y, .bool ok]) ∧ Below W.heap.size W w') := by
      by_cases hin : 0 ≤ x ∧ x ≤ 1000000000
      · obtain ⟨u, rfl⟩ := Int.eq_ofNat_of_zero_le hin.1
        exact ⟨u, true, fun _ => rfl, (decide_eq_true hin).symm, fun W hT _ => implParse_yes _ u (by omega) (by simp [itoa_nat]) W hT⟩
      · refine ⟨0, false, fun h => (by cases h), (decide_eq_false hin).symm, fun W hT hE' => implParse_no _ (by show (Lib.itoa x).toArray.size ≤ _; simp; omega) ?_ W hT hE'⟩
        simpa using itoa_cases x hin
    obtain ⟨y, ok, hy, hok, P⟩ := P
    have hnil' : (⟨(Lib.itoa x).toArray⟩ : ByteArray).toList.isEmpty = false := by
      rw [ByteArray.toList_eq]
      cases h : Lib.itoa x with
      | nil => exact absurd h hnil
      | cons c r => simp
    generalize (⟨(Lib.itoa x).toArray⟩ : ByteArray) = out at C P hnil'
    have C := Lib.hid C
    have P := Lib.hid P
    have HX := Lib.hid hx
    clear hnil hlen hx
    go_wp2_with fail
    refine C.out.mono ?_
    rintro e w2 ⟨rfl, b2⟩
    go_wp2_with fail
    refine (P.out _ (T1.out.below b2) (E1.out.below b2)).mono ?_
    rintro e w3 ⟨rfl, b3⟩
    have bb := b1.trans ((b2.trans (b3.mono b2.size)).mono b1.size)
    by_cases h0 : 0 ≤ x
    · by_cases h1 : x ≤ 1000000000
      · rw [decide_eq_true ⟨h0, h1⟩] at hok
        subst hok
        obtain rfl := hy rfl
        clear hy
        go_wp2
        go_ret
        exact ⟨rfl, bb⟩
      · rw [decide_eq_false (by omega)] at hok
        subst hok
        clear hy
        go_wp2
        go_ret
        exact ⟨rfl, bb⟩
    · rw [decide_eq_false (by omega)] at hok
      subst hok
      clear hy
      go_wp2
      go_ret
      exact ⟨rfl, bb⟩
end Go.Proofs.YtmcdjppppnmomaaDoor
