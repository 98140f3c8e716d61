/- The law FnHexText, walked over the contracts of EncodeHex, DecodeHex and FormatInt and of the drawing functions. Condition: the listed variables of the library hold what their initialisers lay. -/
import Derived.Test.YtmcdjppppnmomaaDoorText
import Derived.Test.YtmcdjppppnmomaaDoorEncI
import Derived.Test.YtmcdjppppnmomaaDoorDecI
import Derived.Test.YtmcdjppppnmomaaDoorFmtL
namespace Go.Proofs.YtmcdjppppnmomaaDoor
open Go.RowKit

theorem val_fig : ∀ x : Nat, x < 16 → valI (fig x) = (x : Int) := by decide +kernel
theorem enc_cons (b : UInt8) (l : List UInt8) : encL (b :: l) = fig (b.toNat / 16) :: fig (b.toNat % 16) :: encL l := by simp [encL]
theorem ok_enc (l : List UInt8) : okT (encL l) = true := by
  induction l with
  | nil => rfl
  | cons b l ih =>
    have h := b.toNat_lt
    rw [enc_cons]
    simp only [okT]
    rw [val_fig _ (by omega), val_fig _ (by omega), ih]
    simp
    omega
theorem pair_fig (b : UInt8) : pairB (fig (b.toNat / 16)) (fig (b.toNat % 16)) = b := by
  have h := b.toNat_lt
  unfold pairB
  rw [val_fig _ (by omega), val_fig _ (by omega)]
  apply UInt8.toNat_inj.1
  simp [UInt8.toNat_ofNat']
  omega
theorem dec_enc (l : List UInt8) : decT (encL l) = l := by
  induction l with
  | nil => rfl
  | cons b l ih => rw [enc_cons]; simp only [decT]; rw [pair_fig, ih]
theorem decR_enc (s : ByteArray) (h : s.size ≤ 20000) : decR ⟨(encL s.data.toList).toArray⟩ = (s, true) := by
  have hl : (⟨(encL s.data.toList).toArray⟩ : ByteArray).size = 2 * s.size := by
    show (encL s.data.toList).toArray.size = _
    simp [encL_len]
  unfold decR
  simp only [ok_enc, dec_enc, hl]
  rw [if_neg (by simp; omega)]

theorem drawEncodeHex (w : World) (a : Option Addr) (n cap : Nat) (z : List Int) (hr : IsRow .u8 w a n cap z) (hn : n ≤ 1048576) :
    Calls Tryd.prog 9 #[.slice a n cap] w (TextPost w) := by
  have N := Lib.hid (new_any w a n cap z hr hn)
  have O := Lib.hid (once_any w a n cap z hr)
  have B := Lib.hid (below_any w a n cap z hr)
  have T := Lib.hid (text_any w a n cap z hr)
  clear hr
  go_enter Tryd.func9, Tryd.ntmps9
  go_wp2_with fail
  refine N.out.mono ?_
  rintro e w1 ⟨b, rfl, s1⟩
  go_wp2_with fail
  refine (O.out _ _ s1 _).mono ?_
  rintro e w2 ⟨x, rfl, s2, _⟩
  cases x
  · go_wp2_with fail
    refine (B.out _ _ s2 _).mono ?_
    rintro e w3 ⟨x3, rfl, ⟨l3, u3, _⟩, s3, _⟩
    have u3 := u3 (by omega)
    go_wp2_with fail
    refine (T.out _ _ s3 _ (by omega) (by omega)).mono ?_
    rintro e w4 ⟨l, rfl, hl, s4, _⟩
    have hsz : (⟨l.toArray⟩ : ByteArray).size ≤ 30000 := by show l.toArray.size ≤ _; simp [hl]; omega
    generalize (⟨l.toArray⟩ : ByteArray) = s at hsz ⊢
    clear hl
    go_wp2
    go_ret
    exact ⟨s, rfl, hsz, s4.below⟩
  · go_wp2_with fail
    refine (B.out _ _ s2 _).mono ?_
    rintro e w3 ⟨x3, rfl, ⟨l3, u3, _⟩, s3, _⟩
    have u3 := u3 (by omega)
    go_wp2_with fail
    refine (long_at _ _ (by omega) (by omega) (by omega) (by omega) _).mono ?_
    rintro e w4 ⟨rfl, b4⟩
    have hsz := longStr_size (20000 + x3).toNat (UInt8.ofNat (200 : Int).toNat)
    generalize longStr (20000 + x3).toNat (UInt8.ofNat (200 : Int).toNat) = s at hsz ⊢
    have hs2 : s.size ≤ 30000 := by omega
    clear hsz
    go_wp2
    go_ret
    exact ⟨s, rfl, hs2, s3.below.trans (b4.mono s3.below.size)⟩

theorem FnHexText_walk (a : Option Addr) (n cap : Nat) (z : List Int) (w : World) (hr : IsRow .u8 w a n cap z) (ht : Tab10 w) :
    Calls Tryd.prog 3 #[.slice a n cap] w fun e w' => e = .returned (.bool true) ∧ Below w.heap.size w w' := by
  by_cases hn : 1048576 < n
  · have hmx := row_len hr
    clear ht
    go_enter Tryd.func3, Tryd.ntmps3
    go_wp2_with fail
    refine (big_yes _ _ _ _ hn hmx).mono ?_
    rintro e w1 ⟨rfl, rfl⟩
    go_wp2
    go_ret
    exact ⟨rfl, Below.refl _ _⟩
  · have D := Lib.hid (drawEncodeHex w a n cap z hr (by omega))
    have HT := Lib.hid ht
    clear hr ht
    go_enter Tryd.func3, Tryd.ntmps3
    go_wp2_with fail
    refine (big_no _ _ _ _ (by omega)).mono ?_
    rintro e w1 ⟨rfl, rfl⟩
    go_wp2_with fail
    refine D.out.mono ?_
    rintro e w1 ⟨s, rfl, hs, b1⟩
    by_cases hl : 20000 < s.size
    · have T1 := Lib.hid (HT.out.below b1)
      have F : ∀ W : World, Tab10 W → Calls Tryd.prog 11 #[.int .i64 10] W fun e w' => e = .returned (.string { data := #[49, 48] }) ∧ Below W.heap.size W w' := by
        intro W hT
        have h := implFormat 10 W (by omega) (by omega) hT
        have e : (⟨(Lib.itoa 10).toArray⟩ : ByteArray) = { data := #[49, 48] } := by decide +kernel
        rw [e] at h
        exact h
      have F := Lib.hid F
      go_wp2_with fail
      refine (implEncode_long _ _ hl).mono ?_
      rintro e w2 ⟨rfl, rfl⟩
      go_wp2_with fail
      refine (F.out _ T1.out).mono ?_
      rintro e w3 ⟨rfl, b3⟩
      go_wp2
      go_ret
      exact ⟨rfl, b1.trans (b3.mono b1.size)⟩
    · have C1 := implEncode s w1 (by omega)
      have C2 := implDecode ⟨(encL s.data.toList).toArray⟩
      rw [decR_enc s (by omega)] at C2
      have hsz : (⟨(encL s.data.toList).toArray⟩ : ByteArray).size = 2 * s.size := by
        show (encL s.data.toList).toArray.size = _
        simp [encL_len]
      generalize (⟨(encL s.data.toList).toArray⟩ : ByteArray) = h at C1 C2 hsz
      have hq : ((h.size : Int) == 2 * (s.size : Int)) = true := by rw [beq_iff_eq]; omega
      have C1 := Lib.hid C1
      have C2 := Lib.hid C2
      clear hsz
      go_wp2_with fail
      refine C1.out.mono ?_
      rintro e w2 ⟨rfl, b2⟩
      go_wp2_with fail
      refine (C2.out _).mono ?_
      rintro e w3 ⟨rfl, b3⟩
      go_wp2
      go_ret
      exact ⟨rfl, b1.trans ((b2.trans (b3.mono b2.size)).mono b1.size)⟩
end Go.Proofs.YtmcdjppppnmomaaDoor
