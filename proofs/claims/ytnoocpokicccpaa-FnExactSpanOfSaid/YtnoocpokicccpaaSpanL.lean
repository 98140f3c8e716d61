/- The law FnExactSpanOf, walked over the contracts of both functions and of those that copy and compare. No condition. -/
import Derived.Test.YtnoocpokicccpaaSpanI
import Derived.Test.YtnoocpokicccpaaArg
namespace Go.Proofs.Ytnoocpokicccpaa
open Go.RowKit

set_option maxRecDepth 100000 in
set_option maxHeartbeats 800000 in
theorem FnExactSpanOf_walk (J : Int) (a : Option Addr) (cap : Nat) (ls : List Lb) (w : World) (ha : ArgL w a ls) (hm : ls.length ≤ maxLen) :
    Calls Try.prog 7 #[.agg #[.int .i64 J, .slice a ls.length cap]] w fun e w' => e = .returned (.bool true) ∧ Below w.heap.size w w' := by
  unfold maxLen at hm
  by_cases hl : ls.length ≤ 1048576
  · have Z := Lib.hid (fun W => szBody_fit J a ls.length cap W hl)
    have T := Lib.hid (fun W h => toBody_walk J a cap ls W h hl)
    have CS := Lib.hid (fun v b W h => specSpan J v ls b W h)
    have CI := Lib.hid (fun v b W h => implSpan J v ls b W h (by omega))
    have CE := Lib.hid (fun v1 v2 b1 b2 W h1 h2 => eqBody_same J v1 v2 ls b1 b2 W h1 h2 (by omega))
    have S0 := Lib.hid ((stay_new (J := J) (cap := cap) ha 37).alloc (.cells #[.int .i64 J, .slice a ls.length cap] 37))
    unfold bodyV at T CS CI CE
    clear ha
    generalize spanOf J ls = r at CS CI
    go_enter Try.func7, Try.ntmps7
    go_wp2_with (go_at_call 19; refine (Z.out _).mono ?_; rintro e w' ⟨rfl, rfl⟩)
    refine (T.out _ S0.out.2.1).mono ?_
    rintro e w1 ⟨v1, rfl, o1, b1⟩
    obtain ⟨A1, c1, rfl⟩ := o1.slice
    have S1 := Lib.hid (S0.out.below b1)
    clear b1
    go_wp2_with fail
    refine (CS.out _ _ _ o1).mono ?_
    rintro e w2 ⟨rfl, b2⟩
    have S2 := Lib.hid (S1.out.below b2)
    clear b2 o1
    obtain ⟨x0, x1⟩ := S2.out.1
    go_wp2_with fail
    refine (T.out _ S2.out.2.1).mono ?_
    rintro e w3 ⟨v3, rfl, o3, b3⟩
    obtain ⟨A3, c3, rfl⟩ := o3.slice
    have S3 := Lib.hid (S2.out.below b3)
    clear b3 x0 x1
    go_wp2_with fail
    have S4 := Lib.hid (S3.out.alloc (.cells #[.int .i64 J, .slice A3 ls.length c3] 26))
    refine (CI.out _ _ _ (o3.alloc _)).mono ?_
    rintro e w5 ⟨rfl, b5⟩
    have S5 := Lib.hid (S4.out.below b5)
    have y5 := (boxAt_any w3 26 J (.slice A3 ls.length c3)).below b5
    have O5 := Lib.hid ((o3.alloc (.cells #[.int .i64 J, .slice A3 ls.length c3] 26)).below b5)
    have Y5 := Lib.hid y5
    obtain ⟨x0, x1⟩ := S5.out.1
    obtain ⟨y0, y1⟩ := y5
    clear b5 o3
    go_wp2_with fail
    go_region_held3 (fun w' => w'.cell? ⟨w.heap.size, 0, none⟩ = some (.int .i64 J) ∧ w'.cell? ⟨w.heap.size, 1, none⟩ = some (.slice a ls.length cap) ∧ w'.cell? ⟨w3.heap.size, 0, none⟩ = some (.int .i64 J) ∧ w'.cell? ⟨w3.heap.size, 1, none⟩ = some (.slice A3 ls.length c3))
      (first | exact ⟨x0, x1, y0, y1⟩ | exact K6.out | exact K7.out) (first | (go_at_call 21; refine (T.out _ ?_).mono ?_; (exact S5.out.drew.2.1); rintro e w6 ⟨v6, rfl, o6, b6⟩; have S6 := Lib.hid (S5.out.drew.below b6); have Y6 := Lib.hid (BoxAt.below (by exact Y5.out) b6); have K6 := Lib.hid (And.intro S6.out.1.1 (And.intro S6.out.1.2 Y6.out)); have P6 := Lib.hid (OwnL.below (by exact O5.out) b6)) | (go_at_call 23; refine (CE.out _ _ _ _ _ P6.out o6).mono ?_; rintro e w7 ⟨rfl, b7⟩; have S7 := Lib.hid (S6.out.below b7); have K7 := Lib.hid (And.intro S7.out.1.1 (And.intro S7.out.1.2 (Y6.out.below b7)))))
    go_wp2
    go_ret
    exact ⟨rfl, S7.out.2.2.1⟩
  · have Z := Lib.hid (fun W => szBody_big J a ls.length cap W (by omega) (by omega))
    go_enter Try.func7, Try.ntmps7
    go_wp2_with (go_at_call 19; refine (Z.out _).mono ?_; rintro e w' ⟨rfl, rfl⟩)
    go_ret
    exact ⟨rfl, ((Below.refl _ _).alloc (Nat.le_refl _) _).alloc (by simp) _⟩
end Go.Proofs.Ytnoocpokicccpaa
