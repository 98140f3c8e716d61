/- The law FnExactAreSameShape, walked over the contracts of both functions and of those that copy and compare. No condition. -/
import Derived.Test.YtnoocpokicccpaaSameI
import Derived.Test.YtnoocpokicccpaaArg
namespace Go.Proofs.Ytnoocpokicccpaa
open Go.RowKit

theorem szBody_in (J : Int) (a : Option Addr) (n cap : Nat) (left : Int) (w : World) (h0 : 0 ≤ left) (h1 : left ≤ 1048576) (h : (n : Int) ≤ left) :
    Calls Try.prog 19 #[.agg #[.int .i64 J, .slice a n cap], .int .i64 left] w fun e w' => e = .returned (.int .i64 (left - (n : Int))) ∧ w' = w.alloc (.cells #[.int .i64 J, .slice a n cap] 37) := by
  have C : ∀ W, Calls Try.prog 44 #[.slice a n cap, .int .i64 left] W fun e w' => e = .returned (.int .i64 (left - (n : Int))) ∧ w' = W := fun W => by
    go_enter Try.func44, Try.ntmps44
    go_wp2
    go_ret
    exact ⟨rfl, rfl⟩
  have C := Lib.hid C
  go_enter Try.func19, Try.ntmps19
  go_wp2_with (go_at_call 44; refine (C.out _).mono ?_; rintro e w' ⟨rfl, rfl⟩)
  go_ret
  exact ⟨rfl, rfl⟩
theorem szBody_out (J : Int) (a : Option Addr) (n cap : Nat) (left : Int) (w : World) (h0 : 0 ≤ left) (h1 : left ≤ 1048576) (h : left < (n : Int)) (hm : n ≤ 9223372036854775807) :
    Calls Try.prog 19 #[.agg #[.int .i64 J, .slice a n cap], .int .i64 left] w fun e w' => e = .returned (.int .i64 (-1)) ∧ w' = w.alloc (.cells #[.int .i64 J, .slice a n cap] 37) := by
  have C : ∀ W, Calls Try.prog 44 #[.slice a n cap, .int .i64 left] W fun e w' => e = .returned (.int .i64 (-1)) ∧ w' = W := fun W => by
    go_enter Try.func44, Try.ntmps44
    go_wp2
    go_ret
    exact ⟨rfl, rfl⟩
  have C := Lib.hid C
  go_enter Try.func19, Try.ntmps19
  go_wp2_with (go_at_call 44; refine (C.out _).mono ?_; rintro e w' ⟨rfl, rfl⟩)
  go_ret
  exact ⟨rfl, rfl⟩

/-- What a call with two bodies keeps while it goes on. -/
structure Stay2 (w : World) (J : Int) (a : Option Addr) (cap : Nat) (ls : List Lb) (K : Int) (d : Option Addr) (dcap : Nat) (ks : List Lb) (W : World) : Prop where
  x : BoxAt W w.heap.size J (.slice a ls.length cap)
  y : BoxAt W (w.heap.size + 1) K (.slice d ks.length dcap)
  a : ArgL W a ls
  d : ArgL W d ks
  b : Below w.heap.size w W
  s : w.heap.size + 2 ≤ W.heap.size
section
variable {w W W' : World} {J K : Int} {a d : Option Addr} {cap dcap : Nat} {ls ks : List Lb}
theorem stay2_new (h : ArgL w a ls) (h' : ArgL w d ks) (t : TypeId) : Stay2 w J a cap ls K d dcap ks ((w.alloc (.cells #[.int .i64 J, .slice a ls.length cap] t)).alloc (.cells #[.int .i64 K, .slice d ks.length dcap] t)) :=
  ⟨(boxAt_any w t J _).alloc _, by have := boxAt_any (w.alloc (.cells #[.int .i64 J, .slice a ls.length cap] t)) t K (.slice d ks.length dcap); simpa using this, (h.alloc _).alloc _, (h'.alloc _).alloc _, ((Below.refl _ _).alloc (Nat.le_refl _) _).alloc (by simp) _, by simp⟩
theorem Stay2.below (h : Stay2 w J a cap ls K d dcap ks W) (hb : Below W.heap.size W W') : Stay2 w J a cap ls K d dcap ks W' :=
  ⟨h.x.below hb, h.y.below hb, h.a.below hb, h.d.below hb, h.b.trans (hb.mono h.b.size), Nat.le_trans h.s hb.size⟩
theorem Stay2.alloc (h : Stay2 w J a cap ls K d dcap ks W) (o : Obj) : Stay2 w J a cap ls K d dcap ks (W.alloc o) := h.below ((Below.refl _ _).alloc (Nat.le_refl _) _)
theorem Stay2.drew (h : Stay2 w J a cap ls K d dcap ks W) : Stay2 w J a cap ls K d dcap ks W.drew := h.below (Below.refl _ _).drew
theorem Stay2.cells (h : Stay2 w J a cap ls K d dcap ks W) : W.cell? ⟨w.heap.size, 0, none⟩ = some (.int .i64 J) ∧ W.cell? ⟨w.heap.size, 1, none⟩ = some (.slice a ls.length cap) ∧ W.cell? ⟨w.heap.size + 1, 0, none⟩ = some (.int .i64 K) ∧ W.cell? ⟨w.heap.size + 1, 1, none⟩ = some (.slice d ks.length dcap) :=
  ⟨h.x.1, h.x.2, h.y.1, h.y.2⟩
end

set_option maxRecDepth 100000 in
set_option maxHeartbeats 1600000 in
theorem FnExactAreSameShape_walk (J : Int) (a : Option Addr) (cap : Nat) (ls : List Lb) (K : Int) (d : Option Addr) (dcap : Nat) (ks : List Lb) (w : World) (ha : ArgL w a ls) (hm : ls.length ≤ maxLen) (hd : ArgL w d ks) (hm2 : ks.length ≤ maxLen) :
    Calls Try.prog 9 #[.agg #[.int .i64 J, .slice a ls.length cap], .agg #[.int .i64 K, .slice d ks.length dcap]] w fun e w' => e = .returned (.bool true) ∧ Below w.heap.size w w' := by
  unfold maxLen at hm hm2
  by_cases hl : ls.length ≤ 1048576
  · have Z := Lib.hid (fun W => szBody_fit J a ls.length cap W hl)
    by_cases hl2 : ks.length + ls.length ≤ 1048576
    · have Z2 := Lib.hid (fun W => szBody_in K d ks.length dcap (1048576 - (ls.length : Int)) W (by omega) (by omega) (by omega))
      have T := Lib.hid (fun W h => toBody_walk J a cap ls W h hl)
      have T2 := Lib.hid (fun W h => toBody_walk K d dcap ks W h (by omega))
      have CS := Lib.hid (fun v u b c W h h' => specSame J K v u ls ks b c W h h')
      have CI := Lib.hid (fun v u b c W h h' => implSame J K v u ls ks b c W h h' (by omega) (by omega))
      have CE := Lib.hid (fun v1 v2 b1 b2 W h1 h2 => eqBody_same J v1 v2 ls b1 b2 W h1 h2 (by omega))
      have CE2 := Lib.hid (fun v1 v2 b1 b2 W h1 h2 => eqBody_same K v1 v2 ks b1 b2 W h1 h2 (by omega))
      have S0 := Lib.hid (((stay2_new (J := J) (K := K) (cap := cap) (dcap := dcap) ha hd 37).alloc (.cells #[.int .i64 J, .slice a ls.length cap] 37)).alloc (.cells #[.int .i64 K, .slice d ks.length dcap] 37))
      unfold bodyV at T T2 CS CI CE CE2
      clear ha hd
      generalize sameShape J K ls ks = r at CS CI
      go_enter Try.func9, Try.ntmps9
      go_wp2_with (first | (go_at_call 19; (with_reducible refine (Z.out _).mono ?_); rintro e w' ⟨rfl, rfl⟩) | (go_at_call 19; (with_reducible refine (Z2.out _).mono ?_); rintro e w' ⟨rfl, rfl⟩))
      obtain ⟨x0, x1, y0, y1⟩ := S0.out.cells
      go_region_held3 (fun w' => w'.cell? ⟨w.heap.size, 0, none⟩ = some (.int .i64 J) ∧ w'.cell? ⟨w.heap.size, 1, none⟩ = some (.slice a ls.length cap) ∧ w'.cell? ⟨w.heap.size + 1, 0, none⟩ = some (.int .i64 K) ∧ w'.cell? ⟨w.heap.size + 1, 1, none⟩ = some (.slice d ks.length dcap))
        (first | exact ⟨x0, x1, y0, y1⟩ | exact S1.out.cells | exact S2.out.cells | exact S3.out.cells)
        (first | (go_at_call 21; (with_reducible refine (T.out _ ?_).mono ?_); (exact S0.out.drew.a); rintro e w1 ⟨v1, rfl, o1, b1⟩; have S1 := Lib.hid (S0.out.drew.below b1); have O1 := Lib.hid o1) | (go_at_call 21; (with_reducible refine (T2.out _ ?_).mono ?_); (exact S1.out.d); rintro e w2 ⟨v2, rfl, o2, b2⟩; have S2 := Lib.hid (S1.out.below b2); have P1 := Lib.hid (O1.out.below b2); have P2 := Lib.hid o2) | (go_at_call 31; (with_reducible refine (CS.out _ _ _ _ _ P1.out P2.out).mono ?_); rintro e w3 ⟨rfl, b3⟩; have S3 := Lib.hid (S2.out.below b3)))
      clear b1 o1 b2 o2 b3 S0 S1 S2 O1 P1 P2 x0 x1 y0 y1
      obtain ⟨x0, x1, y0, y1⟩ := S3.out.cells
      go_wp2_with fail
      refine (T.out _ S3.out.a).mono ?_
      rintro e w4 ⟨v4, rfl, o4, b4⟩
      obtain ⟨A4, c4, rfl⟩ := o4.slice
      have S4 := Lib.hid (S3.out.below b4)
      clear b4 x0 x1 y0 y1
      have S5 := Lib.hid (S4.out.alloc (.cells #[.int .i64 J, .slice A4 ls.length c4] 26))
      have O5 := Lib.hid (o4.alloc (.cells #[.int .i64 J, .slice A4 ls.length c4] 26))
      have X5 := Lib.hid (boxAt_any w4 26 J (.slice A4 ls.length c4))
      obtain ⟨x0, x1, y0, y1⟩ := S5.out.cells
      clear o4
      go_wp2_with fail
      refine (T2.out _ S5.out.d).mono ?_
      rintro e w6 ⟨v6, rfl, o6, b6⟩
      obtain ⟨A6, c6, rfl⟩ := o6.slice
      have S6 := Lib.hid ((S5.out.below b6).alloc (.cells #[.int .i64 K, .slice A6 ks.length c6] 26))
      have O6 := Lib.hid ((O5.out.below b6).alloc (.cells #[.int .i64 K, .slice A6 ks.length c6] 26))
      have P6 := Lib.hid (o6.alloc (.cells #[.int .i64 K, .slice A6 ks.length c6] 26))
      have X6 := Lib.hid ((X5.out.below b6).alloc (.cells #[.int .i64 K, .slice A6 ks.length c6] 26))
      have Y6 := Lib.hid (boxAt_any w6 26 K (.slice A6 ks.length c6))
      clear b6 o6 x0 x1 y0 y1
      obtain ⟨x0, x1⟩ := X6.out
      go_wp2_with fail
      refine (CI.out _ _ _ _ _ O6.out P6.out).mono ?_
      rintro e w7 ⟨rfl, b7⟩
      have S7 := Lib.hid (S6.out.below b7)
      have O7 := Lib.hid (O6.out.below b7)
      have P7 := Lib.hid (P6.out.below b7)
      have X7 := Lib.hid (X6.out.below b7)
      have Y7 := Lib.hid (Y6.out.below b7)
      clear b7 x0 x1 S3 S4 S5 S6 O5 O6 P6 X5 X6 Y6
      obtain ⟨x0, x1⟩ := X7.out
      obtain ⟨y0, y1⟩ := S7.out.x
      go_wp2_with fail
      go_region_held3 (fun w' => w'.cell? ⟨w4.heap.size, 0, none⟩ = some (.int .i64 J) ∧ w'.cell? ⟨w4.heap.size, 1, none⟩ = some (.slice A4 ls.length c4) ∧ w'.cell? ⟨w.heap.size, 0, none⟩ = some (.int .i64 J) ∧ w'.cell? ⟨w.heap.size, 1, none⟩ = some (.slice a ls.length cap))
        (first | exact ⟨x0, x1, y0, y1⟩ | exact K8.out | exact K9.out)
        (first | (go_at_call 21; (with_reducible refine (T.out _ ?_).mono ?_); (exact S7.out.drew.a); rintro e w8 ⟨v8, rfl, o8, b8⟩; have S8 := Lib.hid (S7.out.drew.below b8); have X8 := Lib.hid (BoxAt.below (by exact X7.out) b8); have Y8 := Lib.hid (BoxAt.below (by exact Y7.out) b8); have K8 := Lib.hid (And.intro X8.out.1 (And.intro X8.out.2 S8.out.x)); have O8 := Lib.hid (OwnL.below (by exact O7.out) b8); have P8 := Lib.hid (OwnL.below (by exact P7.out) b8)) | (go_at_call 23; (with_reducible refine (CE.out _ _ _ _ _ O8.out o8).mono ?_); rintro e w9 ⟨rfl, b9⟩; have S9 := Lib.hid (S8.out.below b9); have X9 := Lib.hid (X8.out.below b9); have Y9 := Lib.hid (Y8.out.below b9); have P9 := Lib.hid (P8.out.below b9); have K9 := Lib.hid (And.intro X9.out.1 (And.intro X9.out.2 S9.out.x))))
      clear b8 o8 b9 x0 x1 y0 y1 S7 O7 P7 X7 Y7 S8 X8 Y8 O8 P8 K8 K9
      obtain ⟨x0, x1⟩ := Y9.out
      obtain ⟨y0, y1⟩ := S9.out.y
      go_wp2_with fail
      go_region_held3 (fun w' => w'.cell? ⟨w6.heap.size, 0, none⟩ = some (.int .i64 K) ∧ w'.cell? ⟨w6.heap.size, 1, none⟩ = some (.slice A6 ks.length c6) ∧ w'.cell? ⟨w.heap.size + 1, 0, none⟩ = some (.int .i64 K) ∧ w'.cell? ⟨w.heap.size + 1, 1, none⟩ = some (.slice d ks.length dcap))
        (first | exact ⟨x0, x1, y0, y1⟩ | exact K10.out | exact K11.out)
        (first | (go_at_call 21; (with_reducible refine (T2.out _ ?_).mono ?_); (exact S9.out.drew.d); rintro e w10 ⟨v10, rfl, o10, b10⟩; have S10 := Lib.hid (S9.out.drew.below b10); have Y10 := Lib.hid (BoxAt.below (by exact Y9.out) b10); have K10 := Lib.hid (And.intro Y10.out.1 (And.intro Y10.out.2 S10.out.y)); have P10 := Lib.hid (OwnL.below (by exact P9.out) b10)) | (go_at_call 23; (with_reducible refine (CE2.out _ _ _ _ _ P10.out o10).mono ?_); rintro e w11 ⟨rfl, b11⟩; have S11 := Lib.hid (S10.out.below b11); have Y11 := Lib.hid (Y10.out.below b11); have K11 := Lib.hid (And.intro Y11.out.1 (And.intro Y11.out.2 S11.out.y))))
      go_wp2
      go_ret
      exact ⟨rfl, S11.out.b⟩
    · have Z2 := Lib.hid (fun W => szBody_out K d ks.length dcap (1048576 - (ls.length : Int)) W (by omega) (by omega) (by omega) (by omega))
      go_enter Try.func9, Try.ntmps9
      go_wp2_with (first | (go_at_call 19; (with_reducible refine (Z.out _).mono ?_); rintro e w' ⟨rfl, rfl⟩) | (go_at_call 19; (with_reducible refine (Z2.out _).mono ?_); rintro e w' ⟨rfl, rfl⟩))
      go_ret
      exact ⟨rfl, (stay2_new (J := J) (K := K) ha hd 37 |>.alloc _ |>.alloc _).b⟩
  · have Z := Lib.hid (fun W => szBody_big J a ls.length cap W (by omega) (by omega))
    go_enter Try.func9, Try.ntmps9
    go_wp2_with (go_at_call 19; refine (Z.out _).mono ?_; rintro e w' ⟨rfl, rfl⟩)
    go_ret
    exact ⟨rfl, (stay2_new (J := J) (K := K) ha hd 37 |>.alloc _).b⟩
end Go.Proofs.Ytnoocpokicccpaa
