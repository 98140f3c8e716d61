/- The law FnBodies, walked over the contracts of the program's functions and of the draw. No condition. -/
import Derived.Test.YtgmcinnajhbgfaaBdyW
import Derived.Test.YtgmcinnajhbgfaaHasW
namespace Go.Proofs.Ytgmcinnajhbgfaa
open Go.RowKit

theorem run_limbs (J : Int) (A : Option Addr) (n c : Nat) (w : World) : (Instr.field 26 (.agg #[.int .i64 J, .slice A n c]) 1).run Try.prog w = .ok (.slice A n c) w := by
  kernel_rfl
theorem addL_len' (J j n : Int) (ls : List Lb) : (addL J j n ls).length ≤ ls.length + 1 := by
  unfold addL more
  split <;> simp
theorem has_end {ls : List Lb} {m k : Nat} (hk : k < m) : hasL (endsTo ls m) (k : Int) = endB ls k := by
  unfold hasL endB
  rw [Bool.eq_iff_iff, decide_eq_true_iff, decide_eq_true_iff]
  exact ends_mem ls m k hk
/-- What the law's call keeps: the body's box, its limbs, the ends. -/
def Keep (B m : Nat) (v ve : Value) (ls : List Lb) (b1 b2 : Nat) (zs : List Int) (W : World) : Prop := BoxAt W B m v ∧ OwnL W b1 v ls ∧ OwnI W b2 ve zs
theorem Keep.below {B m : Nat} {v ve : Value} {ls : List Lb} {b1 b2 : Nat} {zs : List Int} {W W' : World} (h : Keep B m v ve ls b1 b2 zs W) (hb : Below W.heap.size W W') : Keep B m v ve ls b1 b2 zs W' :=
  ⟨h.1.below hb, h.2.1.below hb, h.2.2.below hb⟩

/-- A box that was made ahead of a call. -/
theorem newB {W w2 : World} {t : TypeId} (hb : Below (W.alloc (.cells #[.int .i64 0, .slice none 0 0] t)).drew.heap.size (W.alloc (.cells #[.int .i64 0, .slice none 0 0] t)).drew w2) :
    w2.cell? ⟨W.heap.size, 0, none⟩ = some (.int .i64 0) ∧ w2.cell? ⟨W.heap.size, 1, none⟩ = some (.slice none 0 0) ∧ w2.frozen? ⟨W.heap.size, 0, none⟩ = false ∧ w2.frozen? ⟨W.heap.size, 1, none⟩ = false := by
  replace hb := undrew hb
  refine ⟨?_, ?_, ?_, ?_⟩
  · rw [hb.cell (by simp)]; simp [go_sem]
  · rw [hb.cell (by simp)]; simp [go_sem]
  · rw [hb.frozen (by simp)]; simp [go_sem]
  · rw [hb.frozen (by simp)]; simp [go_sem]

/-- What is known behind the statement that makes x. -/
def Ends (w : World) (Kp : World → Prop) (X b : Nat) (J : Int) (v : Value) (zs : List Lb) (W : World) : Prop := BoxAt W X J v ∧ Kp W ∧ OwnL W b v zs ∧ Below w.heap.size w W
theorem Ends.below {w : World} {B m b1 b2 b X : Nat} {v ve v6 : Value} {ls zs : List Lb} {es : List Int} {J : Int} {W W' : World} (h : Ends w (Keep B m v ve ls b1 b2 es) X b J v6 zs W) (hb : Below W.heap.size W W') : Ends w (Keep B m v ve ls b1 b2 es) X b J v6 zs W' :=
  ⟨h.1.below hb, h.2.1.below hb, h.2.2.1.below hb, h.2.2.2.trans (hb.mono h.2.2.2.size)⟩
theorem end_last {w w6 : World} {B m b1 b2 b : Nat} {v ve v6 : Value} {ls zs : List Lb} {es : List Int} {J : Int} (hK : Keep B m v ve ls b1 b2 es w6) (o6 : OwnL w6 b v6 zs) (hB : Below w.heap.size w w6) :
    Ends w (Keep B m v ve ls b1 b2 es) w6.heap.size b J v6 zs (w6.alloc (.cells #[.int .i64 J, v6] 26)) :=
  ⟨boxAt_new w6 J v6, hK.below ((Below.refl _ _).alloc (Nat.le_refl _) _), o6.alloc _, hB.alloc hB.size _⟩
theorem end_first {w w6 : World} {B m b1 b2 b X : Nat} {v ve v6 x y : Value} {ls zs : List Lb} {es : List Int} {J : Int} (hK : Keep B m v ve ls b1 b2 es w6) (o6 : OwnL w6 b v6 zs) (hB : Below w.heap.size w w6)
    (d0 : w6.cell? ⟨X, 0, none⟩ = some x) (d1 : w6.cell? ⟨X, 1, none⟩ = some y) (hX : B ≠ X) (hv : ∀ k, v.ownBlock = some k → k < X) (he : ∀ k, ve.ownBlock = some k → k < X) (hb : X < b) (hw : w.heap.size ≤ X) :
    Ends w (Keep B m v ve ls b1 b2 es) X b J v6 zs ((w6.setCell ⟨X, 0, none⟩ (.int .i64 J)).setCell ⟨X, 1, none⟩ v6) := by
  have nv : ∀ {u : Value}, (∀ k, u.ownBlock = some k → k < X) → u.ownBlock = none ∨ u.ownBlock ≠ some X := fun h => .inr (fun e => by have := h X e; omega)
  exact ⟨cells_set2 ⟨_, d0⟩ ⟨_, d1⟩, ⟨boxAt_set hK.1 hX, (hK.2.1.kept (grown_cell _ _ _) (nv hv)).kept (grown_cell _ _ _) (nv hv), (hK.2.2.kept (grown_cell _ _ _) (nv he)).kept (grown_cell _ _ _) (nv he)⟩,
    (o6.setCell_below (a := ⟨X, 0, none⟩) hb _).setCell_below (a := ⟨X, 1, none⟩) hb _, (hB.setCell (p := ⟨X, 0, none⟩) hw _).setCell (p := ⟨X, 1, none⟩) hw _⟩

set_option maxRecDepth 100000 in
set_option maxHeartbeats 3200000 in
theorem FnBodies_walk (a : Option Addr) (n cap : Nat) (z : List Int) (w : World) (hr : IsRow .u8 w a n cap z) :
    Calls Try.prog 3 #[.slice a n cap] w fun e w' => e = .returned (.bool true) ∧ Below w.heap.size w w' := by
  have hn := row_len hr
  by_cases hb : 1048576 < n
  · have BG := Lib.hid (fun W => big_yes a n cap W hb hn)
    clear hr
    go_enter Try.func3, Try.ntmps3
    go_wp2_with (go_at_call 10; refine (BG.out _).mono ?_; rintro e w' ⟨rfl, rfl⟩)
    go_ret
    exact ⟨rfl, Below.refl _ _⟩
  · have BG := Lib.hid (fun W => big_no a n cap W (by omega))
    have DB := Lib.hid (drawBody_any a n cap z w hr (by omega))
    have hat : ∀ W, Below w.heap.size w W → Calls Try.prog 16 #[.slice a n cap, .int .i64 0] W fun e w'' => ∃ x : Int, e = .returned (.int .i64 x) ∧ (0 ≤ x ∧ x < 256) ∧ w'' = W := fun W h => at_any a n cap z w W hr h 0 (by omega) (by omega)
    have AT := Lib.hid hat
    clear hat
    clear hr hb
    go_enter Try.func3, Try.ntmps3
    go_wp2_with (go_at_call 10; refine (BG.out _).mono ?_; rintro e w' ⟨rfl, rfl⟩)
    refine DB.out.mono ?_
    rintro e w1 ⟨J, v, ls, rfl, o1, hok, b1⟩
    obtain ⟨m, rfl⟩ := Int.eq_ofNat_of_zero_le (show 0 ≤ J by have := ok_len hok; omega)
    obtain ⟨A, c, rfl⟩ := o1.slice
    obtain ⟨hfit, hlm, hm12, -⟩ := ok_parts hok
    have hm1 : 1 ≤ m := by omega
    have OK := Lib.hid hok
    have HF := Lib.hid hfit
    have HLM := Lib.hid hlm
    have hll : ls.length ≤ 11 := by omega
    have B1 := Lib.hid b1
    have X2 := Lib.hid (boxAt_new w1 (m : Int) (.slice A ls.length c))
    have O2 := Lib.hid (o1.alloc (.cells #[.int .i64 (m : Int), .slice A ls.length c] 26))
    have CEn := Lib.hid (fun W h => endsOf_yes hok ▸ implEnds m (.slice A ls.length c) ls w.heap.size W h (by omega))
    have CAt := Lib.hid (fun (k : Nat) (hk : (k : Int) < (m : Int)) W h => limbsAt_yes hok hk ▸ implAt m k (.slice A ls.length c) ls w.heap.size W h (by omega))
    have CL := Lib.hid (fun W h => implLen m (.slice A ls.length c) ls w.heap.size W h (by omega))
    have CO := Lib.hid (fun W h => hok ▸ implOk m (.slice A ls.length c) ls w.heap.size W h (by omega))
    have CA := Lib.hid (fun j W h => implAdd m j 7 (.slice A ls.length c) ls w.heap.size W h (by omega))
    clear o1 hok hfit hlm b1
    unfold bodyV at CEn CAt CL CO CA ⊢
    go_wp2_with fail
    refine (CEn.out _ O2.out).mono ?_
    rintro e w3 ⟨ve, rfl, o3, b3⟩
    obtain ⟨Ae, ce, rfl⟩ := o3.slice
    have K3 := Lib.hid (show Keep w1.heap.size m (.slice A ls.length c) (.slice Ae (endsTo ls m).length ce) ls _ _ (endsTo ls m) w3 from ⟨X2.out.below b3, O2.out.below b3, o3⟩)
    have B3 := Lib.hid ((B1.out.alloc B1.out.size (.cells #[.int .i64 (m : Int), .slice A ls.length c] 26)).trans (b3.mono (by have := B1.out.size; simp; omega)))
    clear b3 o3 X2 O2 B1
    have hel := endsTo_len ls m
    go_wp2
    go_loopw [4, 6] (fun sv iv wr => ∃ (k S : Nat), k ≤ m ∧ S ≤ 100 * k ∧ iv = .int .i64 (k : Int) ∧ sv = .int .i64 (S : Int) ∧ Hid (S = degs ls ls.length k) ∧ Below w3.heap.size w3 wr) (fun _ iv _ => m - (intOf iv).toNat)
    case atStart => exact ⟨0, 0, by omega, by omega, rfl, rfl, rfl, Below.refl _ _⟩
    case round =>
      obtain ⟨k, S, hk, hS, rfl, rfl, hsum, hbel⟩ := hrel
      have KW := Lib.hid (K3.out.below hbel)
      have HB := Lib.hid hbel
      have hsz := hbel.size
      obtain ⟨x0, x1⟩ := KW.out.1
      clear hbel
      by_cases hlt : k < m
      · have hk1 : (k : Int) < (m : Int) := by omega
        have hk0 : (0 : Int) ≤ (k : Int) := by omega
        go_wp2_with fail
        refine (CAt.out k hk1 _ KW.out.2.1).mono ?_
        rintro e w4 ⟨vl, rfl, o4, b4⟩
        obtain ⟨Al, cl, rfl⟩ := o4.slice
        have K4 := Lib.hid (KW.out.below b4)
        have HB4 := Lib.hid (HB.out.trans (b4.mono hsz))
        have HH := Lib.hid (has_any _ _ (k : Int) _ _ K4.out.2.2 (by omega))
        have hE := has_end (ls := ls) hlt
        have hil := incs_len ls k ls.length
        have HSUM := Lib.hid (show S + (incs ls k ls.length).length = degs ls ls.length (k + 1) by rw [hsum.out]; rfl)
        rw [hE] at HH
        have hEB : endB ls k = decide ((incs ls k ls.length).length ≤ 1) := rfl
        rw [hEB] at HH
        clear x0 x1 hE hEB b4 o4 hsum
        obtain ⟨x0, x1⟩ := K4.out.1
        generalize (incs ls k ls.length).length = d at hil HH HSUM
        by_cases hd : d ≤ 1
        · rw [decide_eq_true hd] at HH
          have hdi : (d : Int) ≤ 1 := by omega
          go_wp2_with (go_at_call 14; refine HH.out.mono ?_; rintro e w' ⟨rfl, rfl⟩)
          exact ⟨⟨k + 1, S + d, by omega, by omega, by go_num, by go_num, HSUM.out, HB4.out⟩, by simp [intOf]; omega⟩
        · rw [decide_eq_false hd] at HH
          have hdi : (1 : Int) < (d : Int) := by omega
          go_wp2_with (go_at_call 14; refine HH.out.mono ?_; rintro e w' ⟨rfl, rfl⟩)
          exact ⟨⟨k + 1, S + d, by omega, by omega, by go_num, by go_num, HSUM.out, HB4.out⟩, by simp [intOf]; omega⟩
      · obtain rfl : m = k := by omega
        have hS2 : S + 2 = 2 * m := by
          have := hsum.out
          rw [degs_all HF.out (Nat.le_refl _)] at this
          have := HLM.out
          omega
        have hl2 := ends_least OK.out
        have hsp : ((S : Int) == 2 * ((m : Int) - 1)) = true := by rw [beq_iff_eq]; omega
        have hmp : (0 : Int) < (m : Int) := by omega
        have hm0 : ¬ m = 0 := by omega
        have hxw := KW.out.1.lt
        have hmb : (m == 0) = false := by simpa using hm0
        have HBw := Lib.hid (B3.out.trans (HB.out.mono B3.out.size))
        have at0 := Lib.hid (AT.out _ HBw.out.drew)
        have at1 := Lib.hid (AT.out _ (HBw.out.alloc HBw.out.size (.cells #[.int .i64 0, .slice none 0 0] 26)).drew)
        clear hsum
        go_wp2_with fail
        go_region_held3 (fun w' => w'.cell? ⟨w1.heap.size, 0, none⟩ = some (.int .i64 (m : Int)) ∧ w'.cell? ⟨w1.heap.size, 1, none⟩ = some (.slice A ls.length c))
          (first | exact KW.out.1 | exact KW.out.1.alloc _ | exact K5.out.1 | exact K5.out.1.alloc _ | exact boxAt_set K5.out.1 (by omega)) (first | (go_at_call 16; (first | (with_reducible refine at0.out.mono ?_) | (with_reducible refine at1.out.mono ?_)); rintro e w5 ⟨x, rfl, ⟨hx0, hx1⟩, rfl⟩) | (go_at_call 15; refine (CA.out _ _ ?_).mono ?_; (exact KW.out.2.1.alloc _); rintro e w6 ⟨v6, rfl, o6, b6⟩; obtain ⟨A6, c6, rfl⟩ := o6.slice; have K5 := Lib.hid (KW.out.below (((Below.refl _ _).alloc (Nat.le_refl _) _).trans ((undrew b6).mono (by simp)))); obtain ⟨d0, d1, f0, f1⟩ := newB b6; unfold bodyV) | (go_at_call 15; refine (CA.out _ _ ?_).mono ?_; (exact KW.out.2.1); rintro e w6 ⟨v6, rfl, o6, b6⟩; obtain ⟨A6, c6, rfl⟩ := o6.slice; have K5 := Lib.hid (KW.out.below (undrew b6)); unfold bodyV))
        all_goals
          have hy0 : 0 ≤ x.tmod (m : Int) := Int.tmod_nonneg _ hx0
          have hy1 : x.tmod (m : Int) < (m : Int) := Int.tmod_lt_of_pos _ hmp
          generalize x.tmod (m : Int) = y at o6 hy0 hy1 ⊢
          obtain ⟨q, rfl⟩ := Int.eq_ofNat_of_zero_le hy0
          have hA := add_ok (n := 7) OK.out (j := q) (by omega) (by omega)
          have hlz := addL_len' (m : Int) (q : Int) 7 ls
          have hJz : addJ (m : Int) (q : Int) 7 ls = if addOk (m : Int) (q : Int) 7 ls = true then (m : Int) + 1 else m := rfl
          have hmore := length_more (j := q) (n := 7) OK.out
          have LLo := length_least OK.out
          rw [hA] at hJz hmore ⊢
          generalize addJ (m : Int) (q : Int) 7 ls = J6 at hJz hmore ⊢
          generalize addL (m : Int) (q : Int) 7 ls = L6 at o6 hlz hmore ⊢
          have CX := Lib.hid (fun b W h => implLen J6 (.slice A6 L6.length c6) L6 b W h (by omega))
          unfold bodyV at CX
          generalize lengthOf (m : Int) ls = N at CL hmore LLo
          generalize lengthOf J6 L6 = N6 at CX hmore
          obtain ⟨hN0, hN1⟩ := LLo
          first
            | have F := Lib.hid (end_first (J := J6) K5.out o6 ((HBw.out.alloc HBw.out.size _).trans ((undrew b6).mono (by have := HBw.out.size; simp; omega))) d0 d1 (by omega) (fun k hk => (KW.out.2.1.lt k hk).2) (fun k hk => (KW.out.2.2.lt k hk).2) (by simp) HBw.out.size)
            | have F := Lib.hid (end_last (J := J6) K5.out o6 (HBw.out.trans ((undrew b6).mono (by have := HBw.out.size; simpa using this))))
          clear o6 b6 K5 KW HB hA x0 x1 at0 at1
          have CSM := Lib.hid sampleI
          have hl2i : min (2 : Int) (m : Int) ≤ ((endsTo ls m).length : Int) := by omega
          by_cases hm : (m : Int) < 12
          · rw [decide_eq_true hm, if_pos rfl] at hJz
            have hN6 : N6 = N + 7 := hmore (decide_eq_true hm)
            subst hJz hN6
            rw [decide_eq_true hm]
            clear hmore
            obtain ⟨p0, p1⟩ := F.out.1
            obtain ⟨x0, x1⟩ := F.out.2.1.1
            go_wp2_with fail
            refine (CL.out _ F.out.2.1.2.1).mono ?_
            rintro e w9 ⟨rfl, b9⟩
            have F9 := Lib.hid (F.out.below b9)
            clear b9 p0 p1 x0 x1 F
            obtain ⟨p0, p1⟩ := F9.out.1
            obtain ⟨x0, x1⟩ := F9.out.2.1.1
            go_wp2_with fail
            refine (CO.out _ F9.out.2.1.2.1).mono ?_
            rintro e w10 ⟨rfl, b10⟩
            have F10 := Lib.hid (F9.out.below b10)
            clear b10 p0 p1 x0 x1 F9
            obtain ⟨p0, p1⟩ := F10.out.1
            obtain ⟨x0, x1⟩ := F10.out.2.1.1
            go_wp2_with fail
            all_goals
              refine (CX.out _ _ F10.out.2.2.1).mono ?_
              rintro e w11 ⟨rfl, b11⟩
              have F11 := Lib.hid (F10.out.below b11)
              clear b11 p0 p1 x0 x1 F10
              obtain ⟨p0, p1⟩ := F11.out.1
              obtain ⟨x0, x1⟩ := F11.out.2.1.1
              go_wp2_with fail
              refine (CSM.out _).mono ?_
              rintro e w12 ⟨v12, rfl, o12, b12⟩
              obtain ⟨A12, c12, rfl⟩ := o12.slice
              have F12 := Lib.hid (F11.out.below b12)
              have hs6 : sampleL.length = 6 := rfl
              have fld := run_limbs 7 A12 6 c12
              clear b12 o12 p0 p1 x0 x1 F11
              unfold bodyV
              go_wp2
              go_ret
              exact ⟨rfl, F12.out.2.2.2⟩
          · rw [decide_eq_false hm, if_neg (by decide)] at hJz
            subst hJz
            have hm' : (12 : Int) ≤ (m : Int) := by omega
            rw [decide_eq_false hm]
            clear hmore CX
            obtain ⟨x0, x1⟩ := F.out.2.1.1
            go_wp2_with fail
            refine (CL.out _ F.out.2.1.2.1).mono ?_
            rintro e w9 ⟨rfl, b9⟩
            have F9 := Lib.hid (F.out.below b9)
            clear b9 x0 x1 F
            obtain ⟨x0, x1⟩ := F9.out.2.1.1
            go_wp2_with fail
            refine (CO.out _ F9.out.2.1.2.1).mono ?_
            rintro e w10 ⟨rfl, b10⟩
            have F10 := Lib.hid (F9.out.below b10)
            clear b10 x0 x1 F9
            obtain ⟨x0, x1⟩ := F10.out.2.1.1
            go_wp2_with fail
            all_goals
              refine (CSM.out _).mono ?_
              rintro e w12 ⟨v12, rfl, o12, b12⟩
              obtain ⟨A12, c12, rfl⟩ := o12.slice
              have F12 := Lib.hid (F10.out.below b12)
              have hs6 : sampleL.length = 6 := rfl
              have fld := run_limbs 7 A12 6 c12
              clear b12 o12 x0 x1 F10
              unfold bodyV
              go_wp2
              go_ret
              exact ⟨congrArg (fun x => Ending.returned (.bool x)) (show (!decide ((m : Int) < 12)) = true by simpa using hm'), F12.out.2.2.2⟩
end Go.Proofs.Ytgmcinnajhbgfaa
