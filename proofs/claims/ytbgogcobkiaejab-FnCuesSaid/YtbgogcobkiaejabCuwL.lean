/- The law FnCues, walked over the contracts of the program's functions. No condition. -/
import Derived.Test.YtbgogcobkiaejabCueF
import Derived.Test.YtbgogcobkiaejabCcnS
import Derived.Test.YtbgogcobkiaejabHasW
import Derived.Test.YtbgogcobkiaejabSamI
import Derived.Test.YtbgogcobkiaejabCntI
import Derived.BigQuiet
namespace Go.Proofs.Ytbgogcobkiaejab
set_option linter.unusedVariables false
set_option linter.unusedSimpArgs false
open Go.RowKit

/-- The two cues of the law that wait for one another. -/
theorem loopOwn (w : World) : OwnCue (((w.alloc (.cells #[.int .i64 1] 3)).alloc (.cells #[.int .i64 0] 3)).alloc (.cells #[.int .i64 1, .slice (some ⟨w.heap.size, 0, none⟩) 1 1, .slice none 0 0, .int .i64 1, .slice (some ⟨w.heap.size + 1, 0, none⟩) 1 1, .slice none 0 0] 31)) w.heap.size (.slice (some ⟨w.heap.size + 2, 0, none⟩) 2 2) loopCues := by
  have a1 := ((oneI w w.heap.size 1 (Nat.le_refl _)).alloc (.cells #[.int .i64 0] 3)).alloc (.cells #[.int .i64 1, .slice (some ⟨w.heap.size, 0, none⟩) 1 1, .slice none 0 0, .int .i64 1, .slice (some ⟨w.heap.size + 1, 0, none⟩) 1 1, .slice none 0 0] 31)
  have a2 := (oneI (w.alloc (.cells #[.int .i64 1] 3)) w.heap.size 0 (by simp)).alloc (.cells #[.int .i64 1, .slice (some ⟨w.heap.size, 0, none⟩) 1 1, .slice none 0 0, .int .i64 1, .slice (some ⟨w.heap.size + 1, 0, none⟩) 1 1, .slice none 0 0] 31)
  simp only [World.size_alloc] at a2
  refine ⟨[.int .i64 1, .slice (some ⟨w.heap.size, 0, none⟩) 1 1, .slice none 0 0, .int .i64 1, .slice (some ⟨w.heap.size + 1, 0, none⟩) 1 1, .slice none 0 0], ⟨rfl, .inr ⟨w.heap.size + 2, 2, #[.int .i64 1, .slice (some ⟨w.heap.size, 0, none⟩) 1 1, .slice none 0 0, .int .i64 1, .slice (some ⟨w.heap.size + 1, 0, none⟩) 1 1, .slice none 0 0], rfl, by omega, ?_, Nat.le_refl _, by simp only [maxLen]; omega, rfl, rfl⟩⟩, rfl, fun t ht ht' => ?_, fun t ht => ?_, fun i j hi hj hij => ?_⟩
  · have := heap_alloc_new ((w.alloc (.cells #[.int .i64 1] 3)).alloc (.cells #[.int .i64 0] 3)) (.cells #[.int .i64 1, .slice (some ⟨w.heap.size, 0, none⟩) 1 1, .slice none 0 0, .int .i64 1, .slice (some ⟨w.heap.size + 1, 0, none⟩) 1 1, .slice none 0 0] 31)
    simpa using this
  · rcases (by simp at ht; omega : t = 0 ∨ t = 1 ∨ t = 2 ∨ t = 3 ∨ t = 4 ∨ t = 5) with rfl | rfl | rfl | rfl | rfl | rfl
    · exact rfl
    · exact a1
    · exact ⟨rfl, .inl ⟨rfl, rfl⟩⟩
    · exact rfl
    · exact a2
    · exact ⟨rfl, .inl ⟨rfl, rfl⟩⟩
  · rcases (by simp at ht; omega : t = 0 ∨ t = 1 ∨ t = 2 ∨ t = 3 ∨ t = 4 ∨ t = 5) with rfl | rfl | rfl | rfl | rfl | rfl <;> first | exact .inl rfl | exact .inr (fun e => by have q := Option.some.inj e; simp at q)
  · rcases (by simp at hi; omega : i = 0 ∨ i = 1 ∨ i = 2 ∨ i = 3 ∨ i = 4 ∨ i = 5) with rfl | rfl | rfl | rfl | rfl | rfl <;> rcases (by simp at hj; omega : j = 0 ∨ j = 1 ∨ j = 2 ∨ j = 3 ∨ j = 4 ∨ j = 5) with rfl | rfl | rfl | rfl | rfl | rfl <;> first | (exact absurd rfl hij) | exact .inl rfl | exact sep_none_r rfl | exact .inr (fun e => by have q := Option.some.inj e; simp at q)
theorem two01 (w : World) : OwnI (w.alloc (.cells #[.int .i64 0, .int .i64 1] 3)) w.heap.size (.slice (some ⟨w.heap.size, 0, none⟩) 2 2) [0, 1] :=
  ⟨rfl, .inr ⟨w.heap.size, 2, #[.int .i64 0, .int .i64 1], rfl, Nat.le_refl _, heap_alloc_new w _, Nat.le_refl _, by simp only [maxLen]; omega, rfl, rfl⟩⟩
/- HYPOTHESES -/
set_option maxRecDepth 100000 in
set_option maxHeartbeats 3200000 in
theorem FnCues_walk (a : Option Addr) (n cap : Nat) (z : List Int) (w : World) (hr : IsRow .u8 w a n cap z) :
    Calls Try.prog 3 #[.slice a n cap] w fun e w' => e = .returned (.bool true) ∧ Below w.heap.size w w' := by
  have hm := row_len hr
  obtain ⟨i0, hi0, hz0, hz1, hz2⟩ := info_parts info_int
  by_cases hn : 1048576 < n
  · clear hr
    go_enter Try.func3, Try.ntmps3
    go_wp2_with fail
    refine (big_yes a n cap w hn hm).mono ?_
    rintro e w' ⟨rfl, rfl⟩
    go_wp2
    go_ret
    exact ⟨rfl, Below.refl _ _⟩
  have CD := Lib.hid (drawCues_any a n cap z w hr (by omega))
  clear hr
  go_enter Try.func3, Try.ntmps3
  go_wp2_with fail
  refine (big_no a n cap w (by omega)).mono ?_
  rintro e w' ⟨rfl, rfl⟩
  go_wp2_with fail
  refine CD.out.mono ?_
  rintro e w1 ⟨vl, ls, rfl, o1, hl, hg, b1⟩
  obtain ⟨L, cl, rfl⟩ := o1.slice
  have O1 := Lib.hid o1
  have B1 := Lib.hid b1
  have hok := good_ok hg hl
  have hbk : bulkCue ls ≤ 1048576 := by have := good_bulk hg hl.2; omega
  have CO := Lib.hid (fun W h => implOrd (.slice L ls.length cl) ls w.heap.size W h hbk)
  have CK := Lib.hid (fun W h => (show Calls Try.prog 13 #[.slice L ls.length cl] W fun e w' => e = .returned (.bool true) ∧ Below W.heap.size W w' from by have q := implCOk (.slice L ls.length cl) ls w.heap.size W h hbk; rwa [hok] at q))
  have CI := Lib.hid (fun W h => (show Calls Try.prog 14 #[.slice L ls.length cl] W (IntsPost W []) from by have q := implCirc (.slice L ls.length cl) ls w.heap.size W h hbk; rwa [(cuesOk_has hok).2.2] at q))
  have CF := Lib.hid (fun W h => implFree (.slice L ls.length cl) ls w.heap.size W h hbk)
  have CW := Lib.hid (fun i k W h => implWait (.slice L ls.length cl) ls w.heap.size W h hbk i k)
  have CC := Lib.hid (fun W h => implCnt (.slice L ls.length cl) ls w.heap.size W h hbk)
  have OL := Lib.hid (order_len hok)
  have HOK := Lib.hid hok
  have HG := Lib.hid hg
  clear o1 b1 CD hm hn hok hg hbk
  go_wp2_with fail
  refine (CO.out _ O1.out).mono ?_
  rintro e w2 ⟨vo, rfl, o2, b2⟩
  obtain ⟨O, co, e2⟩ := o2.slice
  rw [OL.out] at e2
  subst e2
  have Z2 := Lib.hid o2
  have O2 := Lib.hid (O1.out.below b2)
  have B2 := Lib.hid (B1.out.trans (b2.mono B1.out.size))
  have hb1 := B1.out.size
  clear o2 b2 O1 B1 CO OL
  go_wp2_with fail
  refine (CK.out _ O2.out).mono ?_
  rintro e w3 ⟨rfl, b3⟩
  have Z3 := Lib.hid (Z2.out.below b3)
  have O3 := Lib.hid (O2.out.below b3)
  have B3 := Lib.hid (B2.out.trans (b3.mono B2.out.size))
  have hb3 := b3.size
  clear b3 Z2 O2 B2 CK
  go_wp2_with fail
  refine (CI.out _ O3.out).mono ?_
  rintro e w4 ⟨vc, rfl, c4, b4⟩
  obtain ⟨C, cc, rfl⟩ := c4.slice
  have Z4 := Lib.hid (Z3.out.below b4)
  have O4 := Lib.hid (O3.out.below b4)
  have B4 := Lib.hid (B3.out.trans (b4.mono B3.out.size))
  have hb4 := b4.size
  clear c4 b4 Z3 O3 B3 CI
  go_wp2_with (
    refine wpList_make_full _ rfl _ _ 26 rfl w4.heap.size 3 i0 (.int .i64 0) 1 Try.underlying26 hi0 hz0 hz1 .i64 .i64 _ _ ls.length rfl rfl rfl rfl (by rw [hz2]; omega) (by simp only [maxLen]; omega) (by simp) ?_
    intro w5 own5 grown5
    have P5 := Lib.hid (show OwnI w5 w4.heap.size (.slice (some ⟨w4.heap.size, 0, none⟩) ls.length ls.length) (natI (placeTo ls 0)) from by
      have q := madeZero own5
      have e : natI (placeTo ls 0) = List.replicate ls.length (0 : Int) := by simp [natI, placeTo]
      rw [e]
      exact q)
    have Z5 := Lib.hid (Z4.out.kept grown5 (by cases (Value.slice O ls.length co).ownBlock <;> simp))
    have O5 := Lib.hid ((held_of O4.out).below (below_of_grown grown5))
    have SEP := Lib.hid (fun q hq => (Z4.out.lt q hq).2)
    have hbs := B4.out.size
    have B5 := Lib.hid (B4.out.trans ((below_of_grown grown5).mono hbs))
    clear own5 grown5 Z4 O4 B4)
  go_loopw [7, 8] (fun sv kv wr => ∃ k : Nat, k ≤ ls.length ∧ sv = .int .i64 (overAt ls k : Int) ∧ kv = .int .i64 (k : Int) ∧ Hid (OwnI wr w4.heap.size (.slice (some ⟨w4.heap.size, 0, none⟩) ls.length ls.length) (natI (placeTo ls k))) ∧ Hid (OwnI wr w1.heap.size (.slice O ls.length co) (cueOrder ls)) ∧ Hid (Held 31 3 wr w.heap.size w4.heap.size (.slice L ls.length cl) ls.length (flatCue ls)) ∧ Hid (Below w.heap.size w wr)) (fun _ kv _ => ls.length - (intOf kv).toNat)
  case atStart => exact ⟨0, by omega, rfl, rfl, P5, Z5, O5, B5⟩
  case round =>
    clear P5 Z5 O5 B5
    obtain ⟨k, hk, rfl, rfl, PP, ZZ, OO, BW⟩ := hrel
    by_cases hlt : k < ls.length
    · have hk0 : (0 : Int) ≤ (k : Int) := by omega
      have hk1 : (k : Int) < (ls.length : Int) := by omega
      obtain ⟨go, _, f1, -, -, z0, -⟩ := ZZ.out.spot (k := k) (by rw [order_len HOK.out]; exact hlt)
      simp only [Value.slice.injEq] at f1
      obtain ⟨rfl, -, -⟩ := f1
      have ez : (cueOrder ls)[k]'(by rw [order_len HOK.out]; exact hlt) = (pk ls k : Int) := by
        have q := order_at HOK.out hlt
        rw [List.getElem?_eq_getElem (by rw [order_len HOK.out]; exact hlt)] at q
        exact Option.some.inj q
      rw [ez] at z0
      have hp := (pk_free HOK.out hlt).1
      have hp0 : ¬ (pk ls k : Int) < 0 := by omega
      have hpn : (0 : Int) ≤ (pk ls k : Int) := by omega
      have hp1 : (pk ls k : Int) < (ls.length : Int) := by omega
      have hp2 : ¬ (ls.length : Int) ≤ (pk ls k : Int) := by omega
      obtain ⟨_, _, f1, -, -, p0, pf⟩ := PP.out.spot (k := pk ls k) (by rw [natI_len, place_len]; exact hp)
      simp only [Value.slice.injEq, Option.some.injEq, Addr.mk.injEq] at f1
      obtain ⟨⟨rfl, _⟩, -, -⟩ := f1
      rw [natI_at _ (by rw [place_len]; exact hp)] at p0
      generalize (placeTo ls k).getD (pk ls k) 0 = px at p0
      have SET := PP.out.set (k := pk ls k) (by rw [natI_len, place_len]) (k : Int)
      rw [natI_set, show (placeTo ls k).set (pk ls k) k = placeTo ls (k + 1) from rfl] at SET
      have hbs2 := BW.out.size
      have hov := over_lt HOK.out (m := k) (by omega)
      have hov7 : overAt ls k < 4096 := Nat.lt_of_lt_of_le hov (pow_small (by omega))
      have ON := Lib.hid (over_next ls k)
      have hpw : 1 <<< pk ls k < 4096 := by
        have q := (shl_small (n := pk ls k) (by omega)).1
        clear hov hov7
        generalize 1 <<< pk ls k = t at q ⊢
        omega
      have esk := shl_nat64 (pk ls k) (by omega)
      have esn : wrap64 (2 ^ min (pk ls k) 64) = ((1 <<< pk ls k : Nat) : Int) := by rw [Nat.min_eq_left (by omega)]; exact esk
      have esi : IntKind.i64.wrap (2 ^ pk ls k) = ((1 <<< pk ls k : Nat) : Int) := by
        have h := shl_nat (pk ls k) (by omega)
        rwa [Nat.min_eq_left (by omega)] at h
      have P2 := Lib.hid SET.1
      have B2 := Lib.hid (BW.out.grown SET.2 hbs2 (fun q hq => by have := Option.some.inj hq; omega))
      have Z2 := Lib.hid (ZZ.out.kept SET.2 (sep_of fun q e1 e2 => by have := SEP.out q e1; have := Option.some.inj e2; omega))
      obtain ⟨_, _, f1, -, -, z1, -⟩ := Z2.out.spot (k := k) (by rw [order_len HOK.out]; exact hlt)
      simp only [Value.slice.injEq, Option.some.injEq, Addr.mk.injEq] at f1
      obtain ⟨⟨rfl, _⟩, -, -⟩ := f1
      rw [ez] at z1
      have O2 := Lib.hid (OO.out.kept SET.2 (fun q hq => .inr (by have := Option.some.inj hq; omega)))
      clear SET ez hov hp PP ZZ OO BW
      generalize overAt ls k = S at hov7 ON ⊢
      generalize 1 <<< pk ls k = t at hpw esk esn esi ON
      have eos := or_nat (s := S) (t := t) (by clear esk esn esi; omega) (by clear esk esn esi; omega)
      generalize S ||| t = T at eos ON
      clear hpw hov7
      generalize pk ls k = p at z0 z1 hp0 hpn hp1 hp2 p0 pf P2 B2 Z2 O2 esk esn esi
      go_wp2
      exact ⟨⟨k + 1, by omega, by rw [ON.out], by go_num, P2, Z2, O2, B2⟩, by simp [intOf]; omega⟩
    · obtain rfl : k = ls.length := by omega
      have FU := over_full HOK.out
      have hpos : 1 ≤ 2 ^ ls.length := Nat.pow_pos (by omega)
      have hpsm := pow_small (n := ls.length) (by omega)
      have eM : 1 <<< ls.length = overAt ls ls.length + 1 := by rw [FU, Nat.shiftLeft_eq, Nat.one_mul]; omega
      have hM : overAt ls ls.length < 4096 := by omega
      have esk := shl_nat64 ls.length (by omega)
      have esn : wrap64 (2 ^ min ls.length 64) = ((1 <<< ls.length : Nat) : Int) := by rw [Nat.min_eq_left (by omega)]; exact esk
      have esi : IntKind.i64.wrap (2 ^ ls.length) = ((1 <<< ls.length : Nat) : Int) := by
        have h := shl_nat ls.length (by omega)
        rwa [Nat.min_eq_left (by omega)] at h
      rw [eM] at esk esn esi
      have en : IntKind.i64.wrap (((overAt ls ls.length + 1 : Nat) : Int) - 1) = ((overAt ls ls.length : Nat) : Int) := by
        clear esk esn esi FU eM hpos hpsm
        rw [IntWalk.i64_in _ (by omega)]
        omega
      clear FU hpos hpsm eM hlt
      generalize overAt ls ls.length = M at esk esn esi en hM ⊢
      have ESK := Lib.hid esk
      have ESN := Lib.hid esn
      have ESI := Lib.hid esi
      clear esk esn esi ZZ
      have L6 := Lib.hid (show OwnCue wr w.heap.size (.slice L ls.length cl) ls from OO.out.own)
      go_wp2_with fail
      refine (CF.out _ L6.out).mono ?_
      rintro e w6 ⟨vf, rfl, f6, b6⟩
      obtain ⟨F, cf, rfl⟩ := f6.slice
      have hr6 := b6.size
      have KF := Lib.hid (show ∀ W, Below w6.heap.size w6 W → OwnCue W w.heap.size (.slice L ls.length cl) ls ∧ OwnI W w4.heap.size (.slice (some ⟨w4.heap.size, 0, none⟩) ls.length ls.length) (natI (placeTo ls ls.length)) ∧ OwnI W wr.heap.size (.slice F (freeCues ls).length cf) (freeCues ls) ∧ Below w.heap.size w W from
        fun W hb => ⟨(L6.out.below b6).below hb, (PP.out.below b6).below hb, f6.below hb, (BW.out.trans (b6.mono BW.out.size)).trans (hb.mono (by have := BW.out.size; omega))⟩)
      clear f6 b6 PP OO BW L6 CF
      obtain ⟨g, _, _, _, _, _, f1, -⟩ := (KF.out _ (Below.refl _ _)).1.spot (k := 0) (by omega)
      simp only [Value.slice.injEq] at f1
      obtain ⟨rfl, -, -⟩ := f1
      have AF := Lib.hid (show ∀ W, Below w6.heap.size w6 W → ∀ i (hi : i < ls.length), ∃ A1 c1, W.cell? ⟨g, i * 3 + 1, none⟩ = some (.slice A1 ls[i].f1.length c1) ∧ OwnI W w.heap.size (.slice A1 ls[i].f1.length c1) ls[i].f1 from
        fun W hb i hi => by
          obtain ⟨_, _, A1, c1, _, _, f1, -, ⟨_, x1, _⟩, ⟨o1, _⟩, _⟩ := (KF.out _ hb).1.spot hi
          simp only [Value.slice.injEq, Option.some.injEq, Addr.mk.injEq] at f1
          obtain ⟨⟨rfl, _⟩, -, -⟩ := f1
          exact ⟨A1, c1, x1, o1⟩)
      have PL := Lib.hid (show ∀ W, Below w6.heap.size w6 W → ∀ i, i < ls.length → W.cell? ⟨w4.heap.size, i, none⟩ = some (.int .i64 (((placeTo ls ls.length).getD i 0 : Nat) : Int)) from
        fun W hb i hi => by
          obtain ⟨_, _, f1, -, -, x, -⟩ := (KF.out _ hb).2.1.spot (k := i) (by rw [natI_len, place_len]; exact hi)
          simp only [Value.slice.injEq, Option.some.injEq, Addr.mk.injEq] at f1
          obtain ⟨⟨rfl, _⟩, -, -⟩ := f1
          rwa [natI_at _ (by rw [place_len]; exact hi)] at x)
      have hfl := freeCues_len ls
      have HH := Lib.hid (show ∀ W, Below w6.heap.size w6 W → ∀ i (hi : i < ls.length), Calls Try.prog 17 #[.slice F (freeCues ls).length cf, .int .i64 (i : Int)] W fun e w' => e = .returned (.bool (decide (ls[i].f1.length = 0))) ∧ w' = W from
        fun W hb i hi => by
          have q := has_any (.slice F (freeCues ls).length cf) (freeCues ls) (i : Int) wr.heap.size W (KF.out _ hb).2.2.1 hfl
          unfold hasL at q
          rwa [show decide ((i : Int) ∈ freeCues ls) = decide (ls[i].f1.length = 0) from decide_eq_decide.2 (free_has HOK.out hi)] at q)
      have W0 := Lib.hid (Below.refl w6.heap.size w6)
      go_wp2_with fail
      go_loopw [10] (fun iv wr => ∃ i : Nat, i ≤ ls.length ∧ iv = .int .i64 (i : Int) ∧ Hid (Below w6.heap.size w6 wr)) (fun iv _ => ls.length - (intOf iv).toNat)
      case atStart => exact ⟨0, by omega, rfl, W0⟩
      case round =>
        clear W0
        obtain ⟨i, hi, rfl, BW⟩ := hrel
        by_cases hil : i < ls.length
        · have hi0 : (0 : Int) ≤ (i : Int) := by omega
          have hi1 : (i : Int) < (ls.length : Int) := by omega
          go_wp2_with fail
          go_loopw [11] (fun kv wr => ∃ k : Nat, k ≤ ls.length ∧ kv = .int .i64 (k : Int) ∧ Hid (Below w6.heap.size w6 wr)) (fun kv _ => ls.length - (intOf kv).toNat)
          case atStart => exact ⟨0, by omega, rfl, BW⟩
          case round =>
            clear BW
            obtain ⟨k, hk, rfl, BW⟩ := hrel
            by_cases hlt : k < ls.length
            · have hk0 : (0 : Int) ≤ (k : Int) := by omega
              have hk1 : (k : Int) < (ls.length : Int) := by omega
              go_wp2_with fail
              refine (CW.out (i : Int) (k : Int) _ (KF.out _ BW.out).1).mono ?_
              rintro e w7 ⟨rfl, b7⟩
              have B7 := Lib.hid (BW.out.trans (b7.mono BW.out.size))
              clear b7 BW
              cases hw : waitsFor ls (i : Int) (k : Int) with
              | false =>
                have WY := Lib.hid (fun z => (below_drewN B7.out z : Below w6.heap.size w6 (w7.drewN z)))
                go_wp2_with fail
                go_quiet (fail)
                go_wp2
                exact ⟨⟨k + 1, by omega, by go_num, Lib.hid (WY.out _)⟩, by simp [intOf]; omega⟩
              | true =>
                obtain ⟨hpl, hno⟩ := waits_place HOK.out hil hlt hw
                have y0 := PL.out _ B7.out k hlt
                have y1 := PL.out _ B7.out i hil
                have C2 := Lib.hid (fun W h => (show Calls Try.prog 16 #[.slice (some ⟨g, 0, none⟩) ls.length cl, .int .i64 (k : Int), .int .i64 (i : Int)] W fun e w' => e = .returned (.bool false) ∧ Below W.heap.size W w' from by have q := CW.out (k : Int) (i : Int) W h; rwa [hno] at q))
                obtain ⟨x, hx⟩ : ∃ x : Int, (((placeTo ls ls.length).getD k 0 : Nat) : Int) = x := ⟨_, rfl⟩
                obtain ⟨y, hy⟩ : ∃ y : Int, (((placeTo ls ls.length).getD i 0 : Nat) : Int) = y := ⟨_, rfl⟩
                rw [hx] at y0
                rw [hy] at y1
                have hxy : ¬ y ≤ x := by omega
                clear hx hy
                clear hpl hno hw
                go_wp2_with fail
                go_still_tail 15, (by kernel_rfl)
                go_wp2_with fail
                refine (C2.out _ (KF.out _ B7.out.drew).1).mono ?_
                rintro e w8 ⟨rfl, b8⟩
                replace b8 := undrew b8
                have B8 := Lib.hid (B7.out.trans (b8.mono B7.out.size))
                clear b8 C2 B7 y0 y1
                go_wp2
                exact ⟨⟨k + 1, by omega, by go_num, B8⟩, by simp [intOf]; omega⟩
            · obtain rfl : k = ls.length := by omega
              go_wp2_with fail
              go_loopw [13] (fun jv wr => ∃ j : Nat, j ≤ ls[i].f1.length ∧ jv = .int .i64 (j : Int) ∧ Hid (Below w6.heap.size w6 wr)) (fun jv _ => ls[i].f1.length - (intOf jv).toNat)
              case atStart => exact ⟨0, by omega, rfl, BW⟩
              case round =>
                clear BW
                obtain ⟨j, hj, rfl, BW⟩ := hrel
                obtain ⟨A1, c1, x1, o1⟩ := AF.out _ BW.out i hil
                have ha := asc_len (HG.out i hil).2.1
                by_cases hjl : j < ls[i].f1.length
                · have hj0 : (0 : Int) ≤ (j : Int) := by omega
                  have hj1 : (j : Int) < (ls[i].f1.length : Int) := by omega
                  obtain ⟨ga, ca, e1, -, -, y0, -⟩ := o1.spot hjl
                  simp only [Value.slice.injEq] at e1
                  obtain ⟨rfl, -, rfl⟩ := e1
                  have C2 := Lib.hid (fun (W : World) (h : OwnCue W w.heap.size (.slice (some ⟨g, 0, none⟩) ls.length cl) ls) => (show Calls Try.prog 16 #[.slice (some ⟨g, 0, none⟩) ls.length cl, .int .i64 (i : Int), .int .i64 (ls[i].f1[j])] W fun e w' => e = .returned (.bool true) ∧ Below W.heap.size W w' from by have q := CW.out (i : Int) (ls[i].f1[j]) W h; rwa [waits_after HOK.out hil hjl] at q))
                  clear o1
                  generalize ls[i].f1[j] = x at y0 C2
                  go_wp2_with fail
                  refine (C2.out _ (KF.out _ BW.out).1).mono ?_
                  rintro e w7 ⟨rfl, b7⟩
                  have B7 := Lib.hid (BW.out.trans (b7.mono BW.out.size))
                  clear b7 BW C2
                  go_wp2
                  exact ⟨⟨j + 1, by omega, by go_num, B7⟩, by simp [intOf]; omega⟩
                · have hj2 : ¬ (j : Int) < (ls[i].f1.length : Int) := by omega
                  have CH := Lib.hid (fun W hb => HH.out W hb i hil)
                  have WY := Lib.hid (fun z => (below_drewN BW.out z : Below w6.heap.size w6 (wr.drewN z)))
                  clear o1
                  by_cases h0 : ls[i].f1.length = 0
                  · rw [decide_eq_true h0] at CH
                    have hb0 : ((ls[i].f1.length : Int) == 0) = true := by rw [h0]; rfl
                    go_wp2_with fail
                    go_quiet (first | (go_at_call 17; refine Calls.quiet_of_same (CH.out _ ?_); exact WY.out _))
                    go_wp2
                    exact ⟨⟨i + 1, by omega, by go_num, Lib.hid (WY.out _)⟩, by simp [intOf]; omega⟩
                  · rw [decide_eq_false h0] at CH
                    have hb0 : ((ls[i].f1.length : Int) == 0) = false := by rw [beq_eq_false_iff_ne]; omega
                    go_wp2_with fail
                    go_quiet (first | (go_at_call 17; refine Calls.quiet_of_same (CH.out _ ?_); exact WY.out _))
                    go_wp2
                    exact ⟨⟨i + 1, by omega, by go_num, Lib.hid (WY.out _)⟩, by simp [intOf]; omega⟩
        · obtain rfl : i = ls.length := by omega
          have hc := count_some HOK.out (by omega)
          have hf := free_some HG.out hl
          go_wp2_with fail
          refine (CC.out _ (KF.out _ BW.out).1).mono ?_
          rintro e w8 ⟨rfl, b8⟩
          have B7 := (KF.out _ BW.out).2.2.2
          have B8 := Lib.hid (B7.trans (b8.mono B7.size))
          have LO := Lib.hid (loopOwn w8)
          have C3 := Lib.hid (fun W h => (show Calls Try.prog 14 #[.slice (some ⟨w8.heap.size + 2, 0, none⟩) 2 2] W (IntsPost W [0, 1]) from by have q := implCirc (.slice (some ⟨w8.heap.size + 2, 0, none⟩) 2 2) loopCues w8.heap.size W h (by decide); rwa [loop_circle] at q))
          have C4 := Lib.hid (fun W h => (show Calls Try.prog 13 #[.slice (some ⟨w8.heap.size + 2, 0, none⟩) 2 2] W fun e w' => e = .returned (.bool false) ∧ Below W.heap.size W w' from by have q := implCOk (.slice (some ⟨w8.heap.size + 2, 0, none⟩) 2 2) loopCues w8.heap.size W h (by decide); rwa [loop_bad] at q))
          have hs8 := B8.out.size
          have esk := ESK.out
          have esn := ESN.out
          have esi := ESI.out
          clear b8 B7 BW KF AF PL HH CC CW HG HOK ESK ESN ESI hfl
          generalize countOrders ls = c at hc ⊢
          generalize (freeCues ls).length = q at hf ⊢
          have hf1 : (1 : Int) ≤ (q : Int) := by omega
          obtain ⟨N1, hN1⟩ : ∃ N1, M + 1 = N1 := ⟨_, rfl⟩
          rw [hN1] at esk esn esi en
          clear hN1 hM
          go_wp2_with fail
          refine (C3.out _ LO.out).mono ?_
          rintro e w9 ⟨vr, rfl, r9, b9⟩
          obtain ⟨R, cr, rfl⟩ := r9.slice
          have R9 := Lib.hid r9
          have L9 := Lib.hid (LO.out.below b9)
          have B9 := Lib.hid ((((B8.out.alloc hs8 _).alloc (by simp; omega) _).alloc (by simp; omega) _).trans (b9.mono (by simp; omega)))
          have hs9 := B9.out.size
          clear r9 b9 LO B8 C3
          go_wp2_with fail
          refine (sameInts_same _ _ [0, 1] _ _ _ (R9.out.alloc _) (two01 w9) (by simp)).mono ?_
          rintro e w10 ⟨rfl, b10⟩
          have L10 := Lib.hid ((L9.out.alloc _).below b10)
          have B10 := Lib.hid ((B9.out.alloc hs9 _).trans (b10.mono (by simp; omega)))
          clear b10 L9 B9 R9
          go_wp2_with fail
          refine (C4.out _ L10.out).mono ?_
          rintro e w11 ⟨rfl, b11⟩
          have B11 := Lib.hid (B10.out.trans (b11.mono B10.out.size))
          clear b11
          go_wp2
          go_ret
          exact ⟨rfl, B11.out⟩
end Go.Proofs.Ytbgogcobkiaejab
