/- The contracts of the program's LoadOf and IsCasting. Condition: the players and the numbers lie in rows of their own. -/
import Derived.Test.YtbgogcobkiaejaaSixI
import Derived.Test.YtbgogcobkiaejaaPoyI
import Derived.Test.YtbgogcobkiaejaaMadZ
namespace Go.Proofs.Ytbgogcobkiaejaa
set_option linter.unusedVariables false
set_option linter.unusedSimpArgs false
open Go.RowKit

theorem ext_getD {a b : List Int} (hl : a.length = b.length) (h : ∀ p, p < a.length → a.getD p 0 = b.getD p 0) : a = b := by
  refine List.ext_getElem hl fun p h1 h2 => ?_
  have e := h p h1
  rw [List.getD_eq_getElem?_getD, List.getD_eq_getElem?_getD, List.getElem?_eq_getElem h1, List.getElem?_eq_getElem h2] at e
  exact e
theorem rng_at (f : Nat → Int) {n p : Nat} (h : p < n) : ((List.range n).map f).getD p 0 = f p := by
  rw [List.getD_eq_getElem?_getD, List.getElem?_eq_getElem (by simpa using h)]
  simp
/-- How often each of m players stands among the first i. -/
def ldI (zs : List Int) (m i : Nat) : List Int := (List.range m).map fun p : Nat => cntI zs (p : Int) i
theorem ld_len (zs : List Int) (m i : Nat) : (ldI zs m i).length = m := by simp [ldI]
theorem ld_zero (zs : List Int) (m : Nat) : ldI zs m 0 = List.replicate m 0 := by
  refine ext_getD (by simp [ldI]) fun p hp => ?_
  rw [ld_len] at hp
  rw [ldI, rng_at _ hp, List.getD_eq_getElem?_getD, List.getElem?_replicate_of_lt hp]
  rfl
theorem ld_hit {zs : List Int} {m i k : Nat} (hk : k < m) (e : zs.getD i 0 = (k : Int)) : ldI zs m (i + 1) = (ldI zs m i).set k (cntI zs (k : Int) i + 1) := by
  refine ext_getD (by simp [ldI]) fun p hp => ?_
  rw [ld_len] at hp
  rw [ldI, rng_at _ hp, cntI, e]
  by_cases c : k = p
  · subst c
    rw [getD_set_same (by rw [ld_len]; exact hk), if_pos rfl]
  · rw [getD_set_other c, ldI, rng_at _ hp, if_neg (by omega)]
    omega
theorem ld_miss {zs : List Int} {m i : Nat} (e : ∀ k : Nat, k < m → zs.getD i 0 ≠ (k : Int)) : ldI zs m (i + 1) = ldI zs m i := by
  refine ext_getD (by simp [ldI]) fun p hp => ?_
  rw [ld_len] at hp
  rw [ldI, rng_at _ hp, cntI, ldI, rng_at _ hp, if_neg (e p hp)]
  omega
theorem ld_all (zs : List Int) (m : Nat) : ldI zs m zs.length = loadTo zs m := by
  refine ext_getD (by rw [ld_len, load_len]) fun p hp => ?_
  rw [ld_len] at hp
  rw [ldI, rng_at _ hp, load_at zs m p hp]

theorem hasPlayer_any (A : Option Addr) (n c : Nat) (i : Int) (w : World) (hn : n ≤ 2000000) :
    Calls Try.prog 39 #[.slice A n c, .int .i64 i] w fun e w' => e = .returned (.bool (inB i 0 ((n : Int) - 1))) ∧ w = w' := by
  have C1 := Lib.hid (fun W => (inRange_any i 0 ((n : Int) - 1) W).mono fun e w' h => (show _ ∧ W = w' from ⟨h.1, h.2.symm⟩))
  have en : IntKind.i64.wrap ((n : Int) - 1) = (n : Int) - 1 := IntWalk.i64_in _ (by omega)
  go_enter Try.func39, Try.ntmps39
  go_wp2_with (go_at_call 40; refine (C1.out _).mono ?_; rintro e w' ⟨rfl, rfl⟩)
  go_ret
  exact ⟨rfl, rfl⟩

set_option maxRecDepth 100000 in
set_option maxHeartbeats 1600000 in
theorem implLoa (v : Value) (ls : List RPlayer) (b : Nat) (w : World) (h : OwnPlayer w b v ls) (hl : ls.length ≤ 2000000) (hr : ∀ k (hk : k < ls.length), ls[k].f0.length ≤ 2000000) (u : Value) (zs : List Int) (b2 : Nat) (h2 : OwnI w b2 u zs) (hz : zs.length ≤ 2000000) :
    Calls Try.prog 15 #[v, u] w (IntsPost w (loadOf ls zs)) := by
  have CK := Lib.hid (implPOk v ls b w h hl hr)
  obtain ⟨A, c, rfl⟩ := h.slice
  obtain ⟨D, d, rfl⟩ := h2.slice
  have Z := Lib.hid h2
  have CH := Lib.hid (fun x W => hasPlayer_any A ls.length c x W hl)
  clear h hr h2
  cases hok : playersOk ls with
  | false =>
    have R := Lib.hid (show loadOf ls zs = [] by unfold loadOf; rw [hok]; rfl)
    rw [hok] at CK
    go_enter Try.func15, Try.ntmps15
    go_wp2_with (go_at_call 18; refine CK.out.mono ?_; rintro e w1 ⟨rfl, b1⟩; have B1 := Lib.hid b1; clear b1)
    go_ret
    exact ⟨_, rfl, by rw [R.out]; exact ⟨rfl, .inl ⟨rfl, rfl⟩⟩, B1.out⟩
  | true =>
    obtain ⟨i0, hi0, hz0, hz1, hz2⟩ := info_parts info_int
    have hn := (playersOk_has hok).1
    have R := Lib.hid (show loadOf ls zs = ldI zs ls.length zs.length by unfold loadOf; rw [if_pos hok, ld_all])
    have LZ := Lib.hid (ld_zero zs ls.length)
    rw [hok] at CK
    clear hok
    go_enter Try.func15, Try.ntmps15
    go_wp2_with (first | (go_at_call 18; refine CK.out.mono ?_; rintro e w1 ⟨rfl, b1⟩; have B1 := Lib.hid b1; clear b1) | (
      at_make
      refine wpList_make_full _ rfl _ _ 25 rfl w1.heap.size 3 i0 (.int .i64 0) 1 Try.underlying25 hi0 hz0 hz1 .i64 .i64 _ _ ls.length rfl rfl rfl rfl (by rw [hz2]; omega) (by simp only [maxLen]; omega) (by simp) ?_
      intro w3 own3 grown3
      have O3 := Lib.hid (show OwnI w3 w1.heap.size (.slice (some ⟨w1.heap.size, 0, none⟩) ls.length ls.length) (ldI zs ls.length 0) by rw [LZ.out]; exact madeZero own3)
      have B3 := Lib.hid (B1.out.trans ((below_of_grown grown3).mono B1.out.size))
      have hbs := B1.out.size
      clear own3 grown3 B1))
    generalize hG : w1.heap.size = G at O3 B3 hbs ⊢
    clear hG CK
    go_loopw [16] (fun iv wr => ∃ i : Nat, i ≤ zs.length ∧ iv = .int .i64 (i : Int) ∧ Hid (OwnI wr G (.slice (some ⟨G, 0, none⟩) ls.length ls.length) (ldI zs ls.length i)) ∧ Hid (Below w.heap.size w wr)) (fun iv _ => zs.length - (intOf iv).toNat)
    case atStart => exact ⟨0, by omega, rfl, O3, B3⟩
    case round =>
      clear O3 B3
      obtain ⟨i, hi, rfl, OO, BW⟩ := hrel
      by_cases hli : i < zs.length
      rotate_left
      · obtain rfl : i = zs.length := by omega
        have F := Lib.hid (show OwnI wr w.heap.size (.slice (some ⟨G, 0, none⟩) ls.length ls.length) (loadOf ls zs) by rw [R.out]; exact OO.out.mono hbs)
        go_wp2
        go_ret
        exact ⟨_, rfl, F.out, BW.out⟩
      have hi0' : (0 : Int) ≤ (i : Int) := by omega
      have hi1' : (i : Int) < (zs.length : Int) := by omega
      obtain ⟨gz, _, f1, _, _, z0, _⟩ := (Z.out.below BW.out).spot hli
      simp only [Value.slice.injEq] at f1
      obtain ⟨rfl, -, rfl⟩ := f1
      have EZ : zs.getD i 0 = zs[i] := by rw [List.getD_eq_getElem?_getD, List.getElem?_eq_getElem hli]; rfl
      have HIT := Lib.hid (fun (k : Nat) (hk : k < ls.length) (e : zs[i] = (k : Int)) => ld_hit (zs := zs) (m := ls.length) (i := i) (k := k) hk (EZ.trans e))
      have MISS := Lib.hid (fun (e : ∀ k : Nat, k < ls.length → zs[i] ≠ (k : Int)) => ld_miss (zs := zs) (m := ls.length) (i := i) (fun k hk q => e k hk (EZ.symm.trans q)))
      have SM := Lib.hid (fun k => cntI_small zs k i)
      clear EZ
      generalize zs[i] = y at z0 HIT MISS
      cases hin : inB y 0 ((ls.length : Int) - 1) with
      | false =>
        have C1 := Lib.hid (fun W => hin ▸ CH.out y W)
        have N2 := Lib.hid (show OwnI wr G (.slice (some ⟨G, 0, none⟩) ls.length ls.length) (ldI zs ls.length (i + 1)) by rw [MISS.out (fun k hk e => by rw [inB_yes (by omega)] at hin; cases hin)]; exact OO.out)
        clear hin OO
        go_wp2_with (go_at_call 39; refine (C1.out _).mono ?_; rintro e w' ⟨rfl, rfl⟩)
        exact ⟨⟨i + 1, by omega, by go_num, N2, BW⟩, by simp [intOf]; omega⟩
      | true =>
        have C1 := Lib.hid (fun W => hin ▸ CH.out y W)
        have hyr : 0 ≤ y ∧ y ≤ (ls.length : Int) - 1 := by simpa [inB] using hin
        obtain ⟨k, rfl⟩ := Int.eq_ofNat_of_zero_le hyr.1
        have hk : k < ls.length := by omega
        have hk0 : (0 : Int) ≤ (k : Int) := by omega
        have hk1 : (k : Int) < (ls.length : Int) := by omega
        have LL := ld_len zs ls.length i
        obtain ⟨gq, _, f1, hgq, hgq2, q0, q1⟩ := OO.out.spot (k := k) (by rw [LL]; exact hk)
        simp only [Value.slice.injEq, Option.some.injEq, Addr.mk.injEq] at f1
        obtain ⟨⟨rfl, _⟩, -, -⟩ := f1
        have LA : (ldI zs ls.length i)[k]'(by rw [LL]; exact hk) = cntI zs (k : Int) i := by
          have := rng_at (fun p : Nat => cntI zs (p : Int) i) hk
          rw [show (List.range ls.length).map (fun p : Nat => cntI zs (p : Int) i) = ldI zs ls.length i from rfl, List.getD_eq_getElem?_getD, List.getElem?_eq_getElem (by rw [LL]; exact hk)] at this
          exact this
        rw [LA] at q0
        have sm := SM.out (k : Int)
        obtain ⟨hS, hG⟩ := OO.out.set (by rw [LL]) k (cntI zs (k : Int) i + 1)
        rw [← HIT.out k hk rfl] at hS
        have N2 := Lib.hid hS
        have B2 := Lib.hid (BW.out.grown hG BW.out.size (fun q hq => by have := Option.some.inj hq; omega))
        generalize cntI zs (k : Int) i = m at q0 sm N2 B2
        have ew : IntKind.i64.wrap (m + 1) = m + 1 := IntWalk.i64_in _ (by omega)
        clear hin hyr OO BW LA hS hG SM HIT MISS LL
        go_wp2_with (go_at_call 39; refine (C1.out _).mono ?_; rintro e w' ⟨rfl, rfl⟩)
        exact ⟨⟨i + 1, by omega, by go_num, N2, B2⟩, by simp [intOf]; omega⟩
end Go.Proofs.Ytbgogcobkiaejaa
