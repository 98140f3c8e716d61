/- The contracts of impl.hasJoint and impl.limbsFit. Condition: the limbs lie in a row of their own. -/
import Derived.Test.YtblbmppbbhibeaaOkX
import Derived.Test.YtblbmppbbhibeaaOkW
import Derived.Test.YtblbmppbbhibeaaBox
namespace Go.Proofs.Ytblbmppbbhibeaa
set_option linter.unusedVariables false
set_option linter.unusedSimpArgs false
open Go.RowKit

theorem hasJoint_yes {J j : Int} (h : 0 ≤ j ∧ j < J) (A : Option Addr) (n c : Nat) (w : World) :
    Calls Try.prog 67 #[.agg #[.int .i64 J, .slice A n c], .int .i64 j] w fun e w' => e = .returned (.bool true) ∧ w' = w.alloc (.cells #[.int .i64 J, .slice A n c] 26) := by
  obtain ⟨h1, h2⟩ := h
  go_enter Try.func67, Try.ntmps67
  go_wp2
  go_ret
  exact ⟨rfl, rfl⟩
theorem hasJoint_no {J j : Int} (h : ¬ (0 ≤ j ∧ j < J)) (A : Option Addr) (n c : Nat) (w : World) :
    Calls Try.prog 67 #[.agg #[.int .i64 J, .slice A n c], .int .i64 j] w fun e w' => e = .returned (.bool false) ∧ w' = w.alloc (.cells #[.int .i64 J, .slice A n c] 26) := by
  by_cases h1 : 0 ≤ j
  · have h2 : ¬ j < J := fun x => h ⟨h1, x⟩
    go_enter Try.func67, Try.ntmps67
    go_wp2
    go_ret
    exact ⟨rfl, rfl⟩
  · go_enter Try.func67, Try.ntmps67
    go_wp2
    go_ret
    exact ⟨rfl, rfl⟩
theorem hasJoint_any (J j : Int) (A : Option Addr) (n c : Nat) (w : World) :
    Calls Try.prog 67 #[.agg #[.int .i64 J, .slice A n c], .int .i64 j] w fun e w' => e = .returned (.bool (hasB J j)) ∧ w' = w.alloc (.cells #[.int .i64 J, .slice A n c] 26) := by
  by_cases h : 0 ≤ j ∧ j < J
  · rw [hasB_yes h]
    exact hasJoint_yes h A n c w
  · rw [hasB_no h]
    exact hasJoint_no h A n c w

/-- A limb that fits. -/
def fitOne (J : Int) (l : Lb) : Bool := decide ((0 ≤ l.a ∧ l.a ≤ J - 1) ∧ (0 ≤ l.b ∧ l.b ≤ J - 1) ∧ l.a ≠ l.b ∧ (1 ≤ l.n ∧ l.n ≤ 100))
def fits (J : Int) (ls : List Lb) : Bool := ls.all (fitOne J)
theorem fits_iff {J : Int} {ls : List Lb} : fits J ls = true ↔ Fits J ls := by
  unfold fits Fits
  rw [List.all_eq_true]
  exact ⟨fun h l hl => of_decide_eq_true (h l hl), fun h l hl => decide_eq_true (h l hl)⟩
theorem fits_drop {J : Int} {ls : List Lb} {k : Nat} (h : k < ls.length) : fits J (ls.drop k) = (fitOne J ls[k] && fits J (ls.drop (k + 1))) := by
  unfold fits
  rw [List.drop_eq_getElem_cons h, List.all_cons]
theorem fits_bad {J : Int} {ls : List Lb} {k : Nat} (h : k < ls.length) (hf : fits J (ls.drop k) = fits J ls) (hb : fitOne J ls[k] = false) : fits J ls = false := by
  rw [← hf, fits_drop h, hb]
  rfl
theorem fits_good {J : Int} {ls : List Lb} {k : Nat} (h : k < ls.length) (hf : fits J (ls.drop k) = fits J ls) (hb : fitOne J ls[k] = true) : fits J (ls.drop (k + 1)) = fits J ls := by
  rw [← hf, fits_drop h, hb]
  rfl
/-- What limbsFit answers. -/
def fitB (J : Int) (ls : List Lb) : Bool := decide (1 ≤ J ∧ J ≤ 12) && (decide ((ls.length : Int) = J - 1) && fits J ls)
theorem fitB_range {J : Int} {ls : List Lb} (h : ¬ (1 ≤ J ∧ J ≤ 12)) : fitB J ls = false := by simp [fitB, h]
theorem fitB_count {J : Int} {ls : List Lb} (h : ¬ (ls.length : Int) = J - 1) : fitB J ls = false := by simp [fitB, h]
theorem fitB_fits {J : Int} {ls : List Lb} (h1 : 1 ≤ J ∧ J ≤ 12) (h2 : (ls.length : Int) = J - 1) : fitB J ls = fits J ls := by simp [fitB, h1, h2]

theorem fit_bad (J : Int) (v : Value) (ls : List Lb) (base : Nat) (w : World) (hown : OwnL w base v ls) (_ : ls.length ≤ 2000000) (hbad : ¬ (1 ≤ J ∧ J ≤ 12) ∨ ¬ (ls.length : Int) = J - 1) :
    Calls Try.prog 54 #[bodyV J v] w fun e w' => e = .returned (.bool false) ∧ Below w.heap.size w w' := by
  obtain ⟨A, c, e⟩ := hown.slice
  subst e
  clear hown
  unfold bodyV
  by_cases h1 : J < 1
  · go_enter Try.func54, Try.ntmps54
    go_wp2
    go_ret
    exact ⟨rfl, (Below.refl w.heap.size w).alloc (Nat.le_refl _) _⟩
  · by_cases h2 : 12 < J
    · go_enter Try.func54, Try.ntmps54
      go_wp2
      go_ret
      exact ⟨rfl, (Below.refl w.heap.size w).alloc (Nat.le_refl _) _⟩
    · have h3 : ¬ (ls.length : Int) = J - 1 := hbad.resolve_left (fun x => x (by omega))
      have hw : IntKind.i64.wrap (J - 1) = J - 1 := IntWalk.i64_in _ (by omega)
      clear hbad
      go_enter Try.func54, Try.ntmps54
      go_wp2
      go_ret
      exact ⟨rfl, (Below.refl w.heap.size w).alloc (Nat.le_refl _) _⟩

set_option maxRecDepth 100000 in
set_option maxHeartbeats 800000 in
theorem fit_run (J : Int) (v : Value) (ls : List Lb) (base : Nat) (w : World) (hown : OwnL w base v ls) (h1 : 1 ≤ J ∧ J ≤ 12) (h2 : (ls.length : Int) = J - 1) :
    Calls Try.prog 54 #[bodyV J v] w fun e w' => e = .returned (.bool (fits J ls)) ∧ Below w.heap.size w w' := by
  obtain ⟨A, c, e⟩ := hown.slice
  subst e
  have OWN := Lib.hid hown
  clear hown
  unfold bodyV
  have BX := Lib.hid (box_facts (J := J) OWN.out)
  have hw : IntKind.i64.wrap (J - 1) = J - 1 := IntWalk.i64_in _ (by omega)
  have hlen : ls.length ≤ 11 := by omega
  obtain ⟨h1a, h1b⟩ := h1
  have H2 := Lib.hid h2
  go_enter Try.func54, Try.ntmps54
  go_wp2
  clear h2 hw
  go_loopw [25] (fun i wr => ∃ k : Nat, k ≤ ls.length ∧ i = .int .i64 k ∧ Below (w.heap.size + 1) (w.alloc (.cells #[.int .i64 J, .slice A ls.length c] 26)) wr ∧ Hid (fits J (ls.drop k) = fits J ls)) (fun i _ => ls.length - (intOf i).toNat)
  case atStart => exact ⟨0, by omega, rfl, (Below.refl _ _), rfl⟩
  case round =>
    obtain ⟨k, hk, rfl, hbel, hrun⟩ := hrel
    obtain ⟨x0, x1, ol, bw⟩ := BX.out wr hbel
    have hsz := hbel.size
    simp only [World.size_alloc] at hsz
    by_cases hlt : k < ls.length
    · obtain ⟨g, c', e1, _, lg, rg, _⟩ := ol.spot hlt
      simp only [Value.slice.injEq] at e1
      obtain ⟨rfl, hloop, rfl⟩ := e1
      clear hloop
      have r0 : wr.cell? ⟨g, k * 3, none⟩ = some (.int .i64 ls[k].a) := rg 0 _ rfl
      have r1 : wr.cell? ⟨g, k * 3 + 1, none⟩ = some (.int .i64 ls[k].b) := rg 1 _ rfl
      have r2 : wr.cell? ⟨g, k * 3 + 2, none⟩ = some (.int .i64 ls[k].n) := rg 2 _ rfl
      have hk0 : (0 : Int) ≤ (k : Int) := by omega
      have hk1 : (k : Int) < (ls.length : Int) := by omega
      have hkJ : (k : Int) < J - 1 := by have := H2.out; omega
      obtain ⟨y0, z0, t0⟩ := elder x0
      obtain ⟨y1, z1, t1⟩ := elder x1
      have C := Lib.hid (fun j W => hasJoint_any J j (some ⟨g, 0, none⟩) ls.length c W)
      have HB := Lib.hid hbel
      have hb1 : ∀ o, Below w.heap.size w (wr.alloc o) := fun o => bw.alloc bw.size o
      have hb2 : ∀ o o', Below w.heap.size w ((wr.alloc o).alloc o') := fun o o' => (hb1 o).alloc (hb1 o).size o'
      have hb3 : ∀ o o' o'', Below w.heap.size w (((wr.alloc o).alloc o').alloc o'') := fun o o' o'' => (hb2 o o').alloc (hb2 o o').size o''
      have HB1 := Lib.hid hb1
      have HB2 := Lib.hid hb2
      have HB3 := Lib.hid hb3
      clear rg ol hbel bw hb1 hb2 hb3 hk
      have gb := fits_bad (J := J) hlt hrun.out
      have gg := fits_good (J := J) hlt hrun.out
      generalize ls[k] = l at r0 r1 r2 gb gg
      have GB := Lib.hid gb
      have GG := Lib.hid gg
      clear gb gg
      by_cases ha : 0 ≤ l.a ∧ l.a < J
      · have ea := hasB_yes ha
        by_cases hb : 0 ≤ l.b ∧ l.b < J
        · have eb := hasB_yes hb
          by_cases hab : l.a = l.b
          · have hres := GB.out (by unfold fitOne; exact decide_eq_false (fun x => x.2.2.1 hab))
            have HR := Lib.hid hres
            rw [hab] at ea r0
            clear hres ha hb hab
            go_wp2_with (go_at_call 67; refine (C.out _ _).mono ?_; rintro e w' ⟨rfl, rfl⟩)
            go_ret
            exact ⟨by rw [HR.out]; rfl, HB3.out _ _ _⟩
          · have hab' : (l.a == l.b) = false := by simpa using hab
            by_cases hn1 : l.n < 1
            · have hres := GB.out (by unfold fitOne; exact decide_eq_false (fun x => by omega))
              have HR := Lib.hid hres
              clear hres ha hb
              go_wp2_with (go_at_call 67; refine (C.out _ _).mono ?_; rintro e w' ⟨rfl, rfl⟩)
              go_ret
              exact ⟨by rw [HR.out]; rfl, HB3.out _ _ _⟩
            · by_cases hn2 : 100 < l.n
              · have hres := GB.out (by unfold fitOne; exact decide_eq_false (fun x => by omega))
                have HR := Lib.hid hres
                clear hres ha hb
                go_wp2_with (go_at_call 67; refine (C.out _ _).mono ?_; rintro e w' ⟨rfl, rfl⟩)
                go_ret
                exact ⟨by rw [HR.out]; rfl, HB3.out _ _ _⟩
              · have hres := GG.out (by unfold fitOne; exact decide_eq_true (by omega))
                have HR := Lib.hid hres
                clear hres ha hb
                go_wp2_with (go_at_call 67; refine (C.out _ _).mono ?_; rintro e w' ⟨rfl, rfl⟩)
                exact ⟨⟨k + 1, by omega, by go_num, ((HB.out.alloc hsz _).alloc (by simp; omega) _).alloc (by simp; omega) _, HR.out⟩, by simp [intOf]; omega⟩
        · have eb := hasB_no hb
          have hres := GB.out (by unfold fitOne; exact decide_eq_false (fun x => by omega))
          have HR := Lib.hid hres
          clear hres ha hb
          go_wp2_with (go_at_call 67; refine (C.out _ _).mono ?_; rintro e w' ⟨rfl, rfl⟩)
          go_ret
          exact ⟨by rw [HR.out]; rfl, HB3.out _ _ _⟩
      · have ea := hasB_no ha
        have hres := GB.out (by unfold fitOne; exact decide_eq_false (fun x => by omega))
        have HR := Lib.hid hres
        clear hres ha
        go_wp2_with (go_at_call 67; refine (C.out _ _).mono ?_; rintro e w' ⟨rfl, rfl⟩)
        go_ret
        exact ⟨by rw [HR.out]; rfl, HB2.out _ _⟩
    · have hke : k = ls.length := by omega
      subst hke
      have hkJ : J - 1 ≤ (ls.length : Int) := by have := H2.out; omega
      have hres : fits J ls = true := by
        rw [← hrun.out, List.drop_length]
        rfl
      have HR := Lib.hid hres
      clear ol hbel hres
      go_wp2
      go_ret
      exact ⟨by rw [HR.out]; rfl, bw⟩

theorem limbsFit_any (J : Int) (v : Value) (ls : List Lb) (base : Nat) (w : World) (hown : OwnL w base v ls) (hl : ls.length ≤ 2000000) :
    Calls Try.prog 54 #[bodyV J v] w fun e w' => e = .returned (.bool (fitB J ls)) ∧ Below w.heap.size w w' := by
  by_cases h1 : 1 ≤ J ∧ J ≤ 12
  · by_cases h2 : (ls.length : Int) = J - 1
    · rw [fitB_fits h1 h2]
      exact fit_run J v ls base w hown h1 h2
    · rw [fitB_count h2]
      exact fit_bad J v ls base w hown hl (.inr h2)
  · rw [fitB_range h1]
    exact fit_bad J v ls base w hown hl (.inl h1)
end Go.Proofs.Ytblbmppbbhibeaa
