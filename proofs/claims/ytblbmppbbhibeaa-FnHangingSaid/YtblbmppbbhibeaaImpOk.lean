/- The contract of impl.BodyOk: it answers as the model does. Condition: the limbs lie in a row of their own. -/
import Derived.Test.YtblbmppbbhibeaaLinkW
import Derived.Test.YtblbmppbbhibeaaReachW
import Derived.Deep.RegionWith
import Derived.Deep.DrawnRows
namespace Go.Proofs.Ytblbmppbbhibeaa
set_option linter.unusedVariables false
set_option linter.unusedSimpArgs false
open Go.RowKit
attribute [local go_sem ↓] Go.wp_at_zero Go.wp_at_succ

theorem fitB_ok {J : Int} {ls : List Lb} (h : fitB J ls = false) : bodyOk J ls = false := by
  cases hb : bodyOk J ls with
  | false => rfl
  | true =>
    obtain ⟨h1, h2, P, hP⟩ := bodyOk_true hb
    rw [fitB_fits h1 h2, fits_iff.2 (run_fits hP)] at h
    cases h

/-- What is left of the cells of a body's box. -/
theorem link_zero {w' : World} {m g : Nat} {pb : Nat → Nat} (hm : 0 < m) (h : OwnP w' g (.slice (some ⟨g, 0, none⟩) m m) ((List.range m).map pb)) : w'.cell? ⟨g, 0, none⟩ = some (.pointer (some ⟨pb 0, 0, none⟩)) := by
  obtain ⟨_, _, e, _, _, z⟩ := h.spot (k := 0) (by simpa using hm)
  simp only [Value.slice.injEq, Option.some.injEq, Addr.mk.injEq] at e
  obtain ⟨⟨rfl, _⟩, _⟩ := e
  simpa using z

set_option maxRecDepth 100000 in
set_option maxHeartbeats 800000 in
theorem implOk_fit (m : Nat) (v : Value) (ls : List Lb) (base : Nat) (w : World) (hown : OwnL w base v ls) (hl : ls.length + 1 = m) (hm : 1 ≤ m ∧ m ≤ 12) (hf : Fits m ls) :
    Calls Try.prog 37 #[bodyV (m : Int) v] w fun e w' => e = .returned (.bool (joinRun m ls (apart m)).isSome) ∧ Below w.heap.size w w' := by
  obtain ⟨A, c, e⟩ := hown.slice
  subst e
  have OWN := Lib.hid hown
  have hfb : fitB m ls = true := by rw [fitB_fits (by omega) (by omega)]; exact fits_iff.2 hf
  have C1 := Lib.hid (fun W h => hfb ▸ limbsFit_any m (.slice A ls.length c) ls base W h (by omega))
  have C2 := Lib.hid (fun W h => link_any m (.slice A ls.length c) ls base W h hf hl hm.2)
  have HF := Lib.hid hf
  have HL := Lib.hid hl
  have RA := Lib.hid (fun n R' => reached_all (n := n) (R' := R') hf hl)
  clear hown hf hfb hl
  unfold bodyV
  unfold bodyV at C1 C2
  go_enter Try.func37, Try.ntmps37
  go_wp2_with fail
  refine (C1.out _ (OWN.out.alloc _)).mono ?_
  rintro e w1 ⟨rfl, b1⟩
  have x1 := (boxAt_new w m (.slice A ls.length c)).below b1
  have o1 := Lib.hid ((OWN.out.alloc _).below b1)
  have lt1 := x1.lt
  have B1 : Below w.heap.size w w1 := ((Below.refl _ _).alloc (Nat.le_refl _) _).trans (b1.mono (by simp))
  have X1 := Lib.hid x1
  obtain ⟨x10, x11⟩ := x1
  have BB := Lib.hid B1
  have hm1 : 0 < m := by omega
  have hm2 : (0 : Int) < (m : Int) := by omega
  clear b1 B1
  go_wp2_with fail
  go_region_with (first | (go_at_call 56; refine (C2.out _ ?_).mono ?_; (exact o1.out); rintro e w2 ⟨g, bs, pb, vl, vb, rfl, hg, hgb, hsz2, net2, row2, b2⟩; have hwb : w.heap.size < bs := (by simp only [World.size_drew] at hg; omega); have X2 := Lib.hid (BoxAt.below (by exact X1.out) b2); have z2 := link_zero hm.1 row2; obtain ⟨x20, x21⟩ := X2.out; have NET2 := Lib.hid net2; have B2 := Lib.hid b2; clear net2 row2 b2) | (go_at_call 55; refine (reach_any bs m pb vl vb _ _ (by omega) (fun x _ y hy => nbrs_lt HF.out (Nat.le_refl _) hy) (fun x _ => Nat.le_trans (nbrs_len _ _ _) (by have := HL.out; omega)) m _ 0 _ (by omega) (by exact NET2.out) hm.1).mono ?_; rintro e w3 ⟨n, R', rfl, net3, hw3, b3⟩; have X3 := Lib.hid (show BoxAt _ _ _ _ from ⟨(b3.cell hwb).trans X2.out.1, (b3.cell hwb).trans X2.out.2⟩); obtain ⟨x30, x31⟩ := X3.out))
  all_goals
    have hres := RA.out n R' hw3
    have hB := (BB.out.drew.trans (B2.out.mono (by simp only [World.size_drew]; omega))).trans (b3.mono (by omega))
    have HRES := Lib.hid hres
    have HB := Lib.hid hB
    clear hres hB net3 hw3 b3
    go_wp2
    go_ret
    exact ⟨by rw [← HRES.out]; rfl, HB.out⟩

theorem implOk (J : Int) (v : Value) (ls : List Lb) (base : Nat) (w : World) (hown : OwnL w base v ls) (hl : ls.length ≤ 2000000) :
    Calls Try.prog 37 #[bodyV J v] w fun e w' => e = .returned (.bool (bodyOk J ls)) ∧ Below w.heap.size w w' := by
  cases hf : fitB J ls with
  | true =>
    by_cases h1 : 1 ≤ J ∧ J ≤ 12
    · by_cases h2 : (ls.length : Int) = J - 1
      · rw [fitB_fits h1 h2] at hf
        rw [bodyOk_run h1 h2]
        obtain ⟨m, rfl⟩ := Int.eq_ofNat_of_zero_le (show 0 ≤ J by omega)
        exact implOk_fit m v ls base w hown (by omega) (by omega) (fits_iff.1 hf)
      · rw [fitB_count h2] at hf
        cases hf
    · rw [fitB_range h1] at hf
      cases hf
  | false =>
    rw [fitB_ok hf]
    obtain ⟨A, c, e⟩ := hown.slice
    subst e
    have OWN := Lib.hid hown
    have C1 := Lib.hid (fun W h => hf ▸ limbsFit_any J (.slice A ls.length c) ls base W h hl)
    clear hown hf
    unfold bodyV
    unfold bodyV at C1
    go_enter Try.func37, Try.ntmps37
    go_wp2_with fail
    refine (C1.out _ (OWN.out.alloc _)).mono ?_
    rintro e w1 ⟨rfl, b1⟩
    have B1 : Below w.heap.size w w1 := ((Below.refl _ _).alloc (Nat.le_refl _) _).trans (b1.mono (by simp))
    go_wp2
    go_ret
    exact ⟨rfl, B1⟩
end Go.Proofs.Ytblbmppbbhibeaa
