/- What a valid body is for the reference side, the walk from a first joint, and the contract of spec.l03Length. Condition: the limbs lie in a row of their own. -/
import Derived.Test.YtblbmppbbhibeaaWalkW
import Derived.Test.YtblbmppbbhibeaaDistM
namespace Go.Proofs.Ytblbmppbbhibeaa
set_option linter.unusedVariables false
set_option linter.unusedSimpArgs false
open Go.RowKit

theorem ok_parts' {m : Nat} {ls : List Lb} (h : bodyOk m ls = true) : Fits m ls ∧ ls.length + 1 = m ∧ m ≤ 12 ∧ (joinRun m ls (apart m)).isSome = true := by
  obtain ⟨h1, h2, P, hP⟩ := bodyOk_true h
  rw [Int.toNat_natCast] at hP
  exact ⟨ok_fits h, by omega, by omega, by rw [hP]; rfl⟩
theorem joints_yes {m i j : Nat} {ls : List Lb} (h : bodyOk m ls = true) (hi : i < m) (hj : j < m) : joints m i j ls = true := by
  unfold joints
  rw [h, inB_yes (by omega), inB_yes (by omega)]
  rfl
theorem joints_of {J i j : Int} {ls : List Lb} (h : joints J i j ls = true) : bodyOk J ls = true ∧ ∃ m p q : Nat, J = m ∧ i = p ∧ j = q ∧ p < m ∧ q < m := by
  unfold joints at h
  simp only [Bool.and_eq_true, inB, decide_eq_true_eq] at h
  have := ok_len h.1
  obtain ⟨m, hm⟩ := Int.eq_ofNat_of_zero_le (show 0 ≤ J by omega)
  obtain ⟨p, hp⟩ := Int.eq_ofNat_of_zero_le h.2.1.1
  obtain ⟨q, hq⟩ := Int.eq_ofNat_of_zero_le h.2.2.1
  exact ⟨h.1, m, p, q, hm, hp, hq, by omega, by omega⟩

/-- The walk from a first joint finds the one way. -/
theorem walk_first (m : Nat) (v : Value) (ls : List Lb) (base : Nat) (w : World) (hown : OwnL w base v ls) (hok : bodyOk m ls = true) {i j : Nat} (hi : i < m) (hj : j < m) {es : List Nat} (hw : isWay ls i es j) (hn : noTurn es) :
    Calls Try.prog 70 #[bodyV (m : Int) v, .int .i64 (i : Int), .int .i64 (j : Int), .int .i64 (-1)] w (IntsPost w (verts ls i es)) := by
  obtain ⟨hf, hl, hm, hr⟩ := ok_parts' hok
  refine (walk_any m v ls base hf hl hm hr j hj ls.length i none (-1) w hown hi (.inl ⟨rfl, rfl⟩) ⟨i, [], rfl, trivial, rfl, by simp⟩).mono fun e w' h => ?_
  rcases h with ⟨es', hg, h⟩ | ⟨hno, _⟩
  · rw [way_one hf hl hr hw hn hg.1 (noTurn_right hg.2)]
    exact h
  · exact absurd ⟨hw, hn⟩ (hno es)

set_option maxRecDepth 100000 in
set_option maxHeartbeats 1600000 in
theorem length_any (m : Nat) (v : Value) (ls : List Lb) (base : Nat) (w : World) (hown : OwnL w base v ls) (hok : bodyOk m ls = true) {t x y : Nat} (ht : t < ls.length) (hx : touches (limbAt ls t) x) (hy : other (limbAt ls t) x = y) :
    Calls Try.prog 71 #[bodyV (m : Int) v, .int .i64 (x : Int), .int .i64 (y : Int)] w fun e w' => e = .returned (.int .i64 (limbAt ls t).n) ∧ Below w.heap.size w w' := by
  obtain ⟨hf, hl, hm, hr⟩ := ok_parts' hok
  obtain ⟨A, c, e⟩ := hown.slice
  subst e
  have OWN := Lib.hid hown
  have BX := Lib.hid (box_facts (J := (m : Int)) hown)
  have HF := Lib.hid hf
  have hll : ls.length ≤ 11 := by omega
  have ONE := Lib.hid (fun k hk (a : touches (limbAt ls k) x) (b : other (limbAt ls k) x = y) => limb_one hf hl hr hk ht a hx (b.trans hy.symm))
  have HT := Lib.hid (And.intro hx hy)
  clear hown hf hl hr hok hx hy
  unfold bodyV
  go_enter Try.func71, Try.ntmps71
  go_wp2
  go_loopw [7] (fun iv wr => ∃ k : Nat, k ≤ t ∧ iv = .int .i64 (k : Int) ∧ Below (w.heap.size + 1) (w.alloc (.cells #[.int .i64 (m : Int), .slice A ls.length c] 26)) wr) (fun iv _ => ls.length - (intOf iv).toNat)
  case atStart => exact ⟨0, by omega, rfl, Below.refl _ _⟩
  case round =>
    obtain ⟨k, hk, rfl, hbel⟩ := hrel
    have KW := Lib.hid (BX.out wr hbel)
    have HB := Lib.hid hbel
    have hsz := hbel.size
    simp only [World.size_alloc] at hsz
    obtain ⟨x0, x1, -, -⟩ := KW.out
    clear hbel
    have hlt : k < ls.length := by omega
    obtain ⟨g, c', e1, _, lg, rg, _⟩ := KW.out.2.2.1.spot hlt
    simp only [Value.slice.injEq] at e1
    obtain ⟨rfl, hloop, rfl⟩ := e1
    clear hloop
    obtain ⟨p, q, hp, hq, hpm, hqm, hpq, -⟩ := fits_at HF.out hlt
    have r0 : wr.cell? ⟨g, k * 3, none⟩ = some (.int .i64 (p : Int)) := by rw [← hp, limbAt_lt hlt]; exact rg 0 _ rfl
    have r1 : wr.cell? ⟨g, k * 3 + 1, none⟩ = some (.int .i64 (q : Int)) := by rw [← hq, limbAt_lt hlt]; exact rg 1 _ rfl
    have r2 : wr.cell? ⟨g, k * 3 + 2, none⟩ = some (.int .i64 (limbAt ls k).n) := by rw [limbAt_lt hlt]; exact rg 2 _ rfl
    have hk0 : (0 : Int) ≤ (k : Int) := by omega
    have hk1 : (k : Int) < (ls.length : Int) := by omega
    have T : touches (limbAt ls k) x ↔ p = x ∨ q = x := by unfold touches; rw [hp, hq]; omega
    have O : other (limbAt ls k) x = if p = x then q else p := by
      unfold other
      rw [hp, hq, Int.toNat_natCast, Int.toNat_natCast]
      by_cases e : p = x
      · rw [if_pos e, if_pos (by omega)]
      · rw [if_neg e, if_neg (by omega)]
    have HTO := Lib.hid (And.intro T O)
    clear rg T O
    by_cases h1 : p = x ∧ q = y
    · have hkt : k = t := ONE.out k hlt (HTO.out.1.2 (.inl h1.1)) (by rw [HTO.out.2, if_pos h1.1]; exact h1.2)
      have HN := Lib.hid (show (limbAt ls k).n = (limbAt ls t).n by rw [hkt])
      generalize (limbAt ls k).n = z at r2 HN
      obtain ⟨rfl, rfl⟩ := h1
      clear hkt
      go_wp2
      go_ret
      exact ⟨ret_int HN.out, KW.out.2.2.2.alloc KW.out.2.2.2.size _⟩
    · by_cases h2 : p = y ∧ q = x
      · have hkt : k = t := ONE.out k hlt (HTO.out.1.2 (.inr h2.2)) (by rw [HTO.out.2, if_neg (by omega)]; exact h2.1)
        have HN := Lib.hid (show (limbAt ls k).n = (limbAt ls t).n by rw [hkt])
        generalize (limbAt ls k).n = z at r2 HN
        obtain ⟨rfl, rfl⟩ := h2
        have hpqb : ((p : Int) == (q : Int)) = false := by simp; omega
        clear hkt h1
        go_wp2
        go_ret
        exact ⟨ret_int HN.out, KW.out.2.2.2.alloc KW.out.2.2.2.size _⟩
      · have hkt : k ≠ t := fun e => by
          subst e
          obtain ⟨a, b⟩ := HT.out
          rw [HTO.out.2] at b
          by_cases e : p = x
          · rw [if_pos e] at b
            exact h1 ⟨e, b⟩
          · rw [if_neg e] at b
            rcases HTO.out.1.1 a with a | a
            · exact e a
            · exact h2 ⟨b, a⟩
        have fin : Below (w.heap.size + 1) (w.alloc (.cells #[.int .i64 (m : Int), .slice (some ⟨g, 0, none⟩) ls.length c] 26)) (wr.alloc (.cells #[.int .i64 (p : Int), .int .i64 (q : Int), .int .i64 (limbAt ls k).n] 57)) := HB.out.alloc hsz _
        have FIN := Lib.hid fin
        clear fin
        generalize (limbAt ls k).n = z at r2 FIN
        by_cases a1 : p = x
        · have b1 : ((q : Int) == (y : Int)) = false := by simp; omega
          by_cases a2 : p = y
          · have b2 : ((q : Int) == (x : Int)) = false := by simp; omega
            subst a1 a2
            clear h1 h2
            go_wp2
            exact ⟨⟨k + 1, by omega, by go_num, FIN.out⟩, by simp [intOf]; omega⟩
          · have b2 : ((p : Int) == (y : Int)) = false := by simp; omega
            subst a1
            clear h1 h2 a2
            go_wp2
            exact ⟨⟨k + 1, by omega, by go_num, FIN.out⟩, by simp [intOf]; omega⟩
        · have b1 : ((p : Int) == (x : Int)) = false := by simp; omega
          by_cases a2 : p = y
          · have b2 : ((q : Int) == (x : Int)) = false := by simp; omega
            subst a2
            clear h1 h2 a1
            go_wp2
            exact ⟨⟨k + 1, by omega, by go_num, FIN.out⟩, by simp [intOf]; omega⟩
          · have b2 : ((p : Int) == (y : Int)) = false := by simp; omega
            clear h1 h2 a1 a2
            go_wp2
            exact ⟨⟨k + 1, by omega, by go_num, FIN.out⟩, by simp [intOf]; omega⟩
end Go.Proofs.Ytblbmppbbhibeaa
