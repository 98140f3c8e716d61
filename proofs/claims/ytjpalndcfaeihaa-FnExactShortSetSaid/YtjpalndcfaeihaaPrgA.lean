/- The contracts of the library's slices.IndexFunc and ContainsFunc at a row of numbers, over whatever function is asked, and of the program's knowsOneOf, HandsFor and IsShort. Condition: the players and the numbers lie in rows of their own; the function turns nothing. -/
import Derived.Test.YtjpalndcfaeihaaPrfM
import Derived.Test.YtjpalndcfaeihaaPoyA
import Derived.Shelf.Abstract
import Derived.Laws.EntriesVeiled
namespace Go.Proofs.Ytjpalndcfaeihaa
set_option linter.unusedVariables false
set_option linter.unusedSimpArgs false
open Go.RowKit

/-- Does p hold of one of them? -/
def oneZ (zs : List Int) (p : Int → Bool) : Bool := zs.any p
theorem oneZ_yes {zs : List Int} {p : Int → Bool} {k : Nat} (hk : k < zs.length) (h : p zs[k] = true) : oneZ zs p = true := List.any_eq_true.2 ⟨_, List.getElem_mem hk, h⟩
theorem oneZ_no {zs : List Int} {p : Int → Bool} (h : ∀ k (hk : k < zs.length), p zs[k] = false) : oneZ zs p = false := by
  cases c : oneZ zs p with
  | false => rfl
  | true =>
    obtain ⟨z, hz, e⟩ := List.any_eq_true.1 c
    obtain ⟨k, hk, rfl⟩ := List.mem_iff_getElem.1 hz
    rw [h k hk] at e
    cases e

set_option maxHeartbeats 800000 in
/-- slices.IndexFunc: not negative just if the function holds of one. -/
theorem indexF_any (K : Nat) (cap : Value) (p : Int → Bool) (eg : ∀ args w, (callFunc K args).run Try.prog w = .ok (.enter K args) w) (v : Value) (zs : List Int) (base : Nat) (w : World) (h : OwnI w base v zs) (hl : zs.length ≤ 2000000)
    (HC : ∀ x, Calls Try.prog K #[.int .i64 x, cap] w fun e w' => e = .returned (.bool (p x)) ∧ w = w') :
    Calls Try.prog 63 #[v, .func (.func K) #[] #[cap]] w fun e w' => (∃ r : Int, e = .returned (.int .i64 r) ∧ (0 ≤ r ↔ oneZ zs p = true)) ∧ w = w' := by
  obtain ⟨A, c, e1⟩ := h.slice
  subst e1
  have H := Lib.hid h
  have YES := Lib.hid (fun k (hk : k < zs.length) (e : p zs[k] = true) => oneZ_yes hk e)
  have NO := Lib.hid (fun h => oneZ_no (zs := zs) (p := p) h)
  have HD := Lib.hid HC
  clear h HC
  go_enter Try.func63, Try.ntmps63
  go_wp2_with fail
  go_loopw [8] (fun iv wr => w = wr ∧ ∃ r : Nat, r ≤ zs.length ∧ iv = .int .i64 (r : Int) ∧ Hid (∀ j (hj : j < zs.length), j < r → p zs[j] = false)) (fun iv _ => zs.length - (intOf iv).toNat)
  case atStart => exact ⟨rfl, 0, by omega, rfl, Lib.hid (fun j _ h => absurd h (by omega))⟩
  case round =>
    obtain ⟨rfl, r, hr, rfl, HN⟩ := hrel
    by_cases hlt : r < zs.length
    rotate_left
    · obtain rfl : r = zs.length := by omega
      have R := Lib.hid (NO.out (fun k hk => HN.out k hk hk))
      go_wp2_with fail
      go_ret
      exact ⟨⟨-1, rfl, by rw [R.out]; simp⟩, rfl⟩
    obtain ⟨g2, c2, e2, _, _, x0, _⟩ := H.out.spot (k := r) hlt
    simp only [Value.slice.injEq] at e2
    obtain ⟨rfl, -, rfl⟩ := e2
    have hr0 : (0 : Int) ≤ (r : Int) := by omega
    have hr1 : (r : Int) < (zs.length : Int) := by omega
    have Y := Lib.hid (YES.out r hlt)
    have NX := Lib.hid (fun (e : p zs[r] = false) => (show ∀ j (hj : j < zs.length), j < r + 1 → p zs[j] = false from fun j hj h => by
      rcases (by omega : j < r ∨ j = r) with q | rfl
      · exact HN.out j hj q
      · exact e))
    have CC := Lib.hid (HD.out zs[r])
    generalize zs[r] = y at x0 Y NX CC
    cases hp : p y with
    | true =>
      have R := Lib.hid (Y.out hp)
      rw [hp] at CC
      go_wp2_with fail
      refine CC.out.mono ?_
      rintro e w' ⟨rfl, rfl⟩
      go_wp2
      go_ret
      exact ⟨⟨r, rfl, by rw [R.out]; simp⟩, rfl⟩
    | false =>
      have N2 := Lib.hid (NX.out hp)
      rw [hp] at CC
      go_wp2_with fail
      refine CC.out.mono ?_
      rintro e w' ⟨rfl, rfl⟩
      go_wp2
      exact ⟨⟨trivial, r + 1, by omega, by go_num, N2⟩, by simp [intOf]; omega⟩

theorem containsF_any (K : Nat) (cap : Value) (p : Int → Bool) (eg : ∀ args w, (callFunc K args).run Try.prog w = .ok (.enter K args) w) (v : Value) (zs : List Int) (base : Nat) (w : World) (h : OwnI w base v zs) (hl : zs.length ≤ 2000000)
    (HC : ∀ x, Calls Try.prog K #[.int .i64 x, cap] w fun e w' => e = .returned (.bool (p x)) ∧ w = w') :
    Calls Try.prog 55 #[v, .func (.func K) #[] #[cap]] w fun e w' => e = .returned (.bool (oneZ zs p)) ∧ w = w' := by
  have C := Lib.hid (indexF_any K cap p eg v zs base w h hl HC)
  obtain ⟨A, c, e1⟩ := h.slice
  subst e1
  clear h HC
  cases hb : oneZ zs p with
  | true =>
    rw [hb] at C
    go_enter Try.func55, Try.ntmps55
    go_wp2_with fail
    refine C.out.mono ?_
    rintro e w' ⟨⟨r, rfl, hr⟩, rfl⟩
    have hr2 : decide ((0 : Int) ≤ r) = true := decide_eq_true (by simpa using hr)
    clear hr
    go_wp2
    go_ret
    exact ⟨rfl, rfl⟩
  | false =>
    rw [hb] at C
    go_enter Try.func55, Try.ntmps55
    go_wp2_with fail
    refine C.out.mono ?_
    rintro e w' ⟨⟨r, rfl, hr⟩, rfl⟩
    have hr2 : decide ((0 : Int) ≤ r) = false := decide_eq_false (by simpa using hr)
    clear hr
    go_wp2
    go_ret
    exact ⟨rfl, rfl⟩

theorem some_one (l : RPlayer) (ps : List Int) : ∀ i, i ≤ ps.length → someTo l ps i = (ps.take i).any (knowsB l) := by
  intro i
  induction i with
  | zero => intro _; rfl
  | succ i ih =>
    intro hi
    rw [someTo, ih (by omega), List.take_succ_eq_append_getElem (by omega), List.any_append]
    rw [List.getD_eq_getElem?_getD, List.getElem?_eq_getElem (by omega)]
    simp
theorem some_oneZ (l : RPlayer) (ps : List Int) : oneZ ps (knowsB l) = someTo l ps ps.length := by
  rw [some_one l ps _ (Nat.le_refl _), List.take_length]
  rfl

set_option maxHeartbeats 800000 in
theorem oneLit (l : RPlayer) (g : Nat) (A : Option Addr) (c b : Nat) (x : Int) (w : World) (h : OwnI w b (.slice A l.f0.length c) l.f0) (hl : l.f0.length ≤ 2000000) (hc : w.cell? ⟨g, 0, none⟩ = some (.slice A l.f0.length c)) :
    Calls Try.prog 56 #[.int .i64 x, .pointer (some ⟨g, 0, none⟩)] w fun e w' => e = .returned (.bool (knowsB l x)) ∧ w = w' := by
  have C := Lib.hid (contains_any (.slice A l.f0.length c) l.f0 b w h hl x)
  rw [knows_has] at C
  clear h
  generalize l.f0.length = n at C hc
  go_enter Try.func56, Try.ntmps56
  go_wp2_with (go_at_call 54; refine C.out.mono ?_; rintro e w' ⟨rfl, rfl⟩)
  go_ret
  exact ⟨rfl, rfl⟩

set_option maxHeartbeats 800000 in
theorem implOne (l : RPlayer) (u : Value) (b : Nat) (w : World) (h : OwnI w b u l.f0) (hl : l.f0.length ≤ 2000000) (x : Value) (ps : List Int) (b2 : Nat) (h2 : OwnI w b2 x ps) (hp : ps.length ≤ 2000000) :
    Calls Try.prog 41 #[.agg #[u, .int .i64 l.f1], x] w fun e w' => e = .returned (.bool (someTo l ps ps.length)) ∧ Below w.heap.size w w' := by
  have hmf : ∀ (fn : Fn) (first cap : Array Value) (w : World), (Instr.makeFunc fn first cap).run Try.prog w = .ok (.func fn first cap) w := fun _ _ _ _ => rfl
  obtain ⟨A, c, rfl⟩ := h.slice
  obtain ⟨A2, c2, rfl⟩ := h2.slice
  obtain ⟨W2, hW⟩ : ∃ W, W = w.alloc (.cells #[.slice A l.f0.length c, .int .i64 l.f1] 57) := ⟨_, rfl⟩
  have BA := Lib.hid (show Below w.heap.size w W2 by rw [hW]; exact (Below.refl w.heap.size w).alloc (Nat.le_refl _) _)
  have H1 : OwnI W2 b (.slice A l.f0.length c) l.f0 := by rw [hW]; exact h.alloc _
  have H2 : OwnI W2 b2 (.slice A2 ps.length c2) ps := by rw [hW]; exact h2.alloc _
  have V1 : W2.cell? ⟨w.heap.size, 0, none⟩ = some (.slice A l.f0.length c) := by rw [hW]; simp [go_sem]
  have C := Lib.hid (containsF_any 56 (.pointer (some ⟨w.heap.size, 0, none⟩)) (knowsB l) (enters_of Try.func56 (by kernel_rfl) rfl) (.slice A2 ps.length c2) ps b2 W2 H2 hp (fun x => oneLit l w.heap.size A c b x W2 H1 hl V1))
  rw [some_oneZ] at C
  have HW := Lib.hid hW
  clear hW h h2 H1 H2 V1
  generalize l.f0.length = n at HW
  generalize l.f1 = t at HW ⊢
  go_enter Try.func41, Try.ntmps41
  go_wp2_with (go_at_call 55; rw [← HW.out]; refine C.out.mono ?_; rintro e w' ⟨rfl, rfl⟩)
  go_ret
  exact ⟨rfl, BA.out⟩
end Go.Proofs.Ytjpalndcfaeihaa
