/- Limbs as the walks see them: their cells, a row of limbs that a call owns, and the contract of the function that copies one limb. No condition. -/
import Derived.Test.YtblbmppbbhibeaaThree
namespace Go.Proofs.Ytblbmppbbhibeaa
set_option linter.unusedVariables false
set_option linter.unusedSimpArgs false
open Go.RowKit

/-- A slice value that owns the limbs ls. -/
def OwnL (w : World) (base : Nat) (v : Value) (ls : List Lb) : Prop := w.ownsRow base 57 3 v ls.length (flatL ls)
section
variable {w w' : World} {base : Nat} {v : Value} {ls : List Lb}
theorem OwnL.alloc (h : OwnL w base v ls) (o : Obj) : OwnL (w.alloc o) base v ls := World.ownsRow.alloc h o
theorem OwnL.lt (h : OwnL w base v ls) : ∀ k, v.ownBlock = some k → base ≤ k ∧ k < w.heap.size := World.ownsRow.lt h
theorem OwnL.kept {row : Option Nat} (h : OwnL w base v ls) (hg : w.grownBy w' row) (hne : v.ownBlock = none ∨ v.ownBlock ≠ row) : OwnL w' base v ls := World.ownsRow.kept h hg hne
theorem OwnL.slice (h : OwnL w base v ls) : ∃ A c, v = .slice A ls.length c := by
  rcases h.2 with ⟨rfl, hn⟩ | ⟨g, cap, _, rfl, _⟩
  · exact ⟨none, 0, by rw [hn]⟩
  · exact ⟨_, _, rfl⟩
/-- Where limb k lies. -/
theorem OwnL.spot (h : OwnL w base v ls) {k : Nat} (hk : k < ls.length) :
    ∃ g c, v = .slice (some ⟨g, 0, none⟩) ls.length c ∧ base ≤ g ∧ g < w.heap.size ∧ w.rangeAt g (k * 3) ls[k].cells ∧ w.there g (k * 3) 3 := by
  rcases h.2 with ⟨_, hn⟩ | ⟨g, cap, cur, hv, hb, hg, _⟩
  · omega
  · subst hv
    have hat : ∀ j, j < 3 → w.cell? ⟨g, k * 3 + j, none⟩ = ls[k].cells[j]? := fun j hj => by
      rw [World.ownsRow.cellAt h _ (by omega), flatL_at ls k j hj hk]
    refine ⟨g, cap, rfl, hb, (Array.getElem?_eq_some_iff.1 hg).1, fun j x hx => ?_, fun j hj => ⟨?_, World.ownsRow.frozenAt h _⟩⟩
    · have hj : j < 3 := (List.getElem?_eq_some_iff.1 hx).1
      rw [hat j hj, hx]
    · rw [hat j hj]
      rcases (by omega : j = 0 ∨ j = 1 ∨ j = 2) with rfl | rfl | rfl <;> rfl
theorem OwnL.there {g c n : Nat} (h : OwnL w base (.slice (some ⟨g, 0, none⟩) n c) ls) {k : Nat} (hk : k < ls.length) : w.there g (k * 3) 3 := by
  obtain ⟨g', c', e, _, _, _, t⟩ := h.spot hk
  simp only [Value.slice.injEq, Option.some.injEq, Addr.mk.injEq] at e
  obtain ⟨⟨rfl, _⟩, _⟩ := e
  exact t
theorem OwnL.set {g c n : Nat} (h : OwnL w base (.slice (some ⟨g, 0, none⟩) n c) ls) (hn : n = ls.length) (k : Nat) (l : Lb) :
    OwnL (w.setCells g (k * 3) l.cells) base (.slice (some ⟨g, 0, none⟩) n c) (ls.set k l) ∧ w.grownBy (w.setCells g (k * 3) l.cells) (some g) := by
  subst hn
  unfold OwnL at *
  obtain ⟨h1, g1⟩ := World.ownsRow.stored h (k * 3) (.int .i64 l.a)
  obtain ⟨h2, g2⟩ := World.ownsRow.stored h1 (k * 3 + 1) (.int .i64 l.b)
  obtain ⟨h3, g3⟩ := World.ownsRow.stored h2 (k * 3 + 2) (.int .i64 l.n)
  rw [flatL_set, List.length_set]
  have trans : ∀ {a b c : World} {row : Option Nat}, a.grownBy b row → b.grownBy c row → a.grownBy c row := fun h k => ⟨k.os.trans h.os, k.tape.trans h.tape, k.output.trans h.output, Nat.le_trans h.size k.size, fun i hi hne => (k.block i (Nat.lt_of_lt_of_le hi h.size) hne).trans (h.block i hi hne)⟩
  exact ⟨h3, trans (trans g1 g2) g3⟩
end

theorem toLimb_walk (a b n : Int) (w : World) :
    Calls Try.prog 58 #[.agg #[.int .i64 a, .int .i64 b, .int .i64 n]] w fun e w' => e = .returned (.agg #[.int .i64 a, .int .i64 b, .int .i64 n]) ∧ Below w.heap.size w w' := by
  go_enter Try.func58, Try.ntmps58
  go_wp2
  go_returns
  exact ⟨rfl, ((((Below.refl w.heap.size w).alloc (Nat.le_refl _) _).alloc (by simp) _).alloc (by simp; omega) _)⟩

theorem info_limb : (Try.prog.info? 57).map (fun i => (i.zero, i.size, i.bytes)) = some (some Lb.zero.val, 3, 24) := by kernel_rfl
theorem size_limb : (Try.prog.info? 57).map (·.size) = some 3 := by kernel_rfl
theorem size_limbA : (Try.prog.info? 81).map (·.size) = some 3 := by kernel_rfl

set_option maxHeartbeats 400000 in
theorem toLimbS_walk (a : Option Addr) (cap : Nat) (ls : List Lb) (w : World) (ha : ArgL w a ls) (hl : ls.length ≤ 1048576) :
    Calls Try.prog 44 #[.slice a ls.length cap] w fun e w' => ∃ v, e = .returned v ∧ OwnL w' w.heap.size v ls ∧ Below w.heap.size w w' := by
  obtain ⟨i, hi, hz, hs, hb⟩ := info_parts info_limb
  have HA := Lib.hid ha
  clear ha
  go_enter Try.func44, Try.ntmps44
  go_wp2_with (refine wpList_make_full _ rfl _ _ 24 rfl w.heap.size 57 i Lb.zero.val 3 Try.underlying24 hi hz hs .i64 .i64 _ _ ls.length rfl rfl rfl rfl (by rw [hb]; omega) (by simp only [maxLen]; omega) (by simp) ?_; intro w1 own1 grown1)
  have own0 : OwnL w1 w.heap.size (.slice (some ⟨w.heap.size, 0, none⟩) ls.length ls.length) (ls.take 0 ++ List.replicate (ls.length - 0) Lb.zero) := by
    unfold OwnL
    simpa [made_zero] using own1
  have b1 : Below w.heap.size w w1 := below_of_grown grown1
  clear own1 grown1
  go_loopw [4] (fun i wr => ∃ k : Nat, k ≤ ls.length ∧ i = .int .i64 k ∧ OwnL wr w.heap.size (.slice (some ⟨w.heap.size, 0, none⟩) ls.length ls.length) (ls.take k ++ List.replicate (ls.length - k) Lb.zero) ∧ Below w.heap.size w wr) (fun i _ => ls.length - (intOf i).toNat)
  case atStart => exact ⟨0, by omega, rfl, own0, b1⟩
  case round =>
    obtain ⟨k, hk, rfl, hown, hbel⟩ := hrel
    by_cases hlt : k < ls.length
    · have hk0 : (0 : Int) ≤ (k : Int) := by omega
      have hk1 : (k : Int) < (ls.length : Int) := by omega
      obtain ⟨x, rfl, hx⟩ : ∃ x, a = some x ∧ ∀ k (h : k < ls.length) j v, ls[k].cells[j]? = some v → w.cell? (x.add (k * 3 + j)) = some v := by
        rcases HA.out with ⟨_, h0⟩ | h1
        · rw [h0] at hlt
          simp at hlt
        · exact h1
      obtain ⟨c0, c1, c2⟩ := argL_cells hx hlt
      have c0 := (hbel.cell (World.block_lt_of_cell? w _ c0)).trans c0
      have c1 := (hbel.cell (World.block_lt_of_cell? w _ c1)).trans c1
      have c2 := (hbel.cell (World.block_lt_of_cell? w _ c2)).trans c2
      have hlen : (ls.take k ++ List.replicate (ls.length - k) Lb.zero).length = ls.length := by simp; omega
      have OWN := Lib.hid hown
      have hbs := hbel.size
      clear hown
      go_wp2_with fail
      refine (toLimb_walk _ _ _ _).mono ?_
      rintro e w2 ⟨rfl, b2⟩
      have own2 := OWN.out.kept (grown_of_below b2 none) (.inr (by simp [Value.ownBlock]))
      obtain ⟨⟨x0, t0⟩, ⟨x1, t1⟩, ⟨x2, t2⟩, f0, f1, f2⟩ := (own2.there (k := k) (by rw [hlen]; exact hlt)).three
      have st := own2.set hlen.symm k ls[k]
      rw [copied_set ls k hlt] at st
      have ST := Lib.hid st
      clear own2 st OWN hlen
      go_wp2
      exact ⟨⟨k + 1, by omega, by go_num, ST.out.1, (hbel.trans (b2.mono hbs)).grown ST.out.2 (by have := b2.size; omega) (by simp)⟩, by simp [intOf]; omega⟩
    · have hke : k = ls.length := by omega
      subst hke
      have hfin : OwnL wr w.heap.size (.slice (some ⟨w.heap.size, 0, none⟩) ls.length ls.length) ls := by simpa using hown
      go_wp2
      go_ret
      exact ⟨_, rfl, hfin, hbel⟩
end Go.Proofs.Ytblbmppbbhibeaa
