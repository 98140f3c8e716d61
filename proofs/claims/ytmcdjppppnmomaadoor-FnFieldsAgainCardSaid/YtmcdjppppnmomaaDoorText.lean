/- The contracts of the functions that draw texts. Condition: the lengths that the draws ask for are small. -/
import Derived.Test.YtmcdjppppnmomaaDoorBytes
import Derived.Test.YtmcdjppppnmomaaDoorNew
namespace Go.Proofs.YtmcdjppppnmomaaDoor
open Go.RowKit

def longStr (m : Nat) (b : UInt8) : ByteArray := ⟨(List.replicate m b).toArray⟩
theorem longStr_size (m : Nat) (b : UInt8) : (longStr m b).size = m := by
  show (List.replicate m b).toArray.size = m
  simp

theorem set_replicate (k m : Nat) (b : UInt8) (h : k < m) :
    ((List.replicate k b ++ List.replicate (m - k) 0).map byteV).set k (byteV b) = (List.replicate (k + 1) b ++ List.replicate (m - (k + 1)) 0).map byteV := by
  obtain ⟨r, hr⟩ : ∃ r, m - k = r + 1 := ⟨m - k - 1, by omega⟩
  rw [hr, show m - (k + 1) = r by omega]
  simp only [List.map_append, List.map_replicate]
  rw [List.set_append_right _ _ (by simp)]
  simp only [List.length_replicate, Nat.sub_self, List.replicate_succ, List.set_cons_zero]
  rw [← List.replicate_succ, List.replicate_succ', List.append_assoc]
  rfl

set_option maxHeartbeats 400000 in
theorem long_any (m : Nat) (hm : m ≤ 100000) (b : UInt8) (w : World) :
    Calls Tryd.prog 23 #[.int .i64 (m : Int), .int .u8 (b.toNat : Int)] w fun e w' => e = .returned (.string (longStr m b)) ∧ Below w.heap.size w w' := by
  obtain ⟨i0, hi, hz0, hz1, hz2⟩ := info_parts info_u8
  have hmk : m ≤ maxLen := by simp only [maxLen]; omega
  have hmb : i0.bytes * m ≤ 281474976710656 := by rw [hz2]; omega
  go_enter Tryd.func23, Tryd.ntmps23
  go_wp2_with (refine wpList_make_full _ rfl (.tmp 7) (.tmp 7) 22 (by rfl) w.heap.size 5 i0 (.int .u8 0) 1 Tryd.underlying22 hi hz0 hz1 .i64 .i64 (m : Int) (m : Int) m (by rfl) (by rfl) rfl rfl hmb hmk (Nat.le_refl _) ?_; intro w1 hown hgrow)
  go_loopw [6] (fun i wr => ∃ (k : Nat), k ≤ m ∧ i = .int .i64 k ∧ wr.ownsRow w.heap.size 5 1 (.slice (some ⟨w.heap.size, 0, none⟩) m m) m ((List.replicate k b ++ List.replicate (m - k) 0).map byteV) ∧ Below w.heap.size w wr) (fun i _ => m - (intOf i).toNat)
  case atStart =>
    refine ⟨0, by omega, rfl, ?_, (Below.refl _ _).grown hgrow (Nat.le_refl _) (by simp)⟩
    have e : (madeCells (Value.int IntKind.u8 0).cells (m * 1)).toList = (List.replicate 0 b ++ List.replicate (m - 0) 0).map byteV := by
      simp only [Value.cells, Nat.mul_one, toList_madeCells_one, List.replicate_zero, List.nil_append, Nat.sub_zero, List.map_replicate]
      rfl
    rw [e] at hown
    exact hown
  case round =>
    clear hown hgrow
    obtain ⟨k, hk, rfl, hown, hb⟩ := hrel
    by_cases hlt : k < m
    · have hc := hown.cellAt k (by omega)
      obtain ⟨u, hu⟩ : ∃ u, ((List.replicate k b ++ List.replicate (m - k) 0).map byteV)[k]? = some u := ⟨_, List.getElem?_eq_getElem (by simp; omega)⟩
      rw [hu] at hc
      have hf := hown.frozenAt k
      have hst := hown.stored k (byteV b)
      rw [set_replicate k m b hlt] at hst
      have hst := Lib.hid hst
      clear hu
      go_wp2
      exact ⟨⟨k + 1, by omega, by go_num, hst.out.1, hb.setCell (Nat.le_refl _) _⟩, by simp [intOf]; omega⟩
    · have hke : k = m := by omega
      subst hke
      have hown' : OwnB wr w.heap.size (.slice (some ⟨w.heap.size, 0, none⟩) k k) (List.replicate k b) := by
        unfold OwnB
        simp only [Nat.sub_self, List.replicate_zero, List.append_nil] at hown
        rw [List.length_replicate]
        exact hown
      clear hown
      go_wp2_with (rw [conv_own hown'])
      go_ret
      exact ⟨rfl, hb⟩

theorem St.grown {w0 w w' : World} {a : Option Addr} {n cap b : Nat} {row : Option Nat} (h : St w0 a n cap w b) (hg : w.grownBy w' row) (hne : row ≠ some b) (hr : ∀ k, row = some k → w0.heap.size ≤ k) : St w0 a n cap w' b := by
  obtain ⟨i, x, h0, h1, hc⟩ := h.cur
  exact ⟨h.below.grown hg h.below.size hr, h.own, i, x, h0, h1, (hg.block b h.cur.lt (Ne.symm hne)).trans hc⟩

def StrPost (w0 : World) (a : Option Addr) (n cap : Nat) (w : World) (b : Nat) (P : List UInt8 → Prop) (e : Ending) (w' : World) : Prop :=
  ∃ l : List UInt8, e = .returned (.string ⟨l.toArray⟩) ∧ P l ∧ St w0 a n cap w' b ∧ w.grownBy w' (some b)

/-- What is grown by a row of its own beside the cursor is grown by the cursor alone, seen from before that row was made. -/
theorem grown_own {w wr w1 : World} {b : Nat} {row : Option Nat} (h : w.grownBy wr (some b)) (hg : wr.grownBy w1 row) (hr : ∀ k, row = some k → w.heap.size ≤ k) : w.grownBy w1 (some b) :=
  ⟨hg.os.trans h.os, hg.tape.trans h.tape, hg.output.trans h.output, Nat.le_trans h.size hg.size,
    fun i hi hne => (hg.block i (Nat.lt_of_lt_of_le hi h.size) (fun e => by have := hr i e.symm; omega)).trans (h.block i hi hne)⟩

theorem byteV_of (x : Int) (h0 : 0 ≤ x) (h1 : x < 256) : Value.int .u8 x = byteV (UInt8.ofNat x.toNat) := by
  unfold byteV
  congr 1
  simp [UInt8.toNat_ofNat']
  omega
theorem own_snoc {w2 : World} {base g cap : Nat} {l : List UInt8} {x : Int} (h0 : 0 ≤ x) (h1 : x < 256)
    (h : w2.ownsRow base 5 1 (.slice (some ⟨g, 0, none⟩) (l.length + 1) cap) (l.length + 1) (l.map byteV ++ [.int .u8 x])) :
    OwnB w2 base (.slice (some ⟨g, 0, none⟩) (l.length + 1) cap) (l ++ [UInt8.ofNat x.toNat]) := by
  rw [byteV_of x h0 h1] at h
  unfold OwnB
  simpa using h

theorem textLoop (w0 : World) (a : Option Addr) (n cap : Nat) (z : List Int) (hr : IsRow .u8 w0 a n cap z) (w : World) (b : Nat) (hs : St w0 a n cap w b) (m : Nat) (hm : m ≤ 5000) :
    Calls Tryd.prog 25 #[.pointer (some ⟨b, 0, none⟩), .int .i64 (m : Int)] w (StrPost w0 a n cap w b fun l => l.length = m) := by
  obtain ⟨i0, hi, hz0, hz1, hz2⟩ := info_parts info_u8
  have C := Lib.hid (byte_any w0 a n cap z hr)
  clear hr
  go_enter Tryd.func25, Tryd.ntmps25
  go_wp2
  go_loopw [5, 6] (fun v i wr => ∃ (k : Nat) (l : List UInt8) (vo : Value), vo = v ∧ k ≤ m ∧ i = .int .i64 k ∧ Hid (l.length = k) ∧ OwnB wr w.heap.size vo l ∧ St w0 a n cap wr b ∧ w.grownBy wr (some b)) (fun _ i _ => m - (intOf i).toNat)
  case atStart => exact ⟨0, [], _, rfl, by omega, rfl, rfl, World.ownsRow_lit w #[] 0 (Nat.le_refl _) (by decide) rfl, hs.alloc _, World.grownBy_alloc w _ _⟩
  case round =>
    obtain ⟨k, l, vo, rfl, hk, rfl, hl, hown, hst, hg⟩ := hrel
    by_cases hlt : k < m
    · go_wp2_with fail
      refine (C.out _ _ hst).mono ?_
      rintro e w1 ⟨x, rfl, ⟨hx0, hx1⟩, s1, g1⟩
      have hpos : 0 < 1 := by omega
      have hll := hl.out
      have hmax : l.length + 1 ≤ maxLen := by simp only [maxLen]; omega
      have hbd : (l.length + 1) * 1 ≤ 140737488355328 := by omega
      clear hll
      have hbw : b < w.heap.size := hs.cur.lt
      have hbo : vo.ownBlock ≠ some b := by
        intro e
        have := (hown.lt b e).1
        omega
      have own1 : OwnB w1 w.heap.size vo l := World.ownsRow.kept hown g1 (by cases h : vo.ownBlock with | none => exact .inl rfl | some q => exact .inr (by rw [← h]; exact hbo))
      have hsz1 : w.heap.size ≤ w1.heap.size := Nat.le_trans hg.size g1.size
      go_wp2_with (at_builtin; refine wpList_append_lies _ rfl (.tmp 15) (.tmp 19) 22 rfl w.heap.size 5 i0 (.int .u8 0) 1 1 Tryd.underlying22 hi hz0 hz1 hz2 rfl hpos vo _ _ rfl (own1.alloc _) ⟨w1.heap.size, 0, none⟩ 1 1 [.int .u8 x] rfl rfl (cell_one_new _ _ _) ?_ hpos hmax hbd ?_ (w1.heap.size + 1) ?_ ?_; (simp [Value.oneCell']); (simp; omega); (simp); intro gg cap' w2 hown2 hgrow hat hlt')
      have hbase : ∀ q, vo.ownBlock = some q → w.heap.size ≤ q := fun q hq => (hown.lt q hq).1
      have hw0 : w0.heap.size ≤ w.heap.size := hs.below.size
      exact ⟨⟨k + 1, l ++ [UInt8.ofNat x.toNat], _, rfl, by omega, by go_num, (show (l ++ _).length = k + 1 by rw [List.length_append, hl.out]; rfl), own_snoc hx0 hx1 hown2,
        (s1.alloc _).grown hgrow hbo (fun q hq => by have := hbase q hq; omega), grown_own (grown_trans (grown_trans hg g1) (World.grownBy_alloc w1 _ _)) hgrow hbase⟩, by simp [intOf]; omega⟩
    · have hke : k = m := by omega
      subst hke
      have he := hl.out
      go_wp2_with (rw [conv_own hown])
      go_ret
      exact ⟨l, rfl, he, hst, hg⟩

theorem text_any (w0 : World) (a : Option Addr) (n cap : Nat) (z : List Int) (hr : IsRow .u8 w0 a n cap z) (w : World) (b : Nat) (hs : St w0 a n cap w b) (m : Int) (h0 : 0 ≤ m) (h1 : m ≤ 5000) :
    Calls Tryd.prog 25 #[.pointer (some ⟨b, 0, none⟩), .int .i64 m] w (StrPost w0 a n cap w b fun l => l.length = m.toNat) := by
  obtain ⟨k, rfl⟩ := Int.eq_ofNat_of_zero_le h0
  exact textLoop w0 a n cap z hr w b hs k (by omega)

theorem long_at (m c : Int) (h0 : 0 ≤ m) (h1 : m ≤ 100000) (c0 : 0 ≤ c) (c1 : c < 256) (w : World) :
    Calls Tryd.prog 23 #[.int .i64 m, .int .u8 c] w fun e w' => e = .returned (.string (longStr m.toNat (UInt8.ofNat c.toNat))) ∧ Below w.heap.size w w' := by
  obtain ⟨k, rfl⟩ := Int.eq_ofNat_of_zero_le h0
  have e : c = ((UInt8.ofNat c.toNat).toNat : Int) := by simp [UInt8.toNat_ofNat']; omega
  have h := long_any k (by omega) (UInt8.ofNat c.toNat) w
  rw [← e] at h
  exact h

def TextPost (w : World) (e : Ending) (w' : World) : Prop := ∃ s : ByteArray, e = .returned (.string s) ∧ s.size ≤ 30000 ∧ Below w.heap.size w w'
end Go.Proofs.YtmcdjppppnmomaaDoor
