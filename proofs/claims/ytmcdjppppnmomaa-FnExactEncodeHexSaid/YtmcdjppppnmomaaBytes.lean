/- Bytes in a row of the call's own: the word for it, its conversion to a string, and the plain mathematics of hexadecimal digits. No condition. -/
import Derived.Test.YtmcdjppppnmomaaBase
import Derived.Lib.BufferRead
import Derived.Laws.IdiomStrings
import Derived.Deep.AppendLies
namespace Go.Proofs.Ytmcdjppppnmomaa
open Go.RowKit

theorem info_u8 : (Try.prog.info? 5).map (fun i => (i.zero, i.size, i.bytes)) = some (some (.int .u8 0), 1, 1) := by kernel_rfl

def byteV (b : UInt8) : Value := .int .u8 (b.toNat : Int)

/-- The slice value v owns the bytes l, in a block from 'base' on. -/
def OwnB (w : World) (base : Nat) (v : Value) (l : List UInt8) : Prop := w.ownsRow base 5 1 v l.length (l.map byteV)

theorem conv_own {w : World} {base : Nat} {v : Value} {l : List UInt8} (h : OwnB w base v l) :
    (convert 22 9 v).run Try.prog w = .ok (.string ⟨l.toArray⟩) w := by
  rcases h.2 with ⟨rfl, hn⟩ | ⟨g, cap, cur, rfl, _, hg, hnc, _, hcs, htake⟩
  · have : l = [] := List.eq_nil_of_length_eq_zero hn
    subst this
    exact Lib.run_convert_nil_bytes (P := Try.prog) w 22 9 5 0 Try.underlying22 Try.underlying5 Try.underlying9
  · refine run_convert_bytes_back (P := Try.prog) w 22 9 5 ⟨g, 0, none⟩ cap l Try.underlying22 Try.underlying5 Try.underlying9 ?_
    intro j hj
    have hu : (l.map byteV)[j]? = some (.int .u8 (l[j].toNat : Int)) := by simp [hj, byteV]
    exact h.cells rfl j _ hu

theorem OwnB.drew {w : World} {base : Nat} {v : Value} {l : List UInt8} (h : OwnB w base v l) : OwnB w.drew base v l := h
theorem OwnB.alloc {w : World} {base : Nat} {v : Value} {l : List UInt8} (h : OwnB w base v l) (o : Obj) : OwnB (w.alloc o) base v l := World.ownsRow.alloc h o

theorem OwnB.lt {w : World} {base : Nat} {v : Value} {l : List UInt8} (h : OwnB w base v l) : ∀ k, v.ownBlock = some k → base ≤ k ∧ k < w.heap.size := World.ownsRow.lt h

/-- What an append of new elements, laid into a block of their own first, keeps below B. -/
theorem below_append {B : Nat} {w wr w1 : World} {o : Obj} {e : TypeId} {size n : Nat} {v : Value} {xs : List Value} (hb : Below B w wr) (hB : B ≤ wr.heap.size) (hown : wr.ownsRow B e size v n xs)
    (hg : (wr.alloc o).drew.grownBy w1 v.ownBlock) : Below B w w1 :=
  ((hb.alloc hB o).drew).grown hg (by simp; omega) fun k hk => (hown.lt k hk).1
theorem below_append_plain {B : Nat} {w wr w1 : World} {o : Obj} {e : TypeId} {size n : Nat} {v : Value} {xs : List Value} (hb : Below B w wr) (hB : B ≤ wr.heap.size) (hown : wr.ownsRow B e size v n xs)
    (hg : (wr.alloc o).grownBy w1 v.ownBlock) : Below B w w1 :=
  (hb.alloc hB o).grown hg (by simp; omega) fun k hk => (hown.lt k hk).1

/-- One hexadecimal digit. -/
def figI (x : Int) : Int := if x < 10 then 48 + x else 87 + x
def fig (x : Nat) : UInt8 := UInt8.ofNat (if x < 10 then 48 + x else 87 + x)
theorem figI_eq (x : Nat) (h : x < 16) : figI (x : Int) = ((fig x).toNat : Int) := by
  unfold figI fig
  split <;> split <;> simp [UInt8.toNat_ofNat'] <;> omega
theorem figV (x : Nat) (h : x < 16) : Value.int .u8 (figI (x : Int)) = byteV (fig x) := by rw [figI_eq x h]; rfl
def encL (l : List UInt8) : List UInt8 := l.flatMap fun b => [fig (b.toNat / 16), fig (b.toNat % 16)]
theorem encL_len (l : List UInt8) : (encL l).length = 2 * l.length := by
  induction l with
  | nil => rfl
  | cons b l ih => simp [encL] at ih ⊢; omega
theorem encL_snoc (l : List UInt8) (b : UInt8) : encL (l ++ [b]) = encL l ++ [fig (b.toNat / 16), fig (b.toNat % 16)] := by simp [encL]
theorem take_snoc (s : ByteArray) (k : Nat) (h : k < s.size) : s.data.toList.take (k + 1) = s.data.toList.take k ++ [s[k]] := by
  rw [List.take_succ_eq_append_getElem (by simpa using h)]; rfl
theorem enc_step {s : ByteArray} {k : Nat} (hlt : k < s.size) {w1 : World} {base g cap n : Nat} (hn : n = 2 * k + 2)
    (h : w1.ownsRow base 5 1 (.slice (some ⟨g, 0, none⟩) ((encL (s.data.toList.take k)).length + 2) cap) ((encL (s.data.toList.take k)).length + 2)
      ((encL (s.data.toList.take k)).map byteV ++ [.int .u8 (figI ((s[k].toNat : Int) / 16)), .int .u8 (figI ((s[k].toNat : Int) % 16))])) :
    OwnB w1 base (.slice (some ⟨g, 0, none⟩) n cap) (encL (s.data.toList.take (k + 1))) := by
  have hb := s[k].toNat_lt
  have e1 := figV (s[k].toNat / 16) (by omega)
  have e2 := figV (s[k].toNat % 16) (by omega)
  have hl : (encL (s.data.toList.take k)).length = 2 * k := by rw [encL_len]; simp; omega
  rw [Int.natCast_ediv] at e1
  rw [Int.natCast_emod] at e2
  rw [show ((16 : Nat) : Int) = 16 from rfl] at e1 e2
  rw [e1, e2, hl] at h
  unfold OwnB
  rw [take_snoc s k hlt, encL_snoc, List.map_append, List.length_append, hl, hn]
  exact h
end Go.Proofs.Ytmcdjppppnmomaa
