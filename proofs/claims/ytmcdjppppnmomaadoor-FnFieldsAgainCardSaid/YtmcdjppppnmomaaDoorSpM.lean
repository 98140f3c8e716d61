/- The fields of a line, as plain mathematics: what a scan over the first k bytes has found. -/
import Derived.Test.YtmcdjppppnmomaaDoorBytes
import Derived.Lib.Strings
namespace Go.Proofs.YtmcdjppppnmomaaDoor
open Go.RowKit

/-- A slice value that owns the texts fs. -/
def strV (l : List UInt8) : Value := .string ⟨l.toArray⟩
def OwnS (w : World) (base : Nat) (v : Value) (fs : List (List UInt8)) : Prop := w.ownsRow base 9 1 v fs.length (fs.map strV)
theorem OwnS.alloc {w : World} {base : Nat} {v : Value} {fs : List (List UInt8)} (h : OwnS w base v fs) (o : Obj) : OwnS (w.alloc o) base v fs := World.ownsRow.alloc h o
theorem OwnS.lt {w : World} {base : Nat} {v : Value} {fs : List (List UInt8)} (h : OwnS w base v fs) : ∀ k, v.ownBlock = some k → base ≤ k ∧ k < w.heap.size := World.ownsRow.lt h
theorem info_str : (Tryd.prog.info? 9).map (fun i => (i.zero, i.size, i.bytes)) = some (some (.string ⟨#[]⟩), 1, 16) := by kernel_rfl

/-- The bytes from b up to k. -/
def cut (s : List UInt8) (b k : Nat) : List UInt8 := (s.drop b).take (k - b)
/-- After k bytes: the fields that are complete, and where the next one begins. -/
def scan (s : List UInt8) : Nat → List (List UInt8) × Nat
  | 0 => ([], 0)
  | k + 1 => if s.getD k 0 = 32 then (if (scan s k).2 < k then (scan s k).1 ++ [cut s (scan s k).2 k] else (scan s k).1, k + 1) else scan s k
theorem scan_le (s : List UInt8) (k : Nat) : (scan s k).2 ≤ k := by
  induction k with
  | zero => simp [scan]
  | succ k ih =>
    simp only [scan]
    split
    · exact Nat.le_refl _
    · omega
theorem scan_len (s : List UInt8) (k : Nat) : (scan s k).1.length ≤ k := by
  induction k with
  | zero => simp [scan]
  | succ k ih =>
    simp only [scan]
    split
    · split
      · simp
        omega
      · show (scan s k).1.length ≤ k + 1
        omega
    · omega
theorem scan_space {s : List UInt8} {k : Nat} (h : s.getD k 0 = 32) (hb : (scan s k).2 < k) : scan s (k + 1) = ((scan s k).1 ++ [cut s (scan s k).2 k], k + 1) := by simp only [scan]; rw [if_pos h, if_pos hb]
theorem scan_empty {s : List UInt8} {k : Nat} (h : s.getD k 0 = 32) (hb : ¬ (scan s k).2 < k) : scan s (k + 1) = ((scan s k).1, k + 1) := by simp only [scan]; rw [if_pos h, if_neg hb]
theorem scan_other {s : List UInt8} {k : Nat} (h : s.getD k 0 ≠ 32) : scan s (k + 1) = scan s k := by simp only [scan]; rw [if_neg h]

def fieldsOf (s : List UInt8) : List (List UInt8) :=
  if (scan s s.length).2 < s.length then (scan s s.length).1 ++ [cut s (scan s s.length).2 s.length] else (scan s s.length).1
def PrintB (c : UInt8) : Prop := 32 ≤ c.toNat ∧ c.toNat ≤ 126
instance (c : UInt8) : Decidable (PrintB c) := by unfold PrintB; infer_instance
/-- What splitting a line gives. -/
def splitR (s : List UInt8) : List (List UInt8) × Bool :=
  if s.length ≤ 600 ∧ (∀ c ∈ s, PrintB c) ∧ (fieldsOf s).length ≤ 24 then (fieldsOf s, true) else ([], false)
theorem splitR_long (s : List UInt8) (h : 600 < s.length) : splitR s = ([], false) := by unfold splitR; rw [if_neg (by omega)]
theorem splitR_bad (s : List UInt8) (c : UInt8) (hc : c ∈ s) (h : ¬ PrintB c) : splitR s = ([], false) := by unfold splitR; rw [if_neg (fun x => h (x.2.1 c hc))]
theorem splitR_many (s : List UInt8) (h : 24 < (fieldsOf s).length) : splitR s = ([], false) := by unfold splitR; rw [if_neg (by omega)]
theorem splitR_good (s : List UInt8) (h1 : s.length ≤ 600) (h2 : ∀ c ∈ s, PrintB c) (h3 : (fieldsOf s).length ≤ 24) : splitR s = (fieldsOf s, true) := by unfold splitR; rw [if_pos ⟨h1, h2, h3⟩]

theorem ext_cut (s : ByteArray) (b k : Nat) : (s.extract b k) = ⟨(cut s.data.toList b k).toArray⟩ := by
  apply ByteArray.ext
  apply Array.toList_inj.1
  rw [Lib.extract_data]
  rfl
theorem getD_byte (s : ByteArray) (k : Nat) (h : k < s.size) : s.data.toList.getD k 0 = s[k] := by
  rw [List.getD_eq_getElem?_getD, List.getElem?_eq_getElem (by simpa using h)]
  rfl

/-- One text more. -/
theorem ownS_snoc {w1 : World} {base g cap n : Nat} {fs : List (List UInt8)} {x : List UInt8} (hn : n = fs.length + 1)
    (h : w1.ownsRow base 9 1 (.slice (some ⟨g, 0, none⟩) n cap) n (fs.map strV ++ [strV x])) : OwnS w1 base (.slice (some ⟨g, 0, none⟩) n cap) (fs ++ [x]) := by
  unfold OwnS
  simp only [List.map_append, List.length_append, List.map_cons, List.map_nil, List.length_cons, List.length_nil]
  rw [← hn]
  exact h
end Go.Proofs.YtmcdjppppnmomaaDoor
