/- Decoding of hexadecimal digits, as plain mathematics. -/
import Derived.Test.YtmcdjppppnmomaaDoorBytes
namespace Go.Proofs.YtmcdjppppnmomaaDoor
open Go.RowKit

/-- The value of one digit, or -1. -/
def valI (c : UInt8) : Int := if 48 ≤ c.toNat ∧ c.toNat ≤ 57 then (c.toNat : Int) - 48 else if 97 ≤ c.toNat ∧ c.toNat ≤ 102 then (c.toNat : Int) - 87 else -1
theorem valI_bd (c : UInt8) : -1 ≤ valI c ∧ valI c < 16 := by unfold valI; split <;> (try split) <;> omega

def okT : List UInt8 → Bool
  | [] => true
  | [_] => false
  | a :: b :: r => decide (0 ≤ valI a) && decide (0 ≤ valI b) && okT r
def pairB (a b : UInt8) : UInt8 := UInt8.ofNat (16 * valI a + valI b).toNat
def decT : List UInt8 → List UInt8
  | a :: b :: r => pairB a b :: decT r
  | _ => []

theorem okT_append (l r : List UInt8) (h : l.length % 2 = 0) : okT (l ++ r) = (okT l && okT r) := by
  induction l using okT.induct with
  | case1 => simp [okT]
  | case2 a => simp at h
  | case3 a b l ih =>
    simp only [List.cons_append, okT]
    rw [ih (by simp at h; omega)]
    simp [Bool.and_assoc]
theorem decT_append (l r : List UInt8) (h : l.length % 2 = 0) : decT (l ++ r) = decT l ++ decT r := by
  induction l using okT.induct with
  | case1 => simp [decT]
  | case2 a => simp at h
  | case3 a b l ih =>
    simp only [List.cons_append, decT]
    rw [ih (by simp at h; omega)]
theorem decT_len (l : List UInt8) : 2 * (decT l).length ≤ l.length := by
  induction l using okT.induct with
  | case1 => simp [decT]
  | case2 a => simp [decT]
  | case3 a b l ih => simp only [decT, List.length_cons]; omega

/-- What decoding a text gives. -/
def decR (s : ByteArray) : ByteArray × Bool :=
  if 40000 < s.size ∨ s.size % 2 ≠ 0 ∨ okT s.data.toList = false then (⟨#[]⟩, false) else (⟨(decT s.data.toList).toArray⟩, true)

theorem decR_bad (s : ByteArray) (h : 40000 < s.size ∨ s.size % 2 ≠ 0) : decR s = (⟨#[]⟩, false) := by
  unfold decR
  rw [if_pos (by rcases h with h | h; exact .inl h; exact .inr (.inl h))]

theorem take2 (s : ByteArray) (k : Nat) (h : k + 1 < s.size) : s.data.toList.take (k + 2) = s.data.toList.take k ++ [s[k], s[k + 1]] := by
  rw [take_snoc s (k + 1) h, take_snoc s k (by omega)]
  simp
theorem split2 (s : ByteArray) (k : Nat) (h : k + 1 < s.size) : s.data.toList = s.data.toList.take k ++ (s[k] :: s[k + 1] :: s.data.toList.drop (k + 2)) := by
  conv => lhs; rw [← List.take_append_drop (k + 2) s.data.toList, take2 s k h]
  simp

/-- A pair that is no pair of digits: decoding fails. -/
theorem decR_pair (s : ByteArray) (k : Nat) (hk : k + 1 < s.size) (he : k % 2 = 0) (h : valI s[k] < 0 ∨ valI s[k + 1] < 0) : decR s = (⟨#[]⟩, false) := by
  unfold decR
  rw [if_pos]
  refine .inr (.inr ?_)
  rw [split2 s k hk, okT_append _ _ (by simp; omega)]
  have : okT (s[k] :: s[k + 1] :: s.data.toList.drop (k + 2)) = false := by
    simp only [okT]
    rcases h with h | h
    · simp [show ¬ 0 ≤ valI s[k] by omega]
    · simp [show ¬ 0 ≤ valI s[k + 1] by omega]
  rw [this]
  simp
theorem decR_all (s : ByteArray) (h1 : s.size ≤ 40000) (h2 : s.size % 2 = 0) (h3 : okT (s.data.toList.take s.size) = true) :
    decR s = (⟨(decT (s.data.toList.take s.size)).toArray⟩, true) := by
  have e : s.data.toList.take s.size = s.data.toList := List.take_of_length_le (by simp)
  rw [e] at h3 ⊢
  unfold decR
  rw [if_neg (by rw [h3]; simp; omega)]

theorem okT_step (s : ByteArray) (k : Nat) (hk : k + 1 < s.size) (he : k % 2 = 0) (h : okT (s.data.toList.take k) = true) (ha : ¬ valI s[k] < 0) (hb : ¬ valI s[k + 1] < 0) : okT (s.data.toList.take (k + 2)) = true := by
  rw [take2 s k hk, okT_append _ _ (by simp; omega), h]
  simp [okT]
  omega

/-- The row that one more byte was appended to holds what the next pair's decoding gives. -/
theorem dec_step {s : ByteArray} {k : Nat} (hk : k + 1 < s.size) (he : k % 2 = 0) (ha : ¬ valI s[k] < 0) (hb : ¬ valI s[k + 1] < 0) {w1 : World} {base g cap n : Nat} {x : Int} (hx : x = 16 * valI s[k] + valI s[k + 1])
    (hn : n = (decT (s.data.toList.take k)).length + 1)
    (h : w1.ownsRow base 5 1 (.slice (some ⟨g, 0, none⟩) n cap) n ((decT (s.data.toList.take k)).map byteV ++ [.int .u8 x])) :
    OwnB w1 base (.slice (some ⟨g, 0, none⟩) n cap) (decT (s.data.toList.take (k + 2))) := by
  have b1 := valI_bd s[k]
  have b2 := valI_bd s[k + 1]
  have e1 : Value.int .u8 x = byteV (pairB s[k] s[k + 1]) := by
    unfold byteV pairB
    rw [hx]
    congr 1
    simp [UInt8.toNat_ofNat']
    omega
  rw [e1] at h
  unfold OwnB
  rw [take2 s k hk, decT_append _ _ (by simp; omega)]
  simp only [decT, List.map_append, List.length_append, List.map_cons, List.map_nil, List.length_cons, List.length_nil]
  rw [← hn]
  exact h
end Go.Proofs.YtmcdjppppnmomaaDoor
