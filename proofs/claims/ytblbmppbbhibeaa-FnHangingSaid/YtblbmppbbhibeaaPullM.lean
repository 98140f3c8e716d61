/- Pulls, poses and hanging as plain mathematics: what the functions of the chapter answer. -/
import Derived.Test.YtblbmppbbhibeaaDistM
import Derived.Test.YtblbmppbbhibeaaOkX
namespace Go.Proofs.Ytblbmppbbhibeaa
set_option linter.unusedVariables false
set_option linter.unusedSimpArgs false

def inRange (lo hi z : Int) : Bool := decide (lo ≤ z ∧ z ≤ hi)
def pulled (z : Int) : Bool := decide (0 ≤ z)
/-- What PullsOk answers. -/
def pullsOk (J : Int) (ls : List Lb) (zs : List Int) : Bool := bodyOk J ls && (decide ((zs.length : Int) = J) && (zs.all (inRange (-1) 500) && zs.any pulled))
/-- The heights of both ends of a limb differ by at most its length. -/
def limbHolds (hs : List Int) (l : Lb) : Bool := inRange (-l.n) l.n (hs.getD l.a.toNat 0 - hs.getD l.b.toNat 0)
/-- What PoseOk answers. -/
def poseOk (J : Int) (ls : List Lb) (hs : List Int) : Bool := bodyOk J ls && (decide ((hs.length : Int) = J) && (hs.all (inRange (-2000) 2000) && ls.all (limbHolds hs)))
/-- The greatest of the first k pulls' heights at joint j. -/
def hangTo (m : Nat) (ls : List Lb) (zs : List Int) (j : Nat) : Nat → Int
  | 0 => -2000
  | k + 1 => if zs.getD k 0 < 0 then hangTo m ls zs j k else max (hangTo m ls zs j k) (zs.getD k 0 - dist m ls k j)
def hang (m : Nat) (ls : List Lb) (zs : List Int) (j : Nat) : Int := hangTo m ls zs j m
/-- What HangPose answers where the pulls are valid. -/
def hangs (m : Nat) (ls : List Lb) (zs : List Int) : List Int := (List.range m).map (hang m ls zs)
def hangPose (J : Int) (ls : List Lb) (zs : List Int) : List Int := if pullsOk J ls zs = true then hangs J.toNat ls zs else []
def slackB (zs hs : List Int) (j : Nat) : Bool := decide (0 ≤ zs.getD j 0 ∧ zs.getD j 0 < hs.getD j 0)
def slackTo (zs hs : List Int) : Nat → List Int
  | 0 => []
  | k + 1 => slackTo zs hs k ++ if slackB zs hs k = true then [(k : Int)] else []
/-- What SlackStrings answers. -/
def slacks (J : Int) (ls : List Lb) (zs : List Int) : List Int := slackTo zs (hangPose J ls zs) (hangPose J ls zs).length
def heldAt (zs hs : List Int) (j : Nat) : Bool := !(decide (hs.getD j 0 < zs.getD j 0) && pulled (zs.getD j 0))
/-- What IsHeld answers. -/
def isHeld (J : Int) (ls : List Lb) (zs hs : List Int) : Bool := pullsOk J ls zs && (poseOk J ls hs && (List.range J.toNat).all (heldAt zs hs))
def leastTo (hs : List Int) : Nat → Int
  | 0 => hs.getD 0 0
  | k + 1 => min (leastTo hs k) (hs.getD k 0)
/-- What LowestPoint answers. -/
def lowest (J : Int) (ls : List Lb) (zs : List Int) : Int := if pullsOk J ls zs = true then leastTo (hangs J.toNat ls zs) J.toNat else -2001

theorem pulls_parts {J : Int} {ls : List Lb} {zs : List Int} (h : pullsOk J ls zs = true) : bodyOk J ls = true ∧ (zs.length : Int) = J ∧ (∀ k, k < zs.length → -1 ≤ zs.getD k 0 ∧ zs.getD k 0 ≤ 500) ∧ ∃ k, k < zs.length ∧ 0 ≤ zs.getD k 0 := by
  unfold pullsOk at h
  simp only [Bool.and_eq_true, decide_eq_true_eq, List.all_eq_true, List.any_eq_true] at h
  obtain ⟨h1, h2, h3, x, hx, hp⟩ := h
  have g : ∀ k (hk : k < zs.length), zs.getD k 0 = zs[k] := fun k hk => by rw [List.getD_eq_getElem?_getD, List.getElem?_eq_getElem hk]; rfl
  refine ⟨h1, h2, fun k hk => ?_, ?_⟩
  · have := h3 zs[k] (List.getElem_mem hk)
    unfold inRange at this
    rw [g k hk]
    simpa using this
  · obtain ⟨k, hk, rfl⟩ := List.mem_iff_getElem.1 hx
    exact ⟨k, hk, by rw [g k hk]; simpa [pulled] using hp⟩
theorem pose_parts {J : Int} {ls : List Lb} {hs : List Int} : poseOk J ls hs = true ↔ bodyOk J ls = true ∧ (hs.length : Int) = J ∧ (∀ k, k < hs.length → -2000 ≤ hs.getD k 0 ∧ hs.getD k 0 ≤ 2000) ∧ ∀ l ∈ ls, -l.n ≤ hs.getD l.a.toNat 0 - hs.getD l.b.toNat 0 ∧ hs.getD l.a.toNat 0 - hs.getD l.b.toNat 0 ≤ l.n := by
  have g : ∀ k (hk : k < hs.length), hs.getD k 0 = hs[k] := fun k hk => by rw [List.getD_eq_getElem?_getD, List.getElem?_eq_getElem hk]; rfl
  unfold poseOk
  simp only [Bool.and_eq_true, decide_eq_true_eq, List.all_eq_true]
  constructor
  · rintro ⟨h1, h2, h3, h4⟩
    refine ⟨h1, h2, fun k hk => ?_, fun l hl => ?_⟩
    · have := h3 hs[k] (List.getElem_mem hk)
      rw [g k hk]
      simpa [inRange] using this
    · simpa [limbHolds, inRange] using h4 l hl
  · rintro ⟨h1, h2, h3, h4⟩
    refine ⟨h1, h2, fun x hx => ?_, fun l hl => ?_⟩
    · obtain ⟨k, hk, rfl⟩ := List.mem_iff_getElem.1 hx
      have := h3 k hk
      rw [g k hk] at this
      simpa [inRange] using this
    · simpa [limbHolds, inRange] using h4 l hl
theorem hangs_len (m : Nat) (ls : List Lb) (zs : List Int) : (hangs m ls zs).length = m := by simp [hangs]
theorem hangs_at {m : Nat} {ls : List Lb} {zs : List Int} {k : Nat} (h : k < (hangs m ls zs).length) : (hangs m ls zs)[k] = hang m ls zs k := by simp [hangs]
theorem hangs_getD {m : Nat} {ls : List Lb} {zs : List Int} {k : Nat} (h : k < m) : (hangs m ls zs).getD k 0 = hang m ls zs k := by
  have hk : k < (hangs m ls zs).length := by rw [hangs_len]; exact h
  rw [List.getD_eq_getElem?_getD, List.getElem?_eq_getElem hk]
  exact hangs_at hk
theorem hangTo_range {m : Nat} {ls : List Lb} {zs : List Int} (hf : Fits m ls) (hl : ls.length ≤ 11) (hz : ∀ k, k < m → -1 ≤ zs.getD k 0 ∧ zs.getD k 0 ≤ 500) (j k : Nat) (hk : k ≤ m) : -2000 ≤ hangTo m ls zs j k ∧ hangTo m ls zs j k ≤ 500 := by
  induction k with
  | zero => exact ⟨by simp [hangTo], by simp [hangTo]⟩
  | succ k ih =>
    have := ih (by omega)
    have := hz k (by omega)
    have := dist_range hf k j
    have e : hangTo m ls zs j (k + 1) = if zs.getD k 0 < 0 then hangTo m ls zs j k else max (hangTo m ls zs j k) (zs.getD k 0 - dist m ls k j) := rfl
    rw [e]
    split
    · omega
    · have h0 : 0 ≤ zs.getD k 0 := by omega
      have hd : (100 : Int) * (ls.length : Int) ≤ 1100 := by omega
      refine ⟨Int.le_trans ?_ (Int.le_max_left _ _), Int.max_le.2 ⟨?_, ?_⟩⟩ <;> omega
theorem slackTo_len (zs hs : List Int) (k : Nat) : (slackTo zs hs k).length ≤ k := by
  induction k with
  | zero => exact Nat.le_refl _
  | succ k ih =>
    show (slackTo zs hs k ++ _).length ≤ k + 1
    rw [List.length_append]
    split <;> simp <;> omega
theorem hangPose_len (J : Int) (ls : List Lb) (zs : List Int) : (hangPose J ls zs).length ≤ 12 := by
  unfold hangPose
  split
  · rename_i h
    rw [hangs_len]
    have := ok_len (pulls_parts h).1
    omega
  · simp
theorem slacks_len (J : Int) (ls : List Lb) (zs : List Int) : (slacks J ls zs).length ≤ 12 := Nat.le_trans (slackTo_len _ _ _) (hangPose_len J ls zs)
end Go.Proofs.Ytblbmppbbhibeaa
