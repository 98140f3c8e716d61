/- Full turns and the way home: a full turn winds one pair twice and leads back, sorting swaps lead home: plain mathematics. -/
import Derived.Test.YthijfipjfdmoeaaUnwM
import Derived.Test.YthijfipjfdmoeaaTwxN
namespace Go.Proofs.Ythijfipjfdmoeaa
set_option linter.unusedVariables false
set_option linter.unusedSimpArgs false

section
variable {n i k : Nat}
theorem down_fits (hk : k < n) : ∀ m, m + 1 + i ≤ k → ∀ l ∈ downL k m, Fits n l := by
  intro m
  induction m with
  | zero => exact fun _ l hl => by cases hl
  | succ m ih =>
    intro hm l hl
    rw [downL] at hl
    rcases List.mem_append.1 hl with c | c
    · exact ih (by omega) l c
    · rw [List.mem_singleton.1 c]
      exact ⟨by show (0 : Int) ≤ (k : Int) - 1 - (m : Int); omega, by show (k : Int) - 1 - (m : Int) + 2 ≤ (n : Int); omega⟩
/-- Puppet k has come m places to the left; all on its left stand as before. -/
theorem down_run (hn : 1 ≤ n ∧ n ≤ 7) (hk : k < n) : ∀ m, m + 1 ≤ k → atI ((downL k m).foldl stepA (startL n)) (k - m) = (k : Int) ∧ ∀ j, j < k - m → atI ((downL k m).foldl stepA (startL n)) j = (j : Int) := by
  intro m
  induction m with
  | zero => exact fun _ => ⟨start_at hk, fun j hj => start_at (by simp only [Nat.sub_zero] at hj; omega)⟩
  | succ m ih =>
    intro hm
    obtain ⟨h1, h2⟩ := ih (by omega)
    have ho : IsOrd ((downL k m).foldl stepA (startL n)) := run_ord (n := n) (down_fits (i := 0) hk m (by omega)) (start_ord hn) (startL_len n)
    have hl : ((downL k m).foldl stepA (startL n)).length = n := by rw [foldA_len, startL_len]
    rw [downL, List.foldl_append]
    show atI (stepA ((downL k m).foldl stepA (startL n)) ⟨(k : Int) - 1 - (m : Int), false⟩) (k - (m + 1)) = (k : Int) ∧ ∀ j, j < k - (m + 1) → atI (stepA ((downL k m).foldl stepA (startL n)) ⟨(k : Int) - 1 - (m : Int), false⟩) j = (j : Int)
    generalize (downL k m).foldl stepA (startL n) = z at h1 h2 ho hl
    have hf : Fits n ⟨(k : Int) - 1 - (m : Int), false⟩ := ⟨by show (0 : Int) ≤ (k : Int) - 1 - (m : Int); omega, by show (k : Int) - 1 - (m : Int) + 2 ≤ (n : Int); omega⟩
    rw [stepA_swap ho hl hf]
    have e : (⟨(k : Int) - 1 - (m : Int), false⟩ : RCross).f0.toNat = k - (m + 1) := by show ((k : Int) - 1 - (m : Int)).toNat = k - (m + 1); omega
    rw [e]
    refine ⟨?_, fun j hj => ?_⟩
    · rw [swap_at (by omega), swF_at, show k - (m + 1) + 1 = k - m by omega]
      exact h1
    · rw [swap_at (by omega), swF_low hj]
      exact h2 j (by omega)
theorem undo_down (hik : i + 1 ≤ k) : ∀ m, m + 1 + i ≤ k → undo (downL k m) = upL (k - 1 - m) m := by
  intro m
  induction m with
  | zero => exact fun _ => rfl
  | succ m ih =>
    intro hm
    have e1 : undo (downL k (m + 1)) = ⟨(k : Int) - 1 - (m : Int), true⟩ :: undo (downL k m) := by
      rw [downL]
      unfold undo
      rw [List.map_append, List.reverse_append]
      rfl
    rw [e1, ih (by omega)]
    have up : ∀ (p q m : Nat), p = q + 1 → (⟨(p : Int), true⟩ : RCross) :: upL p m = upL q (m + 1) := by
      intro p q m hpq
      subst hpq
      induction m with
      | zero => simp [upL]
      | succ m ihm =>
        rw [upL, ← List.cons_append, ihm, upL, upL, upL]
        simp only [List.append_assoc]
        congr 3
        simp
        omega
    have := up (k - 1 - m) (k - 1 - (m + 1)) m (by omega)
    rw [← this]
    congr 2
    omega
end
/-- A full turn: it leads back, and winds its pair twice. -/
structure TurnFacts (n i k : Nat) (f : Bool) (ls : List RCross) : Prop where
  ok : ∀ l ∈ ls, Fits n l
  len : ls.length = 2 * (k - i)
  home : ls.foldl stepA (startL n) = startL n
  twist : ∀ a b, b < a → tw (startL n) ls a b = if a = k ∧ b = i then (if f = true then 2 else -2) else 0
theorem turnFacts {n i k : Nat} (hn : 1 ≤ n ∧ n ≤ 7) (hik : i < k) (hk : k < n) (f : Bool) : TurnFacts n i k f (turnL i k f) := by
  have so := start_ord hn
  have sl := startL_len n
  have df := down_fits (i := i) hk (k - 1 - i) (by omega)
  obtain ⟨d1, d2⟩ := down_run hn hk (k - 1 - i) (by omega)
  have ud := undo_down (i := i) (k := k) (by omega) (k - 1 - i) (by omega)
  rw [show k - 1 - (k - 1 - i) = i by omega] at ud
  rw [show k - (k - 1 - i) = i + 1 by omega] at d1 d2
  have e : turnL i k f = downL k (k - 1 - i) ++ ([⟨(i : Int), f⟩, ⟨(i : Int), f⟩] ++ undo (downL k (k - 1 - i))) := by
    unfold turnL
    rw [ud, List.append_assoc]
  have hc : Fits n ⟨(i : Int), f⟩ := ⟨by show (0 : Int) ≤ (i : Int); omega, by show (i : Int) + 2 ≤ (n : Int); omega⟩
  have zo : IsOrd ((downL k (k - 1 - i)).foldl stepA (startL n)) := run_ord df so sl
  have zl : ((downL k (k - 1 - i)).foldl stepA (startL n)).length = n := by rw [foldA_len, sl]
  have back := run_undo df so sl
  have uf : ∀ l ∈ undo (downL k (k - 1 - i)), Fits n l := fun l hl => by
    unfold undo at hl
    rw [List.mem_reverse, List.mem_map] at hl
    obtain ⟨y, hy, rfl⟩ := hl
    exact fits_turned (df y hy)
  have none : ∀ a b, tw (startL n) (downL k (k - 1 - i)) a b + tw ((downL k (k - 1 - i)).foldl stepA (startL n)) (undo (downL k (k - 1 - i))) a b = 0 := by
    intro a b
    have h := tw_red (n := n) (i := a) (k := b) (ls := downL k (k - 1 - i) ++ undo (downL k (k - 1 - i))) (fun l hl => by
      rcases List.mem_append.1 hl with c | c
      · exact df l c
      · exact uf l c) so sl [] (by simp)
    rw [List.nil_append, List.foldl_append, red_undo _ [] (fun k hk => by simp at hk), tw_append] at h
    rw [← h]
    rfl
  have tl := (show (turnL i k f).length = 2 * (k - i) by
    simp only [turnL, List.length_append, downL_len, upL_len, List.length_cons, List.length_nil]
    omega)
  generalize downL k (k - 1 - i) = D at *
  generalize hz : D.foldl stepA (startL n) = z at *
  have twice : stepA (stepA z ⟨(i : Int), f⟩) ⟨(i : Int), f⟩ = z := stepA_twice zo zl hc rfl
  refine ⟨fun l hl => ?_, tl, ?_, fun a b hab => ?_⟩
  · rw [e] at hl
    rcases List.mem_append.1 hl with c | c
    · exact df l c
    · rcases List.mem_append.1 c with c | c
      · rcases List.mem_cons.1 c with c | c
        · rw [c]; exact hc
        · rw [List.mem_singleton.1 c]; exact hc
      · exact uf l c
  · rw [e, List.foldl_append, List.foldl_append, hz]
    show (undo D).foldl stepA (stepA (stepA z ⟨(i : Int), f⟩) ⟨(i : Int), f⟩) = startL n
    rw [twice]
    exact back
  · rw [e, tw_append, tw_append, hz]
    show tw (startL n) D a b + (tw z [⟨(i : Int), f⟩, ⟨(i : Int), f⟩] a b + tw (stepA (stepA z ⟨(i : Int), f⟩) ⟨(i : Int), f⟩) (undo D) a b) = _
    rw [twice]
    have hn0 := none a b
    have hi : atI z i = (i : Int) := d2 i (by omega)
    have h1 : hit z ⟨(i : Int), f⟩ a b = if a = k ∧ b = i then (if f = true then 1 else -1) else 0 := by
      unfold hit
      show (if ((a : Int) = atI z (i : Int).toNat ∧ (b : Int) = atI z ((i : Int).toNat + 1)) ∨ ((a : Int) = atI z ((i : Int).toNat + 1) ∧ (b : Int) = atI z (i : Int).toNat) then sgn ⟨(i : Int), f⟩ else 0) = _
      rw [Int.toNat_natCast, hi, d1]
      by_cases c : a = k ∧ b = i
      · rw [if_pos c, if_pos (by omega)]
        rfl
      · rw [if_neg c, if_neg (by omega)]
    have h2 : hit (stepA z ⟨(i : Int), f⟩) ⟨(i : Int), f⟩ a b = hit z ⟨(i : Int), f⟩ a b := by
      rw [stepA_swap zo zl hc]
      unfold hit
      show (if ((a : Int) = atI (swapL z (i : Int).toNat) (i : Int).toNat ∧ (b : Int) = atI (swapL z (i : Int).toNat) ((i : Int).toNat + 1)) ∨ ((a : Int) = atI (swapL z (i : Int).toNat) ((i : Int).toNat + 1) ∧ (b : Int) = atI (swapL z (i : Int).toNat) (i : Int).toNat) then sgn ⟨(i : Int), f⟩ else 0) = (if ((a : Int) = atI z (i : Int).toNat ∧ (b : Int) = atI z ((i : Int).toNat + 1)) ∨ ((a : Int) = atI z ((i : Int).toNat + 1) ∧ (b : Int) = atI z (i : Int).toNat) then sgn ⟨(i : Int), f⟩ else 0)
      rw [Int.toNat_natCast, swap_at (by omega), swap_at (by omega), swF_at, swF_next, hi, d1]
      by_cases c : ((a : Int) = (i : Int) ∧ (b : Int) = (k : Int)) ∨ ((a : Int) = (k : Int) ∧ (b : Int) = (i : Int))
      · rw [if_pos (by omega), if_pos c]
      · rw [if_neg (by omega), if_neg c]
    simp only [tw, h2, h1]
    split <;> (try split) <;> omega
end Go.Proofs.Ythijfipjfdmoeaa
