/- The contract of spec.PathBetween, in one. Condition: the limbs lie in a row of their own. -/
import Derived.Test.YtnoocpokicccpaaDistW
namespace Go.Proofs.Ytnoocpokicccpaa
open Go.RowKit

/-- zs is what PathBetween answers: nothing where a joint is no joint of a valid body; else the joints of the one way without turning back. -/
def PathIs (J i j : Int) (ls : List Lb) (zs : List Int) : Prop :=
  (joints J i j ls = false ∧ zs = []) ∨ (joints J i j ls = true ∧ ∃ (m p q : Nat) (es : List Nat), J = m ∧ i = p ∧ j = q ∧ bodyOk m ls = true ∧ p < m ∧ q < m ∧ isWay ls p es q ∧ noTurn es ∧ zs = verts ls p es)

theorem path_some (J i j : Int) (ls : List Lb) : ∃ zs, PathIs J i j ls zs ∧ zs.length ≤ 12 := by
  cases h : joints J i j ls
  · exact ⟨[], .inl ⟨h, rfl⟩, by simp⟩
  · obtain ⟨hok, m, p, q, rfl, rfl, rfl, hi, hj⟩ := joints_of h
    obtain ⟨hf, hl, hm, hr⟩ := ok_parts' hok
    obtain ⟨es, hw, hn⟩ := way_some hf hl hr hi hj
    obtain ⟨hnd, hlt⟩ := way_nodup hf hl hr hw hn
    have := way_count hnd hlt
    refine ⟨verts ls p es, .inr ⟨h, m, p, q, es, rfl, rfl, rfl, hok, hi, hj, hw, hn, rfl⟩, ?_⟩
    rw [verts_len]
    omega

theorem specPath (J i j : Int) (v : Value) (ls : List Lb) (base : Nat) (w : World) (hown : OwnL w base v ls) {zs : List Int} (h : PathIs J i j ls zs) :
    Calls Try.prog 20 #[bodyV J v, .int .i64 i, .int .i64 j] w (IntsPost w zs) := by
  rcases h with ⟨h, rfl⟩ | ⟨-, m, p, q, es, rfl, rfl, rfl, hok, hi, hj, hw, hn, rfl⟩
  · exact specPath_no J i j v ls base w hown h
  · exact specPath_yes m v ls base w hown hok hi hj hw hn
end Go.Proofs.Ytnoocpokicccpaa
