/- The contract of impl.DistancesFrom: it answers as the model does. Condition: the limbs lie in a row of their own. -/
import Derived.Test.YtblbmppbbhibeaaFromW
import Derived.Test.YtblbmppbbhibeaaImpOk
import Derived.Test.YtblbmppbbhibeaaDistS
namespace Go.Proofs.Ytblbmppbbhibeaa
set_option linter.unusedVariables false
set_option linter.unusedSimpArgs false
open Go.RowKit

theorem joints_not {J i j : Int} {ls : List Lb} (h : joints J i j ls = false) : ¬ (bodyOk J ls = true ∧ (0 ≤ i ∧ i < J) ∧ (0 ≤ j ∧ j < J)) := by
  rintro ⟨h0, h1, h2⟩
  unfold joints at h
  rw [h0, inB_yes (by omega), inB_yes (by omega)] at h
  cases h
set_option maxRecDepth 100000 in
set_option maxHeartbeats 800000 in
theorem implDists_no (J j : Int) (v : Value) (ls : List Lb) (base : Nat) (w : World) (hown : OwnL w base v ls) (hl : ls.length ≤ 2000000) (h : ¬ (bodyOk J ls = true ∧ (0 ≤ j ∧ j < J))) :
    Calls Try.prog 64 #[bodyV J v, .int .i64 j] w (IntsPost w []) := by
  have CS := Lib.hid (fun W h => implOk J v ls base W h hl)
  obtain ⟨A, c, e⟩ := hown.slice
  subst e
  have C2 := Lib.hid (fun j W => hasJoint_any J j A ls.length c W)
  have OWN := Lib.hid hown
  have BX := Lib.hid (box_facts (J := J) hown)
  clear hown
  unfold bodyV at CS ⊢
  cases hok : bodyOk J ls with
  | false =>
    rw [hok] at CS
    clear h hok
    go_enter Try.func64, Try.ntmps64
    go_wp2_with fail
    refine (CS.out _ (OWN.out.alloc _)).mono ?_
    rintro e w1 ⟨rfl, b1⟩
    simp only [World.size_alloc] at b1
    obtain ⟨x0, x1, -, bw⟩ := BX.out w1 b1
    clear b1
    go_wp2
    go_ret
    exact ⟨_, rfl, ⟨rfl, .inl ⟨rfl, rfl⟩⟩, bw⟩
  | true =>
    rw [hok] at CS
    have hj : ¬ (0 ≤ j ∧ j < J) := fun x => h ⟨hok, x⟩
    have hin := hasB_no hj
    clear h hok hj
    go_enter Try.func64, Try.ntmps64
    go_wp2_with fail
    refine (CS.out _ (OWN.out.alloc _)).mono ?_
    rintro e w1 ⟨rfl, b1⟩
    simp only [World.size_alloc] at b1
    obtain ⟨x0, x1, -, bw⟩ := BX.out w1 b1
    clear b1
    go_wp2_with (go_at_call 67; refine (C2.out _ _).mono ?_; rintro e w' ⟨rfl, rfl⟩)
    go_ret
    exact ⟨_, rfl, ⟨rfl, .inl ⟨rfl, rfl⟩⟩, bw.alloc bw.size _⟩

set_option maxRecDepth 100000 in
set_option maxHeartbeats 800000 in
theorem implDists_yes (m j : Nat) (v : Value) (ls : List Lb) (base : Nat) (w : World) (hown : OwnL w base v ls) (hok : bodyOk m ls = true) (hj : j < m) :
    Calls Try.prog 64 #[bodyV (m : Int) v, .int .i64 (j : Int)] w (IntsPost w (distsTo m ls j m)) := by
  obtain ⟨hf, hll, hm, hr⟩ := ok_parts' hok
  have hmf : ∀ (fn : Fn) (first cap : Array Value) (w : World), (Instr.makeFunc fn first cap).run Try.prog w = .ok (.func fn first cap) w := fun _ _ _ _ => rfl
  have CS := Lib.hid (fun W h => hok ▸ implOk m v ls base W h (by omega))
  have CF := Lib.hid (fun nb rb bl b0 zs W => from_any m j nb rb bl b0 73 v ls (fun _ d => d) (enters_of Try.func73 (by kernel_rfl) rfl) (distances_stores nb rb m b0) hf hll hr hm zs W)
  have RD := Lib.hid (fun zs zs' h => roamed_dists (zs := zs) (zs' := zs') hf hll hr h hj)
  have LT := Lib.hid hown.lt
  obtain ⟨A, c, e⟩ := hown.slice
  subst e
  have C2 := Lib.hid (fun j W => hasJoint_any m j A ls.length c W)
  have OWN := Lib.hid hown
  have BX := Lib.hid (box_facts (J := (m : Int)) hown)
  unfold bodyV at CS CF ⊢
  obtain ⟨i, hi, hz, hs, hb⟩ := info_parts info_int
  have hin := hasB_yes (J := (m : Int)) (j := (j : Int)) ⟨by omega, by omega⟩
  have hj0 : (0 : Int) ≤ (j : Int) := by omega
  have hj1 : (j : Int) < (m : Int) := by omega
  have hm0 : (0 : Int) ≤ (m : Int) := by omega
  clear hok hown hf hr
  go_enter Try.func64, Try.ntmps64
  go_wp2_with fail
  refine (CS.out _ (OWN.out.alloc _)).mono ?_
  rintro e w1 ⟨rfl, b1⟩
  simp only [World.size_alloc] at b1
  have X1 := Lib.hid (BX.out w1 b1)
  obtain ⟨x0, x1, -, -⟩ := X1.out
  obtain ⟨y0, -, -⟩ := elder x0
  obtain ⟨y1, -, -⟩ := elder x1
  have hb1 := b1.size
  simp only [World.size_alloc] at hb1
  clear b1
  go_wp2_with (first | (go_at_call 67; refine (C2.out _ _).mono ?_; rintro e w' ⟨rfl, rfl⟩) | (refine wpList_make_full _ rfl _ _ 27 rfl (w1.heap.size + 1) 3 i (.int .i64 0) 1 Try.underlying27 hi hz hs .i64 .i64 _ _ m rfl rfl rfl rfl (by rw [hb]; omega) (by simp only [maxLen]; omega) (by simp) ?_; intro w2 own2 grown2; have z0 := (elder (grown2.cell (y0 _) (by simp))).1; have z1 := (elder (grown2.cell (y1 _) (by simp))).1))
  rw [made_zeros] at own2
  simp only [World.size_alloc] at own2
  have sz2 := grown2.size
  simp only [World.size_alloc] at sz2
  have O2 := Lib.hid (show OwnI w2 (w1.heap.size + 1) (.slice (some ⟨w1.heap.size + 1, 0, none⟩) m m) (List.replicate m 0) by unfold OwnI; rw [List.length_replicate]; exact own2)
  have hlt2 : w1.heap.size + 1 < w2.heap.size := (O2.out.lt _ rfl).2
  have a1 := (World.grownBy_alloc w1 (.cells #[.int .i64 (m : Int), .slice A ls.length c] 26) none).trans grown2
  have B2 := Lib.hid ((X1.out.2.2.2.alloc X1.out.2.2.2.size (.cells #[.int .i64 (m : Int), .slice A ls.length c] 26)).trans ((below_of_grown grown2).mono (by simp only [World.size_alloc]; omega)))
  have L2 := Lib.hid (X1.out.2.2.1.kept a1 (by cases (Value.slice A ls.length c).ownBlock <;> simp))
  clear own2 grown2 a1 x0 x1 y0 y1 z0 z1
  refine (CF.out w2.heap.size (w1.heap.size + 1) base (w1.heap.size + 1) (List.replicate m 0) _ (L2.out.alloc _) (sep_of (fun k hk e => by have := (LT.out k hk).2; have := Option.some.inj e; omega)) (by omega) (by simp [go_sem]) (O2.out.alloc _) (by simp) hj).mono ?_
  rintro e w3 ⟨rfl, zs', o3, hz3, hro, g3⟩
  have c3 := g3.cell (show (w2.alloc (.cells #[.slice (some ⟨w1.heap.size + 1, 0, none⟩) m m] 27)).cell? ⟨w2.heap.size, 0, none⟩ = some (.slice (some ⟨w1.heap.size + 1, 0, none⟩) m m) by simp [go_sem]) (by simp only [ne_eq, Option.some.injEq]; omega)
  have e3 := RD.out _ _ hro hz3
  subst e3
  have O3 := Lib.hid (o3.mono (b := w.heap.size) (by omega))
  have B3 := Lib.hid ((B2.out.alloc B2.out.size (.cells #[.slice (some ⟨w1.heap.size + 1, 0, none⟩) m m] 27)).grown g3 (by simp only [World.size_alloc]; omega) (fun k hk => by have := Option.some.inj hk; omega))
  clear o3 hz3 hro g3
  go_wp2
  go_ret
  exact ⟨_, rfl, O3.out, B3.out⟩

theorem implDists (J i : Int) (v : Value) (ls : List Lb) (base : Nat) (w : World) (hown : OwnL w base v ls) (hl : ls.length ≤ 2000000) :
    Calls Try.prog 64 #[bodyV J v, .int .i64 i] w (IntsPost w (distsFrom J i ls)) := by
  cases h : joints J i i ls with
  | false =>
    unfold distsFrom
    rw [h]
    exact implDists_no J i v ls base w hown hl fun x => joints_not h ⟨x.1, x.2, x.2⟩
  | true =>
    obtain ⟨hok, m, p, q, rfl, rfl, e, hp, _⟩ := joints_of h
    rw [distsFrom_yes hok hp]
    exact implDists_yes m p v ls base w hown hok hp
end Go.Proofs.Ytblbmppbbhibeaa
