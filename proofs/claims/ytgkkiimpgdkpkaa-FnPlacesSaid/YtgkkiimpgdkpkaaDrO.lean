/- The contracts of spec.l07Order and spec.DrawOrder: what they draw is an order. Condition: the bytes can be read. -/
import Derived.Test.YtgkkiimpgdkpkaaOrdM
import Derived.Test.YtgkkiimpgdkpkaaParI
import Derived.Test.YtgkkiimpgdkpkaaStK
import Derived.Deep.RegionHeld3
namespace Go.Proofs.Ytgkkiimpgdkpkaa
set_option linter.unusedVariables false
set_option linter.unusedSimpArgs false
open Go.RowKit

/-- The numbers below the length, each once. -/
def Placed (zs : List Int) : Prop := (∀ z ∈ zs, 0 ≤ z ∧ z < (zs.length : Int)) ∧ zs.Nodup
/-- Number k laid in at place t. -/
def layIn (zs : List Int) (t : Nat) : List Int := zs.take t ++ [(zs.length : Int)] ++ zs.drop t
theorem layIn_len {zs : List Int} {t : Nat} (h : t ≤ zs.length) : (layIn zs t).length = zs.length + 1 := by
  unfold layIn
  simp only [List.length_append, List.length_take, List.length_drop, List.length_singleton]
  omega
theorem placed_more {zs : List Int} {t : Nat} (h : Placed zs) (ht : t ≤ zs.length) : Placed (layIn zs t) := by
  have pm : (layIn zs t).Perm ((zs.length : Int) :: zs) := by
    unfold layIn
    have := List.perm_middle (a := (zs.length : Int)) (l₁ := zs.take t) (l₂ := zs.drop t)
    rw [List.take_append_drop] at this
    rw [List.append_assoc]
    exact this
  obtain ⟨h1, h2⟩ := h
  refine ⟨fun z hz => ?_, ?_⟩
  · rw [layIn_len ht]
    rcases List.mem_cons.1 (pm.mem_iff.1 hz) with rfl | hz
    · omega
    · have := h1 z hz
      omega
  · refine (pm.nodup_iff).2 (List.nodup_cons.2 ⟨fun hm => ?_, h2⟩)
    have := h1 _ hm
    omega
theorem placed_ord {zs : List Int} (h : Placed zs) (h1 : 1 ≤ zs.length) (h7 : zs.length ≤ 7) : IsOrd zs :=
  ⟨⟨h1, h7⟩, fun k hk => by have := h.1 _ (List.getElem_mem hk); omega, fun i j hi hj hij => by
    have pw := List.pairwise_iff_getElem.1 h.2
    rcases Nat.lt_or_gt_of_ne hij with c | c
    · exact pw i j hi hj c
    · exact fun e => pw j i hj hi c e.symm⟩

/-- What the drawing keeps: the row drawn so far, the cursor. -/
structure OrdK (w0 : World) (a : Option Addr) (n cap : Nat) (w : World) (b : Nat) (g c : Nat) (zs : List Int) (W : World) : Prop where
  out : OwnI W w.heap.size (.slice (some ⟨g, 0, none⟩) zs.length c) zs
  st : St w0 a n cap W b
  gr : w.grownBy W (some b)
  le : w0.heap.size ≤ w.heap.size
  cu : b < w.heap.size
section
variable {w0 : World} {a : Option Addr} {n cap : Nat} {w : World} {b g c g' c' : Nat} {zs zs' : List Int} {W W' : World} {row : Option Nat}
theorem OrdK.draw (K : OrdK w0 a n cap w b g c zs W) (hs : St w0 a n cap W' b) (hg : W.grownBy W' (some b)) : OrdK w0 a n cap w b g c zs W' :=
  ⟨K.out.kept hg (sep_of fun k hk e => by
    have h1 := (K.out.lt k hk).1
    have h2 := Option.some.inj e
    have h3 := K.cu
    omega), hs, World.grownBy.trans K.gr hg, K.le, K.cu⟩
theorem OrdK.below (K : OrdK w0 a n cap w b g c zs W) (hb : Below W.heap.size W W') (ho : OwnI W' W.heap.size (.slice (some ⟨g', 0, none⟩) zs'.length c') zs') : OrdK w0 a n cap w b g' c' zs' W' :=
  ⟨ho.mono K.gr.size, K.st.below' hb, World.grownBy.trans K.gr (grown_of_below hb _), K.le, K.cu⟩
end
def OrdPost (w0 : World) (a : Option Addr) (n cap : Nat) (w : World) (b : Nat) (e : Ending) (w' : World) : Prop :=
  ∃ v zs, e = .returned v ∧ OwnI w' w.heap.size v zs ∧ IsOrd zs ∧ St w0 a n cap w' b ∧ w.grownBy w' (some b)

set_option maxRecDepth 100000 in
set_option maxHeartbeats 3200000 in
theorem order_any (w0 : World) (a : Option Addr) (n cap : Nat) (z : List Int) (hr : IsRow .u8 w0 a n cap z) (w : World) (b : Nat) (hs : St w0 a n cap w b) :
    Calls Try.prog 30 #[.pointer (some ⟨b, 0, none⟩)] w (OrdPost w0 a n cap w b) := by
  have BE := Lib.hid (fun m W h => below_any w0 a n cap z hr W b h m)
  have K0 := Lib.hid (show OrdK w0 a n cap w b w.heap.size 0 [] (w.alloc (.cells #[] 3)) from
    ⟨ownI_empty w w.heap.size w.heap.size #[] rfl (Nat.le_refl _) rfl, hs.alloc _, grown_of_below ((Below.refl w.heap.size w).alloc (Nat.le_refl _) _) _, hs.below.size, hs.cur.lt⟩)
  clear hr hs
  go_enter Try.func30, Try.ntmps30
  go_wp2_with fail
  refine (BE.out 6 _ K0.out.st).mono ?_
  rintro e w1 ⟨m, rfl, ⟨hm0, hm1, -⟩, st1, g1⟩
  have hm6 := hm1 (by omega)
  obtain ⟨q, rfl⟩ := Int.eq_ofNat_of_zero_le hm0
  have K1 := Lib.hid (K0.out.draw st1 g1)
  have e1 : IntKind.i64.wrap (1 + (q : Int)) = 1 + (q : Int) := IntWalk.i64_in _ (by omega)
  clear st1 g1 hm1 K0
  go_wp2_with fail
  generalize hM : (1 + (q : Int)) = M at e1 ⊢
  have hM1 : 1 ≤ M ∧ M ≤ 6 := by omega
  clear hM e1 hm0 hm6
  go_loopw [3, 5] (fun ov iv wr => ∃ (zs : List Int) (g c : Nat), ov = .slice (some ⟨g, 0, none⟩) zs.length c ∧ (zs.length : Int) ≤ M ∧ iv = .int .i64 (zs.length : Int) ∧ Hid (Placed zs) ∧ Hid (OrdK w0 a n cap w b g c zs wr)) (fun _ iv _ => (M - intOf iv).toNat)
  case atStart => exact ⟨[], w.heap.size, 0, rfl, by simp; omega, rfl, ⟨fun z hz => absurd hz (by simp), List.nodup_nil⟩, K1⟩
  case round =>
    clear K1
    obtain ⟨zs, g, c, rfl, hk, rfl, HP, HK⟩ := hrel
    by_cases hlt : (zs.length : Int) < M
    rotate_left
    · have O := Lib.hid (placed_ord HP.out (by omega) (by omega))
      go_wp2
      go_ret
      exact ⟨_, zs, rfl, HK.out.out, O.out, HK.out.st, HK.out.gr⟩
    have e2 : IntKind.i64.wrap ((zs.length : Int) + 1) = (zs.length : Int) + 1 := IntWalk.i64_in _ (by omega)
    have hcap : zs.length ≤ c := by
      obtain ⟨_, h2⟩ := HK.out.out
      rcases h2 with ⟨h3, _⟩ | ⟨_, cap, _, e, _, _, hnc, _⟩
      · simp at h3
      · simp only [Value.slice.injEq, Option.some.injEq, Addr.mk.injEq, and_true, true_and] at e
        omega
    go_wp2_with fail
    refine (BE.out _ _ HK.out.st).mono ?_
    rintro e w1 ⟨x, rfl, ⟨hx0, hx1, -⟩, st1, g1⟩
    have hx2 := hx1 (by omega)
    obtain ⟨t, rfl⟩ := Int.eq_ofNat_of_zero_le hx0
    have ht : t ≤ zs.length := by omega
    have HK1 := Lib.hid (HK.out.draw st1 g1)
    clear st1 g1 hx1 hx0 HK e2
    have hT0 : (0 : Int) ≤ (t : Int) := by omega
    have hT1 : (t : Int) ≤ (c : Int) := by omega
    have hT2 : (t : Int) ≤ (zs.length : Int) := by omega
    have hz6 : zs.length ≤ 6 := by omega
    have P1 := Lib.hid (part_low HK1.out.out ht)
    have P2 := Lib.hid (fun x c' hx => part_high (x := x) HK1.out.out ht c' hx)
    have hl1 : (zs.take t).length = t := by rw [List.length_take]; omega
    have hl2 : (zs.drop t).length = zs.length - t := List.length_drop
    have L1 := Lib.hid (And.intro hl1 hl2)
    have LY := Lib.hid (show zs.take t ++ [(zs.length : Int)] ++ zs.drop t = layIn zs t from rfl)
    have NX := Lib.hid (placed_more HP.out ht)
    have LL := Lib.hid (layIn_len ht)
    have EA := Lib.hid (show OwnI (w1.alloc (.cells #[] 3)).drew w1.heap.size (.slice (some ⟨w1.heap.size, 0, none⟩) 0 0) [] from (ownI_empty w1 w1.heap.size w1.heap.size #[] rfl (Nat.le_refl _) rfl).below ((Below.refl _ _).drew))
    have EB := Lib.hid (show OwnI ((w1.alloc (.cells #[] 3)).alloc (.cells #[.int .i64 (zs.length : Int)] 3)).drew w1.heap.size (.slice (some ⟨w1.heap.size, 0, none⟩) 0 0) [] from ((ownI_empty w1 w1.heap.size w1.heap.size #[] rfl (Nat.le_refl _) rfl).alloc _).below ((Below.refl _ _).drew))
    have EC := Lib.hid (show OwnI ((w1.alloc (.cells #[.int .i64 (zs.length : Int)] 3)).alloc (.cells #[] 3)).drew w1.heap.size (.slice (some ⟨w1.heap.size + 1, 0, none⟩) 0 0) [] from (ownI_empty (w1.alloc (.cells #[.int .i64 (zs.length : Int)] 3)) w1.heap.size (w1.heap.size + 1) #[] (by simp) (by omega) rfl).below ((Below.refl _ _).drew))
    have FB := Lib.hid (show OwnI ((w1.alloc (.cells #[] 3)).alloc (.cells #[.int .i64 (zs.length : Int)] 3)).drew w1.heap.size (.slice (some ⟨w1.heap.size + 1, 0, none⟩) 1 1) [(zs.length : Int)] from (by have := oneI (w1.alloc (.cells #[] 3)) w1.heap.size (zs.length : Int) (by simp); simp only [World.size_alloc] at this; exact this.below ((Below.refl _ _).drew)))
    have FC := Lib.hid (show OwnI ((w1.alloc (.cells #[.int .i64 (zs.length : Int)] 3)).alloc (.cells #[] 3)).drew w1.heap.size (.slice (some ⟨w1.heap.size, 0, none⟩) 1 1) [(zs.length : Int)] from ((oneI w1 w1.heap.size (zs.length : Int) (Nat.le_refl _)).alloc _).below ((Below.refl _ _).drew))
    have WA := Lib.hid (show Below w1.heap.size w1 (w1.alloc (.cells #[] 3)).drew from ((Below.refl _ _).alloc (Nat.le_refl _) _).drew)
    have WB := Lib.hid (show Below w1.heap.size w1 ((w1.alloc (.cells #[] 3)).alloc (.cells #[.int .i64 (zs.length : Int)] 3)).drew from (((Below.refl _ _).alloc (Nat.le_refl _) _).alloc (by simp) _).drew)
    have WC := Lib.hid (show Below w1.heap.size w1 ((w1.alloc (.cells #[.int .i64 (zs.length : Int)] 3)).alloc (.cells #[] 3)).drew from (((Below.refl _ _).alloc (Nat.le_refl _) _).alloc (by simp) _).drew)
    have DONE := Lib.hid (fun g' c' w' (h1 : OwnI w' w1.heap.size (.slice (some ⟨g', 0, none⟩) (zs.length + 1) c') (layIn zs t)) (h2 : Below w1.heap.size w1 w') => HK1.out.below (g' := g') (c' := c') (zs' := layIn zs t) h2 (by rw [LL.out]; exact h1))
    clear hl1 hl2 hx2 HP HK1
    go_wp2_with fail
    go_region_held3 (fun _ => True) (trivial)
      (first
        | (have _t := tokB; refine step_partI (by rfl) (.tmp 27) (.tmp 30) (by rfl) w1.heap.size _ _ (zs.take t ++ [(zs.length : Int)]) (zs.drop t) (by rfl) (by rfl) (by exact O3.out) (by exact (P2.out _ _ rfl).below B3.out) ?_ ?_ ?_; (simp <;> omega); (exact B3.out.size); intro v4 w4 o4 g4 hat4; have B4 := Lib.hid (madeR B3.out B3.out.size O3.out g4); have O4 := Lib.hid (LY.out ▸ o4); have VB := Lib.hid hat4; clear o4 g4 hat4)
        | (have _t := tokA; refine step_rowsI (by rfl) (.tmp 24) (.tmp 26) (by rfl) w1.heap.size w1.heap.size (.slice A2 t c2) _ (zs.take t) [(zs.length : Int)] (by rfl) (by rfl) (by first | exact O2.out | exact O2.out.alloc _) (by first | exact F2.out | exact oneI _ _ _ B2.out.size) ?_ ?_ ?_; (simp <;> omega); (have := B2.out.size; simp <;> omega); intro v3 w3 o3 g3 hat3; have B3 : Hid (Below w1.heap.size w1 w3) := (by first | exact madeR B2.out B2.out.size O2.out g3 | exact madeR (B2.out.alloc B2.out.size _) (by have := B2.out.size; simp; omega) (O2.out.alloc _) g3); obtain ⟨A3, c3, rfl⟩ := o3.slice; have O3 := Lib.hid o3; have tokB := Lib.hid trivial; clear o3 g3 hat3)
        | (refine step_rowsI (by rfl) (.tmp 20) (.tmp 23) (by rfl) w1.heap.size w.heap.size _ (.slice (some ⟨g, 0, none⟩) t c) [] (zs.take t) (by rfl) (by rfl) (by first | exact EA.out | exact EB.out | exact EC.out) (by first | exact P1.out.below WA.out | exact P1.out.below WB.out | exact P1.out.below WC.out) ?_ ?_ ?_; (simp <;> omega); (simp <;> omega); intro v2 w2 o2 g2 hat2; replace o2 : OwnI w2 w1.heap.size v2 (zs.take t) := o2; obtain ⟨A2, c2, rfl⟩ := o2.slice; simp only [L1.out.1] at o2 ⊢; have B2 : Hid (Below w1.heap.size w1 w2) := (by first | exact madeR WA.out WA.out.size EA.out g2 | exact madeR WB.out WB.out.size EB.out g2 | exact madeR WC.out WC.out.size EC.out g2); (first | (have F2 := Lib.hid (OwnI.kept (row := some w1.heap.size) FB.out g2 (sep_of fun x p1 p2 => by have h1 : w1.heap.size + 1 = x := Option.some.inj p1; have h2 : w1.heap.size = x := Option.some.inj p2; omega))) | (have F2 := Lib.hid (OwnI.kept (row := some (w1.heap.size + 1)) FC.out g2 (sep_of fun x p1 p2 => by have h1 : w1.heap.size = x := Option.some.inj p1; have h2 : w1.heap.size + 1 = x := Option.some.inj p2; omega))) | skip); have O2 := Lib.hid o2; have tokA := Lib.hid trivial; clear o2 g2 hat2))
    all_goals
      obtain ⟨gg, cc, rfl, -, -, -, -⟩ := O4.out.spot (k := 0) (by rw [LL.out]; omega)
      have D := Lib.hid (DONE.out gg cc _ (by have := O4.out; rwa [LL.out] at this) B4.out)
      clear O4 B4
      go_wp2
      exact ⟨⟨layIn zs t, gg, cc, rfl, by rw [LL.out]; omega, by rw [LL.out]; go_num, NX, D⟩, by simp [intOf]; omega⟩

set_option maxRecDepth 100000 in
set_option maxHeartbeats 800000 in
theorem drawOrder_any (a : Option Addr) (n cap : Nat) (z : List Int) (w : World) (hr : IsRow .u8 w a n cap z) (hn : n ≤ 1048576) :
    Calls Try.prog 11 #[.slice a n cap] w fun e w' => ∃ v zs, e = .returned v ∧ OwnI w' w.heap.size v zs ∧ IsOrd zs ∧ Below w.heap.size w w' := by
  have C1 := Lib.hid (new_any w a n cap z hr hn)
  have C2 := Lib.hid (fun w' b h => order_any w a n cap z hr w' b h)
  clear hr
  go_enter Try.func11, Try.ntmps11
  go_wp2_with fail
  refine C1.out.mono ?_
  rintro e w1 ⟨b, rfl, s1⟩
  have S1 := Lib.hid s1
  clear s1
  go_wp2_with fail
  refine (C2.out _ _ S1.out).mono ?_
  rintro e w2 ⟨v, zs, rfl, o2, h2, s2, g2⟩
  obtain ⟨V, c, rfl⟩ := o2.slice
  have F := Lib.hid (And.intro (o2.mono S1.out.below.size) s2.below)
  clear o2 s2 g2
  go_wp2
  go_ret
  exact ⟨_, zs, rfl, F.out.1, h2, F.out.2⟩
end Go.Proofs.Ytgkkiimpgdkpkaa
