/- The contracts of spec.l03Joints, spec.l03Walk and spec.PathBetween. Condition: the limbs lie in a row of their own. -/
import Derived.Test.YtblbmppbbhibeaaWalkM
import Derived.Test.YtblbmppbbhibeaaOkX
import Derived.Test.YtblbmppbbhibeaaOkW
import Derived.Test.YtblbmppbbhibeaaBox
import Derived.Deep.AppendLies
namespace Go.Proofs.Ytblbmppbbhibeaa
set_option linter.unusedVariables false
set_option linter.unusedSimpArgs false
open Go.RowKit

theorem ownI_new (w : World) (base g : Nat) (zs : List Int) (cs : Array Value) (hg : g = w.heap.size) (hc : cs.toList = zs.map intV) (hb : base ≤ g) (hm : zs.length ≤ maxLen) :
    OwnI (w.alloc (.cells cs 3)) base (.slice (some ⟨g, 0, none⟩) zs.length zs.length) zs := by
  subst hg
  have hs : cs.size = zs.length := by rw [← Array.length_toList, hc, List.length_map]
  refine ⟨by rw [List.length_map, Nat.mul_one], .inr ⟨w.heap.size, zs.length, cs, rfl, hb, heap_alloc_new w _, Nat.le_refl _, hm, by omega, ?_⟩⟩
  rw [← hc]
  exact List.take_of_length_le (by rw [Array.length_toList]; omega)
theorem ints_one (zs : List Int) : ∀ u ∈ zs.map intV, u.oneCell' = true := by
  intro u hu
  rw [List.mem_map] at hu
  obtain ⟨z, _, rfl⟩ := hu
  rfl

theorem ownI_front {w : World} {base g c : Nat} {i : Int} {zs : List Int} (h : w.ownsRow base 3 1 (.slice (some ⟨g, 0, none⟩) (1 + zs.length) c) (1 + zs.length) ([.int .i64 i] ++ zs.map intV)) : OwnI w base (.slice (some ⟨g, 0, none⟩) (1 + zs.length) c) (i :: zs) := by
  unfold OwnI
  rw [List.length_cons, Nat.add_comm zs.length 1]
  exact h
/-- What is found: the joints of the one way that goes on, or nothing. -/
def Found (ls : List Lb) (w : World) (i j : Nat) (e0 : Option Nat) (e : Ending) (w' : World) : Prop :=
  (∃ es, Goes ls i j e0 es ∧ IntsPost w (verts ls i es) e w') ∨ ((∀ es, ¬ Goes ls i j e0 es) ∧ IntsPost w [] e w')

set_option maxRecDepth 100000 in
set_option maxHeartbeats 3200000 in
theorem walk_any (m : Nat) (v : Value) (ls : List Lb) (base : Nat) (hf : Fits m ls) (hl : ls.length + 1 = m) (hm : m ≤ 12) (hr : (joinRun m ls (apart m)).isSome = true) (j : Nat) (hj : j < m) (d : Nat) :
    ∀ (i : Nat) (e0 : Option Nat) (f : Int) (w : World), OwnL w base v ls → i < m → Led ls i e0 f → Came ls i e0 d →
      Calls Try.prog 70 #[bodyV (m : Int) v, .int .i64 (i : Int), .int .i64 (j : Int), .int .i64 f] w (Found ls w i j e0) := by
  induction d using Nat.strongRecOn with
  | ind d ih =>
    intro i e0 f w hown hi hled hcame
    obtain ⟨A, c, e⟩ := hown.slice
    subst e
    have OWN := Lib.hid hown
    have BX := Lib.hid (box_facts (J := (m : Int)) hown)
    have LED := Lib.hid hled
    have CAME := Lib.hid hcame
    have HF := Lib.hid hf
    have HL := Lib.hid hl
    have HR := Lib.hid hr
    have IH := Lib.hid ih
    have hll : ls.length ≤ 11 := by omega
    obtain ⟨i0, hi0, hz0, hz1, hz2⟩ := info_parts info_int
    have hpos : 0 < 1 := by omega
    have hfr : -1 ≤ f ∧ f < 12 := by
      rcases hled with ⟨_, rfl⟩ | ⟨t, _, h1, h2, rfl⟩
      · omega
      · have := (other_spec hf h1 h2).2.1
        omega
    clear hown hled hcame hf hl hr ih
    unfold bodyV
    by_cases hij : i = j
    · subst hij
      have O0 := Lib.hid (ownI_new (w.alloc (.cells #[.int .i64 (m : Int), .slice A ls.length c] 26)) w.heap.size (w.heap.size + 1) [(i : Int)] #[.int .i64 (i : Int)] (by simp) rfl (by omega) (by simp [maxLen]))
      go_enter Try.func70, Try.ntmps70
      go_wp2
      go_ret
      exact .inl ⟨[], ⟨rfl, by cases e0 <;> trivial⟩, _, rfl, O0.out, ((Below.refl _ _).alloc (Nat.le_refl _) _).alloc (by simp) _⟩
    · have hijb : ((i : Int) == (j : Int)) = false := by simp; omega
      go_enter Try.func70, Try.ntmps70
      go_wp2
      go_loopw [9] (fun iv wr => ∃ k : Nat, k ≤ ls.length ∧ iv = .int .i64 (k : Int) ∧ Below (w.heap.size + 1) (w.alloc (.cells #[.int .i64 (m : Int), .slice A ls.length c] 26)) wr ∧ Hid (∀ t es, t < k → ¬ Goes ls i j e0 (t :: es))) (fun iv _ => ls.length - (intOf iv).toNat)
      case atStart => exact ⟨0, by omega, rfl, Below.refl _ _, fun t es h => by omega⟩
      case round =>
        obtain ⟨k, hk, rfl, hbel, hno⟩ := hrel
        have KW := Lib.hid (BX.out wr hbel)
        have HB := Lib.hid hbel
        have hsz := hbel.size
        simp only [World.size_alloc] at hsz
        obtain ⟨x0, x1, -, -⟩ := KW.out
        clear hbel
        by_cases hlt : k < ls.length
        · obtain ⟨g, c', e1, _, lg, rg, _⟩ := KW.out.2.2.1.spot hlt
          simp only [Value.slice.injEq] at e1
          obtain ⟨rfl, hloop, rfl⟩ := e1
          clear hloop
          obtain ⟨p, q, hp, hq, hpm, hqm, hpq, -⟩ := fits_at HF.out hlt
          have r0 : wr.cell? ⟨g, k * 3, none⟩ = some (.int .i64 (p : Int)) := by rw [← hp, limbAt_lt hlt]; exact rg 0 _ rfl
          have r1 : wr.cell? ⟨g, k * 3 + 1, none⟩ = some (.int .i64 (q : Int)) := by rw [← hq, limbAt_lt hlt]; exact rg 1 _ rfl
          have hk0 : (0 : Int) ≤ (k : Int) := by omega
          have hk1 : (k : Int) < (ls.length : Int) := by omega
          have hp0 : (0 : Int) ≤ (p : Int) := by omega
          have hq0 : (0 : Int) ≤ (q : Int) := by omega
          have next : (∀ es, ¬ Goes ls i j e0 (k :: es)) → Hid (∀ t es, t < k + 1 → ¬ Goes ls i j e0 (t :: es)) := fun h t es ht hg => by
            by_cases e : t = k
            · subst e
              exact h es hg
            · exact hno.out t es (by omega) hg
          have NX := Lib.hid next
          have leads : ∀ nx : Nat, touches (limbAt ls k) i → other (limbAt ls k) i = nx → (((nx : Int) = f ∧ ∀ es, ¬ Goes ls i j e0 (k :: es)) ∨ (¬ (nx : Int) = f ∧ nx < m ∧ e0 ≠ some k ∧ ∀ W, OwnL W base (.slice (some ⟨g, 0, none⟩) ls.length c) ls → Calls Try.prog 70 #[.agg #[.int .i64 (m : Int), .slice (some ⟨g, 0, none⟩) ls.length c], .int .i64 (nx : Int), .int .i64 (j : Int), .int .i64 (i : Int)] W (Found ls W nx j (some k)))) := by
            intro nx ht hnx
            have hb := led_back HF.out HL.out HR.out LED.out hlt ht
            rw [hnx] at hb
            by_cases e : (nx : Int) = f
            · exact .inl ⟨e, fun es hg => (goes_cons.1 hg).1.2.2 (hb.1 e)⟩
            · have hne : e0 ≠ some k := fun a => e (hb.2 a)
              obtain ⟨hd, hcm⟩ := came_on HF.out HL.out HR.out CAME.out hlt ht hne
              have ho := other_spec HF.out hlt ht
              rw [hnx] at hcm ho
              exact .inr ⟨e, ho.2.1, hne, fun W hW => IH.out (d - 1) (by omega) nx (some k) (i : Int) W hW ho.2.1 (.inr ⟨k, rfl, hlt, ho.2.2.2.1, by rw [ho.2.2.2.2.1]⟩) hcm⟩
          have LEADS := Lib.hid leads
          clear rg next leads hno
          by_cases hpi : p = i
          · have ht : touches (limbAt ls k) i := .inl (by rw [hp, hpi])
            have hnx : other (limbAt ls k) i = q := by unfold other; rw [if_pos (by rw [hp, hpi]), hq, Int.toNat_natCast]
            have hqi : ((q : Int) == (i : Int)) = false := by simp; omega
            have GC := Lib.hid (fun es => goes_cons (ls := ls) (i := i) (j := j) (t := k) (e0 := e0) (es := es))
            rcases LEADS.out q ht hnx with ⟨e, h⟩ | ⟨e, hnm, hne, CW⟩
            · have NX' := Lib.hid (NX.out h)
              subst hpi e
              clear h ht hnx
              go_wp2
              exact ⟨⟨k + 1, by omega, by go_num, HB.out, NX'.out⟩, by simp [intOf]; omega⟩
            · have eb : ((q : Int) == f) = false := by simpa using e
              have hn0 : (0 : Int) ≤ (q : Int) := by omega
              have HT := Lib.hid ht
              have HNX := Lib.hid hnx
              have CWH := Lib.hid CW
              clear ht hnx CW e
              go_wp2_with fail
              refine (CWH.out _ KW.out.2.2.1).mono ?_
              rintro e w2 (⟨es, hg, v2, rfl, o2, b2⟩ | ⟨hn, v2, rfl, o2, b2⟩)
              · have hlen := verts_len ls q es
                obtain ⟨hnd, hlt2⟩ := way_nodup HF.out HL.out HR.out hg.1 (noTurn_right hg.2)
                have hel := way_count hnd hlt2
                obtain ⟨g2, c2, rfl, -, -, -, -⟩ := o2.spot (k := 0) (by omega)
                have own1 := ownI_new w2 w.heap.size w2.heap.size [(i : Int)] #[.int .i64 (i : Int)] rfl rfl (Nat.le_trans KW.out.2.2.2.size b2.size) (by simp [maxLen])
                have hnews := World.ownsRow.cells (World.ownsRow.alloc o2 (.cells #[.int .i64 (i : Int)] 3)) (g := g2) rfl
                have hnl : ((verts ls q es).map intV).length = (verts ls q es).length * 1 := by rw [List.length_map, Nat.mul_one]
                have hone := ints_one (verts ls q es)
                have hpos2 : 0 < (verts ls q es).length := by omega
                have hmax : 1 + (verts ls q es).length ≤ maxLen := by simp only [maxLen]; omega
                have hbd : (1 + (verts ls q es).length) * 8 ≤ 140737488355328 := by omega
                have HBW := Lib.hid (KW.out.2.2.2.trans (b2.mono KW.out.2.2.2.size))
                have HG := Lib.hid hg
                have hwz := HBW.out.size
                clear hg hnd hlt2 hel o2 b2 x0 x1 r0 r1
                have VL := Lib.hid hlen
                clear hlen
                go_wp2_with (at_builtin; refine wpList_append_lies _ rfl (.tmp 68) (.tmp 69) 27 rfl w.heap.size 3 i0 (.int .i64 0) 1 8 Try.underlying27 hi0 hz0 hz1 hz2 rfl hpos (.slice (some ⟨w2.heap.size, 0, none⟩) 1 1) 1 [.int .i64 (i : Int)] rfl own1 ⟨g2, 0, none⟩ (verts ls q es).length c2 ((verts ls q es).map intV) rfl hnl hnews hone hpos2 hmax hbd ?_ (w2.heap.size + 1) ?_ ?_; (simp; omega); (simp); intro gg cap w3 hown3 hgrow hat hlt')
                go_ret
                have hv : verts ls i (k :: es) = (i : Int) :: verts ls q es := by show (i : Int) :: verts ls (other (limbAt ls k) i) es = _; rw [HNX.out]
                refine .inl ⟨k :: es, goes_cons.2 ⟨⟨hlt, HT.out, hne⟩, by rw [HNX.out]; exact HG.out⟩, _, rfl, ?_, ?_⟩
                · rw [hv]
                  exact ownI_front hown3
                · exact (HBW.out.alloc hwz _).grown hgrow (by simp; omega) (fun k hk => by
                    have : w2.heap.size = k := by simpa [Value.ownBlock] using hk
                    omega)
              · obtain ⟨A2, c2, rfl⟩ := o2.slice
                have NX' := Lib.hid (NX.out (fun es hg => hn es (by have := (goes_cons.1 hg).2; rwa [HNX.out] at this)))
                have HB2 := Lib.hid (HB.out.trans (b2.mono hsz))
                clear o2 b2 x0 x1 r0 r1
                go_wp2
                exact ⟨⟨k + 1, by omega, by go_num, HB2.out, NX'.out⟩, by simp [intOf]; omega⟩
          · have hpib : ((p : Int) == (i : Int)) = false := by simp; omega
            by_cases hqi : q = i
            · have ht : touches (limbAt ls k) i := .inr (by rw [hq, hqi])
              have hnx : other (limbAt ls k) i = p := by unfold other; rw [if_neg (by rw [hp]; omega), hp, Int.toNat_natCast]
              rcases LEADS.out p ht hnx with ⟨e, h⟩ | ⟨e, hnm, hne, CW⟩
              · have NX' := Lib.hid (NX.out h)
                subst hqi e
                clear h ht hnx
                go_wp2
                exact ⟨⟨k + 1, by omega, by go_num, HB.out, NX'.out⟩, by simp [intOf]; omega⟩
              · have eb : ((p : Int) == f) = false := by simpa using e
                have hn0 : (0 : Int) ≤ (p : Int) := by omega
                have HT := Lib.hid ht
                have HNX := Lib.hid hnx
                have CWH := Lib.hid CW
                clear ht hnx CW e
                go_wp2_with fail
                refine (CWH.out _ KW.out.2.2.1).mono ?_
                rintro e w2 (⟨es, hg, v2, rfl, o2, b2⟩ | ⟨hn, v2, rfl, o2, b2⟩)
                · have hlen := verts_len ls p es
                  obtain ⟨hnd, hlt2⟩ := way_nodup HF.out HL.out HR.out hg.1 (noTurn_right hg.2)
                  have hel := way_count hnd hlt2
                  obtain ⟨g2, c2, rfl, -, -, -, -⟩ := o2.spot (k := 0) (by omega)
                  have own1 := ownI_new w2 w.heap.size w2.heap.size [(i : Int)] #[.int .i64 (i : Int)] rfl rfl (Nat.le_trans KW.out.2.2.2.size b2.size) (by simp [maxLen])
                  have hnews := World.ownsRow.cells (World.ownsRow.alloc o2 (.cells #[.int .i64 (i : Int)] 3)) (g := g2) rfl
                  have hnl : ((verts ls p es).map intV).length = (verts ls p es).length * 1 := by rw [List.length_map, Nat.mul_one]
                  have hone := ints_one (verts ls p es)
                  have hpos2 : 0 < (verts ls p es).length := by omega
                  have hmax : 1 + (verts ls p es).length ≤ maxLen := by simp only [maxLen]; omega
                  have hbd : (1 + (verts ls p es).length) * 8 ≤ 140737488355328 := by omega
                  have HBW := Lib.hid (KW.out.2.2.2.trans (b2.mono KW.out.2.2.2.size))
                  have HG := Lib.hid hg
                  have hwz := HBW.out.size
                  clear hg hnd hlt2 hel o2 b2 x0 x1 r0 r1
                  have VL := Lib.hid hlen
                  clear hlen
                  go_wp2_with (at_builtin; refine wpList_append_lies _ rfl (.tmp 68) (.tmp 69) 27 rfl w.heap.size 3 i0 (.int .i64 0) 1 8 Try.underlying27 hi0 hz0 hz1 hz2 rfl hpos (.slice (some ⟨w2.heap.size, 0, none⟩) 1 1) 1 [.int .i64 (i : Int)] rfl own1 ⟨g2, 0, none⟩ (verts ls p es).length c2 ((verts ls p es).map intV) rfl hnl hnews hone hpos2 hmax hbd ?_ (w2.heap.size + 1) ?_ ?_; (simp; omega); (simp); intro gg cap w3 hown3 hgrow hat hlt')
                  go_ret
                  have hv : verts ls i (k :: es) = (i : Int) :: verts ls p es := by show (i : Int) :: verts ls (other (limbAt ls k) i) es = _; rw [HNX.out]
                  refine .inl ⟨k :: es, goes_cons.2 ⟨⟨hlt, HT.out, hne⟩, by rw [HNX.out]; exact HG.out⟩, _, rfl, ?_, ?_⟩
                  · rw [hv]
                    exact ownI_front hown3
                  · exact (HBW.out.alloc hwz _).grown hgrow (by simp; omega) (fun k hk => by
                      have : w2.heap.size = k := by simpa [Value.ownBlock] using hk
                      omega)
                · obtain ⟨A2, c2, rfl⟩ := o2.slice
                  have NX' := Lib.hid (NX.out (fun es hg => hn es (by have := (goes_cons.1 hg).2; rwa [HNX.out] at this)))
                  have HB2 := Lib.hid (HB.out.trans (b2.mono hsz))
                  clear o2 b2 x0 x1 r0 r1
                  go_wp2
                  exact ⟨⟨k + 1, by omega, by go_num, HB2.out, NX'.out⟩, by simp [intOf]; omega⟩
            · have hqib : ((q : Int) == (i : Int)) = false := by simp; omega
              have NX' := Lib.hid (NX.out (fun es hg => by
                have := (goes_cons.1 hg).1.2.1
                unfold touches at this
                rw [hp, hq] at this
                omega))
              clear hpi hqi
              go_wp2
              exact ⟨⟨k + 1, by omega, by go_num, HB.out, NX'.out⟩, by simp [intOf]; omega⟩
        · obtain rfl : k = ls.length := by omega
          have O0 := Lib.hid (ownI_new wr w.heap.size wr.heap.size [] #[] rfl rfl (by omega) (by decide))
          go_wp2
          go_ret
          refine .inr ⟨fun es hg => ?_, _, rfl, O0.out, KW.out.2.2.2.alloc KW.out.2.2.2.size _⟩
          cases es with
          | nil => exact hij hg.1
          | cons t es => exact hno.out t es (goes_cons.1 hg).1.1 hg

/-- A valid body and two joints of it. -/
def joints (J i j : Int) (ls : List Lb) : Bool := bodyOk J ls && (inB i 0 (J - 1) && inB j 0 (J - 1))
set_option maxRecDepth 100000 in
set_option maxHeartbeats 800000 in
theorem joints_any (J i j : Int) (v : Value) (ls : List Lb) (base : Nat) (w : World) (hown : OwnL w base v ls) :
    Calls Try.prog 60 #[bodyV J v, .int .i64 i, .int .i64 j] w fun e w' => e = .returned (.bool (joints J i j ls)) ∧ Below w.heap.size w w' := by
  have CS := Lib.hid (fun W h => specOk J v ls base W h)
  have C2 := Lib.hid (fun v lo hi W => l01In_any v lo hi W)
  obtain ⟨A, c, e⟩ := hown.slice
  subst e
  have OWN := Lib.hid hown
  have BX := Lib.hid (box_facts (J := J) hown)
  clear hown
  unfold bodyV at CS ⊢
  cases hok : bodyOk J ls with
  | false =>
    rw [hok] at CS
    have HR := Lib.hid (show joints J i j ls = false by simp [joints, hok])
    clear hok
    go_enter Try.func60, Try.ntmps60
    go_wp2_with fail
    refine (CS.out _ (OWN.out.alloc _)).mono ?_
    rintro e w1 ⟨rfl, b1⟩
    simp only [World.size_alloc] at b1
    obtain ⟨x0, x1, -, bw⟩ := BX.out w1 b1
    clear b1
    go_wp2
    go_ret
    exact ⟨by rw [HR.out]; rfl, bw⟩
  | true =>
    rw [hok] at CS
    have HR := Lib.hid (show joints J i j ls = (inB i 0 (J - 1) && inB j 0 (J - 1)) by simp [joints, hok])
    obtain ⟨-, -, hJ1, hJ2⟩ := ok_len hok
    clear hok
    cases h1 : inB i 0 (J - 1)
    · rw [h1, Bool.false_and] at HR
      go_enter Try.func60, Try.ntmps60
      go_wp2_with fail
      refine (CS.out _ (OWN.out.alloc _)).mono ?_
      rintro e w1 ⟨rfl, b1⟩
      simp only [World.size_alloc] at b1
      obtain ⟨x0, x1, -, bw⟩ := BX.out w1 b1
      clear b1
      go_wp2_with (go_at_call 43; refine (C2.out _ _ _ _).mono ?_; rintro e w' ⟨rfl, rfl⟩)
      go_ret
      exact ⟨by rw [HR.out]; rfl, bw⟩
    · rw [h1, Bool.true_and] at HR
      go_enter Try.func60, Try.ntmps60
      go_wp2_with fail
      refine (CS.out _ (OWN.out.alloc _)).mono ?_
      rintro e w1 ⟨rfl, b1⟩
      simp only [World.size_alloc] at b1
      obtain ⟨x0, x1, -, bw⟩ := BX.out w1 b1
      clear b1
      go_wp2_with (go_at_call 43; refine (C2.out _ _ _ _).mono ?_; rintro e w' ⟨rfl, rfl⟩)
      go_ret
      exact ⟨by rw [HR.out]; rfl, bw⟩
end Go.Proofs.Ytblbmppbbhibeaa
