/- The contracts of impl.jointsWithString and PullsOk. Condition: the limbs and the numbers lie in rows of their own. -/
import Derived.Test.YtblbmppbbhibeaaImpOk
import Derived.Test.YtblbmppbbhibeaaPullS
import Derived.Test.YtblbmppbbhibeaaLstI
import Derived.Test.YtblbmppbbhibeaaStrM
import Derived.Deep.AppendLies
namespace Go.Proofs.Ytblbmppbbhibeaa
set_option linter.unusedVariables false
set_option linter.unusedSimpArgs false
open Go.RowKit

set_option maxRecDepth 100000 in
set_option maxHeartbeats 800000 in
theorem strings_any (vp : Value) (zs : List Int) (b2 : Nat) (w : World) (hp : OwnI w b2 vp zs) (hlz : zs.length ≤ 2000000) :
    Calls Try.prog 39 #[vp] w (IntsPost w (strs zs)) := by
  obtain ⟨i0, hi0, hz0, hz1, hz2⟩ := info_parts info_int
  have hpos : 0 < 1 := by omega
  obtain ⟨P, d, e⟩ := hp.slice
  subst e
  have HP := Lib.hid hp
  clear hp
  go_enter Try.func39, Try.ntmps39
  go_wp2_with fail
  go_loopw [3, 8] (fun ov iv wr => ∃ (k : Nat) (vo : Value), vo = ov ∧ k ≤ zs.length ∧ iv = .int .i64 (k : Int) ∧ OwnI wr w.heap.size vo (strsTo zs k) ∧ Below w.heap.size w wr) (fun _ iv _ => zs.length - (intOf iv).toNat)
  case atStart => exact ⟨0, _, rfl, by omega, rfl, ⟨rfl, .inl ⟨rfl, rfl⟩⟩, Below.refl _ _⟩
  case round =>
    obtain ⟨k, vo, rfl, hk, rfl, hown, hbel⟩ := hrel
    have HO := Lib.hid hown
    have HB := Lib.hid hbel
    have hsz := hbel.size
    by_cases hlt : k < zs.length
    · obtain ⟨g, _, e1, _, _, z0, _⟩ := (HP.out.below hbel).spot hlt
      simp only [Value.slice.injEq] at e1
      obtain ⟨rfl, em, rfl⟩ := e1
      clear em hbel
      have hk0 : (0 : Int) ≤ (k : Int) := by omega
      have hk1 : (k : Int) < (zs.length : Int) := by omega
      have SM := Lib.hid (strsTo_more zs k)
      rw [getD_of hlt] at SM
      have hlen := strsTo_len zs k
      have hmax : (strsTo zs k).length + 1 ≤ maxLen := by simp only [maxLen]; omega
      have hbd : ((strsTo zs k).length + 1) * 8 ≤ 140737488355328 := by omega
      generalize zs[k] = x at z0 SM
      by_cases hx : x = -1
      · have SM2 := Lib.hid (show strsTo zs (k + 1) = strsTo zs k by rw [SM.out, if_pos hx, List.append_nil])
        have dx : (x != -1) = false := by simpa using hx
        clear SM hx hown
        go_wp2
        exact ⟨⟨k + 1, vo, rfl, by omega, by go_num, by rw [SM2.out]; exact HO.out, HB.out⟩, by simp [intOf]; omega⟩
      · have SM2 := Lib.hid (show strsTo zs (k + 1) = strsTo zs k ++ [(k : Int)] by rw [SM.out, if_neg hx])
        have dx : (x != -1) = true := by simpa using hx
        clear SM hx hlen
        generalize strsTo zs k = ts at hown HO hmax hbd SM2
        go_wp2_with (at_builtin; refine wpList_append_lies _ rfl (.tmp 15) (.tmp 17) 27 rfl w.heap.size 3 i0 (.int .i64 0) 1 8 Try.underlying27 hi0 hz0 hz1 hz2 rfl hpos vo _ _ rfl (hown.alloc _) ⟨wr.heap.size, 0, none⟩ 1 1 [.int .i64 (k : Int)] rfl rfl (cell_one_new _ _ _) ?_ hpos hmax hbd ?_ (wr.heap.size + 1) ?_ ?_; (simp [Value.oneCell']); (simp; omega); (simp); intro gg cap w3 hown1 hgrow hat hlt')
        exact ⟨⟨k + 1, _, rfl, by omega, by go_num, (by rw [SM2.out]; exact ownI_snoc hown1), ints_snoc_below HB.out hsz HO.out hgrow⟩, by simp [intOf]; omega⟩
    · obtain rfl : k = zs.length := by omega
      clear hown hbel
      go_wp2
      go_ret
      exact ⟨_, rfl, HO.out, HB.out⟩

set_option maxRecDepth 100000 in
set_option maxHeartbeats 800000 in
theorem implPulls (J : Int) (v vp : Value) (ls : List Lb) (zs : List Int) (base b2 : Nat) (w : World) (hown : OwnL w base v ls) (hp : OwnI w b2 vp zs) (hl : ls.length ≤ 2000000) (hlz : zs.length ≤ 2000000) :
    Calls Try.prog 18 #[bodyV J v, vp] w fun e w' => e = .returned (.bool (pullsOk J ls zs)) ∧ Below w.heap.size w w' := by
  have CS := Lib.hid (fun W h => implOk J v ls base W h hl)
  obtain ⟨A, c, e⟩ := hown.slice
  subst e
  have CL := Lib.hid (fun W h => isList_any J A ls.length c vp zs (-1) 500 b2 W h hlz)
  have CT := Lib.hid (fun W h => strings_any vp zs b2 W h hlz)
  obtain ⟨P, d, e⟩ := hp.slice
  subst e
  have OWN := Lib.hid hown
  have HP := Lib.hid hp
  have BX := Lib.hid (box_facts (J := J) hown)
  clear hown hp
  unfold bodyV at CS ⊢
  cases hok : bodyOk J ls with
  | false =>
    rw [hok] at CS
    have R := Lib.hid (show pullsOk J ls zs = false by unfold pullsOk; rw [hok]; rfl)
    clear hok
    go_enter Try.func18, Try.ntmps18
    go_wp2_with fail
    refine (CS.out _ (OWN.out.alloc _)).mono ?_
    rintro e w1 ⟨rfl, b1⟩
    simp only [World.size_alloc] at b1
    obtain ⟨x0, x1, -, bw⟩ := BX.out w1 b1
    clear b1
    go_wp2
    go_ret
    exact ⟨by rw [R.out]; rfl, bw⟩
  | true =>
    rw [hok] at CS
    have R := Lib.hid (show pullsOk J ls zs = (listB J zs (-1) 500 && zs.any pulled) by unfold pullsOk listB; rw [hok, Bool.true_and, Bool.and_assoc])
    have PA := Lib.hid (fun h => pulled_any (zs := zs) h)
    have LA := Lib.hid (show listB J zs (-1) 500 = true → zs.all (inRange (-1) 500) = true by unfold listB; intro h; exact (Bool.and_eq_true_iff.1 h).2)
    clear hok
    cases hlb : listB J zs (-1) 500 with
    | false =>
      rw [hlb] at CL R
      clear hlb LA PA
      go_enter Try.func18, Try.ntmps18
      go_wp2_with fail
      refine (CS.out _ (OWN.out.alloc _)).mono ?_
      rintro e w1 ⟨rfl, b1⟩
      simp only [World.size_alloc] at b1
      have hs1 := b1.size
      simp only [World.size_alloc] at hs1
      have B1 := Lib.hid b1
      obtain ⟨x0, x1, -, bw⟩ := BX.out w1 b1
      have P1 := Lib.hid (HP.out.below bw)
      clear b1 bw
      go_wp2_with fail
      refine (CL.out _ P1.out).mono ?_
      rintro e w2 ⟨rfl, b2⟩
      have B2 := Lib.hid (B1.out.trans (b2.mono hs1))
      clear b2 x0 x1
      obtain ⟨x0, x1, -, bw⟩ := BX.out w2 B2.out
      go_wp2
      go_ret
      exact ⟨by rw [R.out]; rfl, bw⟩
    | true =>
      have PB := Lib.hid (PA.out (LA.out hlb))
      rw [hlb, ← PB.out] at R
      rw [hlb] at CL
      have R2 := Lib.hid (show pullsOk J ls zs = decide (0 < (strs zs).length) from R.out)
      clear hlb LA PA PB R
      go_enter Try.func18, Try.ntmps18
      go_wp2_with fail
      refine (CS.out _ (OWN.out.alloc _)).mono ?_
      rintro e w1 ⟨rfl, b1⟩
      simp only [World.size_alloc] at b1
      have hs1 := b1.size
      simp only [World.size_alloc] at hs1
      have B1 := Lib.hid b1
      obtain ⟨x0, x1, -, bw⟩ := BX.out w1 b1
      have P1 := Lib.hid (HP.out.below bw)
      clear b1 bw
      go_wp2_with fail
      refine (CL.out _ P1.out).mono ?_
      rintro e w2 ⟨rfl, b2⟩
      have P2 := Lib.hid (P1.out.below b2)
      have B2 := Lib.hid (B1.out.trans (b2.mono hs1))
      clear b2 x0 x1
      have hs2 := B2.out.size
      simp only [World.size_alloc] at hs2
      go_wp2_with fail
      refine (CT.out _ P2.out).mono ?_
      rintro e w3 ⟨vs, rfl, o3, b3⟩
      obtain ⟨S, cs, rfl⟩ := o3.slice
      have B3 := Lib.hid (B2.out.trans (b3.mono hs2))
      clear b3 o3
      obtain ⟨-, -, -, bw⟩ := BX.out w3 B3.out
      go_wp2
      go_ret
      exact ⟨by rw [R2.out]; rfl, bw⟩
end Go.Proofs.Ytblbmppbbhibeaa
