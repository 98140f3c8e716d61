/- The drawing of a line: it returns some text that is not long. Condition: at most 1048576 bytes of draws. -/
import Derived.Test.YtmcdjppppnmomaaDoorText
import Derived.Test.YtmcdjppppnmomaaDoorDig
namespace Go.Proofs.YtmcdjppppnmomaaDoor
open Go.RowKit

theorem pick_any (w0 : World) (a : Option Addr) (n cap : Nat) (z : List Int) (hr : IsRow .u8 w0 a n cap z) (w : World) (b : Nat) (hs : St w0 a n cap w b)
    (g : Nat) (L : List ByteArray) (hl : 0 < L.length) (hm : L.length ≤ 1000) (hne : g ≠ b) (hg : w.heap[g]? = some (.cells (L.map Value.string).toArray 9 (0, 0))) :
    Calls Tryd.prog 30 #[.pointer (some ⟨b, 0, none⟩), .slice (some ⟨g, 0, none⟩) L.length L.length] w fun e w' => (∃ t : ByteArray, e = .returned (.string t) ∧ t ∈ L ∧ St w0 a n cap w' b ∧ w.grownBy w' (some b)) := by
  have C := Lib.hid (below_any w0 a n cap z hr)
  clear hr
  show Calls _ _ _ _ (fun e w' => Hid (∃ t : ByteArray, e = .returned (.string t) ∧ t ∈ L ∧ St w0 a n cap w' b ∧ w.grownBy w' (some b)))
  go_enter Tryd.func30, Tryd.ntmps30
  go_wp2_with fail
  refine (C.out _ _ hs _).mono ?_
  rintro e w1 ⟨x, rfl, ⟨hx0, hx1, _⟩, hs1, hg1⟩
  have hx2 := hx1 (by omega)
  clear hx1
  obtain ⟨j, rfl⟩ := Int.eq_ofNat_of_zero_le hx0
  have hj : j < L.length := by omega
  have hgl : g < w.heap.size := (Array.getElem?_eq_some_iff.1 hg).1
  have hc : w1.cell? ⟨g, j, none⟩ = some (.string L[j]) := by
    rw [World.cell?_of_block (hg1.block g hgl (by simp; omega)), cell_of_row w g j _ _ _ hg]
    simp [hj]
  have hin : L[j] ∈ L := List.getElem_mem _
  generalize L[j] = y at hc hin
  go_wp2
  go_ret
  exact ⟨_, rfl, hin, hs1, hg1⟩

theorem conv_char (w : World) (x : Int) (h0 : 0 ≤ x) (h1 : x < 256) : ∃ c : UInt8,
    (convert 22 9 (.slice (some ⟨w.heap.size, 0, none⟩) 1 1)).run Tryd.prog (w.alloc (.cells #[.int .u8 x] 5)) = .ok (.string ⟨#[c]⟩) (w.alloc (.cells #[.int .u8 x] 5)) :=
  ⟨_, conv_one w x h0 h1⟩
theorem St.belowAll {w0 w w' : World} {a : Option Addr} {n cap b : Nat} (h : St w0 a n cap w b) (hb : Below w.heap.size w w') : St w0 a n cap w' b := by
  obtain ⟨i, x, h0, h1, hc⟩ := h.cur
  exact ⟨h.below.trans (hb.mono h.below.size), h.own, i, x, h0, h1, (hb.block b h.cur.lt).trans hc⟩

set_option maxRecDepth 100000 in
set_option maxHeartbeats 4000000 in
theorem drawSplitFields (w : World) (a : Option Addr) (n cap : Nat) (z : List Int) (hr : IsRow .u8 w a n cap z) (hn : n ≤ 1048576) :
    Calls Tryd.prog 15 #[.slice a n cap] w (TextPost w) := by
  have N := Lib.hid (new_any w a n cap z hr hn)
  have O := Lib.hid (once_any w a n cap z hr)
  have B := Lib.hid (below_any w a n cap z hr)
  have P := Lib.hid (pick_any w a n cap z hr)
  clear hr
  go_enter Tryd.func15, Tryd.ntmps15
  go_wp2_with fail
  refine N.out.mono ?_
  rintro e w1 ⟨b, rfl, s1⟩
  go_wp2_with fail
  refine (B.out _ _ s1 _).mono ?_
  rintro e w2 ⟨x2, rfl, ⟨l2, u2, _⟩, s2, _⟩
  have u2 := u2 (by omega)
  go_wp2_with fail
  refine (O.out _ _ s2 _).mono ?_
  rintro e w3 ⟨x3, rfl, s3, _⟩
  cases x3
  · have sK := s3
    have q0 := l2
    have q1 : x2 ≤ 25 := by omega
    clear s3 s2 s1 u2
    go_wp2_with fail
    generalize x2 = NN at q0 q1 ⊢
    obtain ⟨m, rfl⟩ := Int.eq_ofNat_of_zero_le q0
    go_loopw [5, 6] (fun sv iv wr => ∃ (i : Nat) (s : ByteArray), iv = .int .i64 i ∧ sv = .string s ∧ i ≤ m ∧ s.size ≤ 8 * i ∧ St w a n cap wr b) (fun _ iv _ => m - (intOf iv).toNat)
    case atStart => exact ⟨0, _, rfl, rfl, by omega, by decide, sK⟩
    case round =>
      obtain ⟨i, s, rfl, rfl, him, hsz, hst⟩ := hrel
      clear sK
      by_cases hlt : i < m
      · have hsb : s.size ≤ 1000 := by omega
        by_cases hi : (0 : Int) < (i : Int)
        · go_wp2_with fail
          refine (B.out _ _ hst _).mono ?_
          rintro e w8 ⟨x, rfl, ⟨lx, ux, _⟩, s8, _⟩
          have ux := ux (by omega)
          go_wp2_with fail
          refine (B.out _ _ s8 _).mono ?_
          rintro e w9 ⟨y, rfl, ⟨ly, uy, _⟩, s9, _⟩
          have uy := uy (by omega)
          have hxy : 0 ≤ x * y ∧ x * y ≤ 2 := by rcases (show x = 0 ∨ x = 1 by omega) with h | h <;> subst h <;> omega
          generalize hp : x * y = p at hxy
          have hw : wrap64 (x * y) = p := by rw [hp]; unfold wrap64; omega
          clear hp
          go_wp2_with fail
          refine (long_at _ _ (by omega) (by omega) (by omega) (by omega) _).mono ?_
          rintro e w10 ⟨rfl, b10⟩
          have hlz := longStr_size (1 + p).toNat (UInt8.ofNat (32 : Int).toNat)
          generalize longStr (1 + p).toNat (UInt8.ofNat (32 : Int).toNat) = u at hlz ⊢
          have hlu : u.size ≤ 3 := by omega
          have s10 := s9.belowAll b10
          clear hlz hw
          go_wp2_with fail
          go_loopw [5, 7] (fun sv kv wq => ∃ (k : Nat) (t : ByteArray), kv = .int .i64 k ∧ sv = .string t ∧ k ≤ 5 ∧ t.size ≤ 8 * i + 3 + k ∧ St w a n cap wq b) (fun _ kv _ => 5 - (intOf kv).toNat)
          case atStart => exact ⟨0, _, rfl, rfl, by omega, by rw [ByteArray.size_append]; omega, s10⟩
          case round =>
            obtain ⟨k, t, rfl, rfl, hk5, htz, hq⟩ := hrel
            have htb : t.size ≤ 1000 := by omega
            go_wp2_with fail
            refine (B.out _ _ hq _).mono ?_
            rintro e w6 ⟨y, rfl, ⟨ly, uy, _⟩, s6, _⟩
            have uy := uy (by omega)
            by_cases hky : (k : Int) ≤ y
            · go_wp2_with fail
              refine (B.out _ _ s6 _).mono ?_
              rintro e w7 ⟨v, rfl, ⟨lv, uv, _⟩, s7, _⟩
              have uv := uv (by omega)
              obtain ⟨c, hc⟩ := conv_char w7 (33 + v) (by omega) (by omega)
              go_wp2
              exact ⟨⟨k + 1, t ++ ⟨#[c]⟩, by go_num, rfl, by omega, by rw [ByteArray.size_append]; show t.size + 1 ≤ _; omega, s7.alloc _⟩, by simp [intOf]; omega⟩
            · go_wp2
              exact ⟨⟨i + 1, t, by go_num, rfl, by omega, by omega, s6⟩, by simp [intOf]; omega⟩
        · have hi0 : i = 0 := by omega
          subst hi0
          go_wp2_with fail
          refine (O.out _ _ hst _).mono ?_
          rintro e w5 ⟨x5, rfl, s5, _⟩
          cases x5
          · go_wp2_with fail
            go_loopw [5, 7] (fun sv kv wq => ∃ (k : Nat) (t : ByteArray), kv = .int .i64 k ∧ sv = .string t ∧ k ≤ 5 ∧ t.size ≤ 8 * 0 + 3 + k ∧ St w a n cap wq b) (fun _ kv _ => 5 - (intOf kv).toNat)
            case atStart => exact ⟨0, _, rfl, rfl, by omega, by omega, s5⟩
            case round =>
              obtain ⟨k, t, rfl, rfl, hk5, htz, hq⟩ := hrel
              have htb : t.size ≤ 1000 := by omega
              go_wp2_with fail
              refine (B.out _ _ hq _).mono ?_
              rintro e w6 ⟨y, rfl, ⟨ly, uy, _⟩, s6, _⟩
              have uy := uy (by omega)
              by_cases hky : (k : Int) ≤ y
              · go_wp2_with fail
                refine (B.out _ _ s6 _).mono ?_
                rintro e w7 ⟨v, rfl, ⟨lv, uv, _⟩, s7, _⟩
                have uv := uv (by omega)
                obtain ⟨c, hc⟩ := conv_char w7 (33 + v) (by omega) (by omega)
                go_wp2
                exact ⟨⟨k + 1, t ++ ⟨#[c]⟩, by go_num, rfl, by omega, by rw [ByteArray.size_append]; show t.size + 1 ≤ _; omega, s7.alloc _⟩, by simp [intOf]; omega⟩
              · go_wp2
                exact ⟨⟨0 + 1, t, by go_num, rfl, by omega, by omega, s6⟩, by simp [intOf]; omega⟩
          · go_wp2_with fail
            refine (B.out _ _ s5 _).mono ?_
            rintro e w8 ⟨x, rfl, ⟨lx, ux, _⟩, s8, _⟩
            have ux := ux (by omega)
            go_wp2_with fail
            refine (B.out _ _ s8 _).mono ?_
            rintro e w9 ⟨y, rfl, ⟨ly, uy, _⟩, s9, _⟩
            have uy := uy (by omega)
            have hxy : 0 ≤ x * y ∧ x * y ≤ 2 := by rcases (show x = 0 ∨ x = 1 by omega) with h | h <;> subst h <;> omega
            generalize hp : x * y = p at hxy
            have hw : wrap64 (x * y) = p := by rw [hp]; unfold wrap64; omega
            clear hp
            go_wp2_with fail
            refine (long_at _ _ (by omega) (by omega) (by omega) (by omega) _).mono ?_
            rintro e w10 ⟨rfl, b10⟩
            have hlz := longStr_size (1 + p).toNat (UInt8.ofNat (32 : Int).toNat)
            generalize longStr (1 + p).toNat (UInt8.ofNat (32 : Int).toNat) = u at hlz ⊢
            have hlu : u.size ≤ 3 := by omega
            have s10 := s9.belowAll b10
            clear hlz hw
            go_wp2_with fail
            go_loopw [5, 7] (fun sv kv wq => ∃ (k : Nat) (t : ByteArray), kv = .int .i64 k ∧ sv = .string t ∧ k ≤ 5 ∧ t.size ≤ 8 * 0 + 3 + k ∧ St w a n cap wq b) (fun _ kv _ => 5 - (intOf kv).toNat)
            case atStart => exact ⟨0, _, rfl, rfl, by omega, by rw [ByteArray.size_append]; omega, s10⟩
            case round =>
              obtain ⟨k, t, rfl, rfl, hk5, htz, hq⟩ := hrel
              have htb : t.size ≤ 1000 := by omega
              go_wp2_with fail
              refine (B.out _ _ hq _).mono ?_
              rintro e w6 ⟨y, rfl, ⟨ly, uy, _⟩, s6, _⟩
              have uy := uy (by omega)
              by_cases hky : (k : Int) ≤ y
              · go_wp2_with fail
                refine (B.out _ _ s6 _).mono ?_
                rintro e w7 ⟨v, rfl, ⟨lv, uv, _⟩, s7, _⟩
                have uv := uv (by omega)
                obtain ⟨c, hc⟩ := conv_char w7 (33 + v) (by omega) (by omega)
                go_wp2
                exact ⟨⟨k + 1, t ++ ⟨#[c]⟩, by go_num, rfl, by omega, by rw [ByteArray.size_append]; show t.size + 1 ≤ _; omega, s7.alloc _⟩, by simp [intOf]; omega⟩
              · go_wp2
                exact ⟨⟨0 + 1, t, by go_num, rfl, by omega, by omega, s6⟩, by simp [intOf]; omega⟩
      · have hsb : s.size ≤ 1000 := by omega
        go_wp2_with fail
        refine (B.out _ _ hst _).mono ?_
        rintro e w11 ⟨x, rfl, ⟨lx, ux, _⟩, s11, _⟩
        have ux := ux (by omega)
        by_cases h0 : x = 0
        · subst h0
          go_wp2_with fail
          refine (P.out _ _ (s11.alloc _) _ [⟨#[32]⟩, ⟨#[32, 32]⟩, ⟨#[9]⟩, ⟨#[10]⟩, ⟨#[127]⟩, ⟨#[233]⟩] (by decide) (by decide) (Nat.ne_of_gt s11.cur.lt) (heap_alloc_new w11 _)).mono ?_
          rintro e w12 ⟨t, rfl, ht, s12, _⟩
          have htz : t.size ≤ 2 := by
            simp only [List.mem_cons, List.not_mem_nil, or_false] at ht
            rcases ht with h | h | h | h | h | h <;> subst h <;> decide
          clear ht
          go_wp2
          go_ret
          exact ⟨s ++ t, rfl, by rw [ByteArray.size_append]; omega, s12.below⟩
        · have e0 : (x == 0) = false := by simpa using h0
          by_cases h1 : x = 1
          · subst h1
            by_cases hl : s.size < 600
            · go_wp2_with fail
              refine (B.out _ _ s11 _).mono ?_
              rintro e w12 ⟨y, rfl, ⟨ly, uy, _⟩, s12, _⟩
              have uy := uy (by omega)
              go_wp2_with fail
              refine (long_at _ _ (by omega) (by omega) (by omega) (by omega) _).mono ?_
              rintro e w13 ⟨rfl, b13⟩
              have hlz := longStr_size (600 - (s.size : Int) + y).toNat (UInt8.ofNat (32 : Int).toNat)
              generalize longStr (600 - (s.size : Int) + y).toNat (UInt8.ofNat (32 : Int).toNat) = u at hlz ⊢
              have hlu : u.size ≤ 2000 := by omega
              have s13 := s12.belowAll b13
              clear hlz
              go_wp2
              go_ret
              exact ⟨s ++ u, rfl, by rw [ByteArray.size_append]; omega, s13.below⟩
            · exfalso
              omega
          · have e1 : (x == 1) = false := by simpa using h1
            go_wp2
            go_ret
            exact ⟨s, rfl, by omega, s11.below⟩
  · go_wp2_with fail
    refine (B.out _ _ s3 _).mono ?_
    rintro e w4 ⟨x4, rfl, ⟨l4, u4, _⟩, s4, _⟩
    have sK := s4
    have q0 : 0 ≤ 24 + x4 := by omega
    have q1 : 24 + x4 ≤ 25 := by have := u4 (by omega); omega
    clear s4 s3 s2 s1 u2 u4
    go_wp2_with fail
    generalize 24 + x4 = NN at q0 q1 ⊢
    obtain ⟨m, rfl⟩ := Int.eq_ofNat_of_zero_le q0
    go_loopw [5, 6] (fun sv iv wr => ∃ (i : Nat) (s : ByteArray), iv = .int .i64 i ∧ sv = .string s ∧ i ≤ m ∧ s.size ≤ 8 * i ∧ St w a n cap wr b) (fun _ iv _ => m - (intOf iv).toNat)
    case atStart => exact ⟨0, _, rfl, rfl, by omega, by decide, sK⟩
    case round =>
      obtain ⟨i, s, rfl, rfl, him, hsz, hst⟩ := hrel
      clear sK
      by_cases hlt : i < m
      · have hsb : s.size ≤ 1000 := by omega
        by_cases hi : (0 : Int) < (i : Int)
        · go_wp2_with fail
          refine (B.out _ _ hst _).mono ?_
          rintro e w8 ⟨x, rfl, ⟨lx, ux, _⟩, s8, _⟩
          have ux := ux (by omega)
          go_wp2_with fail
          refine (B.out _ _ s8 _).mono ?_
          rintro e w9 ⟨y, rfl, ⟨ly, uy, _⟩, s9, _⟩
          have uy := uy (by omega)
          have hxy : 0 ≤ x * y ∧ x * y ≤ 2 := by rcases (show x = 0 ∨ x = 1 by omega) with h | h <;> subst h <;> omega
          generalize hp : x * y = p at hxy
          have hw : wrap64 (x * y) = p := by rw [hp]; unfold wrap64; omega
          clear hp
          go_wp2_with fail
          refine (long_at _ _ (by omega) (by omega) (by omega) (by omega) _).mono ?_
          rintro e w10 ⟨rfl, b10⟩
          have hlz := longStr_size (1 + p).toNat (UInt8.ofNat (32 : Int).toNat)
          generalize longStr (1 + p).toNat (UInt8.ofNat (32 : Int).toNat) = u at hlz ⊢
          have hlu : u.size ≤ 3 := by omega
          have s10 := s9.belowAll b10
          clear hlz hw
          go_wp2_with fail
          go_loopw [5, 7] (fun sv kv wq => ∃ (k : Nat) (t : ByteArray), kv = .int .i64 k ∧ sv = .string t ∧ k ≤ 5 ∧ t.size ≤ 8 * i + 3 + k ∧ St w a n cap wq b) (fun _ kv _ => 5 - (intOf kv).toNat)
          case atStart => exact ⟨0, _, rfl, rfl, by omega, by rw [ByteArray.size_append]; omega, s10⟩
          case round =>
            obtain ⟨k, t, rfl, rfl, hk5, htz, hq⟩ := hrel
            have htb : t.size ≤ 1000 := by omega
            go_wp2_with fail
            refine (B.out _ _ hq _).mono ?_
            rintro e w6 ⟨y, rfl, ⟨ly, uy, _⟩, s6, _⟩
            have uy := uy (by omega)
            by_cases hky : (k : Int) ≤ y
            · go_wp2_with fail
              refine (B.out _ _ s6 _).mono ?_
              rintro e w7 ⟨v, rfl, ⟨lv, uv, _⟩, s7, _⟩
              have uv := uv (by omega)
              obtain ⟨c, hc⟩ := conv_char w7 (33 + v) (by omega) (by omega)
              go_wp2
              exact ⟨⟨k + 1, t ++ ⟨#[c]⟩, by go_num, rfl, by omega, by rw [ByteArray.size_append]; show t.size + 1 ≤ _; omega, s7.alloc _⟩, by simp [intOf]; omega⟩
            · go_wp2
              exact ⟨⟨i + 1, t, by go_num, rfl, by omega, by omega, s6⟩, by simp [intOf]; omega⟩
        · have hi0 : i = 0 := by omega
          subst hi0
          go_wp2_with fail
          refine (O.out _ _ hst _).mono ?_
          rintro e w5 ⟨x5, rfl, s5, _⟩
          cases x5
          · go_wp2_with fail
            go_loopw [5, 7] (fun sv kv wq => ∃ (k : Nat) (t : ByteArray), kv = .int .i64 k ∧ sv = .string t ∧ k ≤ 5 ∧ t.size ≤ 8 * 0 + 3 + k ∧ St w a n cap wq b) (fun _ kv _ => 5 - (intOf kv).toNat)
            case atStart => exact ⟨0, _, rfl, rfl, by omega, by omega, s5⟩
            case round =>
              obtain ⟨k, t, rfl, rfl, hk5, htz, hq⟩ := hrel
              have htb : t.size ≤ 1000 := by omega
              go_wp2_with fail
              refine (B.out _ _ hq _).mono ?_
              rintro e w6 ⟨y, rfl, ⟨ly, uy, _⟩, s6, _⟩
              have uy := uy (by omega)
              by_cases hky : (k : Int) ≤ y
              · go_wp2_with fail
                refine (B.out _ _ s6 _).mono ?_
                rintro e w7 ⟨v, rfl, ⟨lv, uv, _⟩, s7, _⟩
                have uv := uv (by omega)
                obtain ⟨c, hc⟩ := conv_char w7 (33 + v) (by omega) (by omega)
                go_wp2
                exact ⟨⟨k + 1, t ++ ⟨#[c]⟩, by go_num, rfl, by omega, by rw [ByteArray.size_append]; show t.size + 1 ≤ _; omega, s7.alloc _⟩, by simp [intOf]; omega⟩
              · go_wp2
                exact ⟨⟨0 + 1, t, by go_num, rfl, by omega, by omega, s6⟩, by simp [intOf]; omega⟩
          · go_wp2_with fail
            refine (B.out _ _ s5 _).mono ?_
            rintro e w8 ⟨x, rfl, ⟨lx, ux, _⟩, s8, _⟩
            have ux := ux (by omega)
            go_wp2_with fail
            refine (B.out _ _ s8 _).mono ?_
            rintro e w9 ⟨y, rfl, ⟨ly, uy, _⟩, s9, _⟩
            have uy := uy (by omega)
            have hxy : 0 ≤ x * y ∧ x * y ≤ 2 := by rcases (show x = 0 ∨ x = 1 by omega) with h | h <;> subst h <;> omega
            generalize hp : x * y = p at hxy
            have hw : wrap64 (x * y) = p := by rw [hp]; unfold wrap64; omega
            clear hp
            go_wp2_with fail
            refine (long_at _ _ (by omega) (by omega) (by omega) (by omega) _).mono ?_
            rintro e w10 ⟨rfl, b10⟩
            have hlz := longStr_size (1 + p).toNat (UInt8.ofNat (32 : Int).toNat)
            generalize longStr (1 + p).toNat (UInt8.ofNat (32 : Int).toNat) = u at hlz ⊢
            have hlu : u.size ≤ 3 := by omega
            have s10 := s9.belowAll b10
            clear hlz hw
            go_wp2_with fail
            go_loopw [5, 7] (fun sv kv wq => ∃ (k : Nat) (t : ByteArray), kv = .int .i64 k ∧ sv = .string t ∧ k ≤ 5 ∧ t.size ≤ 8 * 0 + 3 + k ∧ St w a n cap wq b) (fun _ kv _ => 5 - (intOf kv).toNat)
            case atStart => exact ⟨0, _, rfl, rfl, by omega, by rw [ByteArray.size_append]; omega, s10⟩
            case round =>
              obtain ⟨k, t, rfl, rfl, hk5, htz, hq⟩ := hrel
              have htb : t.size ≤ 1000 := by omega
              go_wp2_with fail
              refine (B.out _ _ hq _).mono ?_
              rintro e w6 ⟨y, rfl, ⟨ly, uy, _⟩, s6, _⟩
              have uy := uy (by omega)
              by_cases hky : (k : Int) ≤ y
              · go_wp2_with fail
                refine (B.out _ _ s6 _).mono ?_
                rintro e w7 ⟨v, rfl, ⟨lv, uv, _⟩, s7, _⟩
                have uv := uv (by omega)
                obtain ⟨c, hc⟩ := conv_char w7 (33 + v) (by omega) (by omega)
                go_wp2
                exact ⟨⟨k + 1, t ++ ⟨#[c]⟩, by go_num, rfl, by omega, by rw [ByteArray.size_append]; show t.size + 1 ≤ _; omega, s7.alloc _⟩, by simp [intOf]; omega⟩
              · go_wp2
                exact ⟨⟨0 + 1, t, by go_num, rfl, by omega, by omega, s6⟩, by simp [intOf]; omega⟩
      · have hsb : s.size ≤ 1000 := by omega
        go_wp2_with fail
        refine (B.out _ _ hst _).mono ?_
        rintro e w11 ⟨x, rfl, ⟨lx, ux, _⟩, s11, _⟩
        have ux := ux (by omega)
        by_cases h0 : x = 0
        · subst h0
          go_wp2_with fail
          refine (P.out _ _ (s11.alloc _) _ [⟨#[32]⟩, ⟨#[32, 32]⟩, ⟨#[9]⟩, ⟨#[10]⟩, ⟨#[127]⟩, ⟨#[233]⟩] (by decide) (by decide) (Nat.ne_of_gt s11.cur.lt) (heap_alloc_new w11 _)).mono ?_
          rintro e w12 ⟨t, rfl, ht, s12, _⟩
          have htz : t.size ≤ 2 := by
            simp only [List.mem_cons, List.not_mem_nil, or_false] at ht
            rcases ht with h | h | h | h | h | h <;> subst h <;> decide
          clear ht
          go_wp2
          go_ret
          exact ⟨s ++ t, rfl, by rw [ByteArray.size_append]; omega, s12.below⟩
        · have e0 : (x == 0) = false := by simpa using h0
          by_cases h1 : x = 1
          · subst h1
            by_cases hl : s.size < 600
            · go_wp2_with fail
              refine (B.out _ _ s11 _).mono ?_
              rintro e w12 ⟨y, rfl, ⟨ly, uy, _⟩, s12, _⟩
              have uy := uy (by omega)
              go_wp2_with fail
              refine (long_at _ _ (by omega) (by omega) (by omega) (by omega) _).mono ?_
              rintro e w13 ⟨rfl, b13⟩
              have hlz := longStr_size (600 - (s.size : Int) + y).toNat (UInt8.ofNat (32 : Int).toNat)
              generalize longStr (600 - (s.size : Int) + y).toNat (UInt8.ofNat (32 : Int).toNat) = u at hlz ⊢
              have hlu : u.size ≤ 2000 := by omega
              have s13 := s12.belowAll b13
              clear hlz
              go_wp2
              go_ret
              exact ⟨s ++ u, rfl, by rw [ByteArray.size_append]; omega, s13.below⟩
            · exfalso
              omega
          · have e1 : (x == 1) = false := by simpa using h1
            go_wp2
            go_ret
            exact ⟨s, rfl, by omega, s11.below⟩
end Go.Proofs.YtmcdjppppnmomaaDoor
