/- The walk of the law FenwicksFind. -/
import Derived.Test.YthdohijhioocgaaLaw1W
namespace Go.Proofs.Ythdohijhioocgaa
open Go.RowKit

set_option maxRecDepth 100000 in
set_option maxHeartbeats 1000000 in
theorem law3_long (hL : LivesOk) (A : Option Addr) (c : Nat) (zs : List Int) (i : Int) (w : World) (hl : 60 < zs.length) (hl2 : zs.length ≤ 9223372036854775807) :
    Calls Try.prog 5 #[.slice A zs.length c, .int .i64 i] w fun e w' => e = .returned (.bool true) ∧ Below w.heap.size w w' := by
  have HL := Lib.hid hL; clear hL
  go_enter Try.func5, Try.ntmps5
  go_wp2_with fail
  refine (HL.out _).mono ?_
  rintro e w1 ⟨rfl, hb⟩
  go_wp2_with fail
  go_ret
  exact ⟨rfl, hb⟩
set_option maxRecDepth 100000 in
set_option maxHeartbeats 1000000 in
theorem law3_bad (hL : LivesOk) (A : Option Addr) (c : Nat) (zs : List Int) (i : Int) (w : World) (hr : RdI w w.heap.size A zs) (hl : zs.length ≤ 60) (h0 : chk zs ≠ 0) :
    Calls Try.prog 5 #[.slice A zs.length c, .int .i64 i] w fun e w' => e = .returned (.bool true) ∧ Below w.heap.size w w' := by
  have HL := Lib.hid hL; clear hL
  have h10 := Lib.hid (refCheck_any A c zs w hr (by omega))
  clear hr
  generalize chk zs = r at *
  have b1 : (r == 0) = false := by simpa using h0
  have b2 : (r != 0) = true := by simpa using h0
  clear h0
  go_enter Try.func5, Try.ntmps5
  go_wp2_with fail
  refine h10.out.mono ?_
  rintro e w' ⟨rfl, rfl⟩
  go_wp2_with fail
  refine (HL.out _).mono ?_
  rintro e w1 ⟨rfl, hb⟩
  go_wp2_with fail
  go_ret
  exact ⟨rfl, hb⟩

/-- what Find and the reference say of an offset -/
def Tell (l : List Int) (A : Option Addr) (c b : Nat) (x : Int) (w : World) : Prop :=
  ((x < 0 ∨ pre l l.length ≤ x) ∧ Calls Try.prog 20 #[.pointer (some ⟨b, 0, none⟩), .int .i64 x] w fun e w' => e = .returned (.tuple #[.int .i64 0, .int .i64 0, .int .i64 4]) ∧ w = w') ∨
  ((0 ≤ x ∧ x < pre l l.length) ∧ ∃ i r : Int, (Calls Try.prog 20 #[.pointer (some ⟨b, 0, none⟩), .int .i64 x] w fun e w' => e = .returned (.tuple #[.int .i64 i, .int .i64 r, .int .i64 0]) ∧ w = w') ∧
    (Calls Try.prog 21 #[.slice A l.length c, .int .i64 x] w fun e w' => e = .returned (.tuple #[.int .i64 i, .int .i64 r]) ∧ w = w'))
theorem place_of {l : List Int} (x : Int) (h0 : 0 ≤ x) (h1 : x < pre l l.length) : ∃ i, Place l x i := by
  have : ∀ n, n ≤ l.length → x < pre l n → ∃ i, Place l x i := by
    intro n
    induction n with
    | zero => intro _ h; rw [pre_zero] at h; omega
    | succ n ih =>
      intro hn h
      by_cases hx : x < pre l n
      · exact ih (by omega) hx
      · exact ⟨n, hn, by omega, h⟩
  exact this l.length (Nat.le_refl _) h1
theorem tell_any {w : World} {b S : Nat} {l s : List Int} (h : Tr w b S l s) (A : Option Addr) (c : Nat) (hr : RdI w w.heap.size A l) (x : Int) : Tell l A c b x w := by
  by_cases hx : x < 0 ∨ pre l l.length ≤ x
  · exact .inl ⟨hx, find_out h x hx⟩
  · have h0 : 0 ≤ x := by omega
    have h1 : x < pre l l.length := by omega
    obtain ⟨i, hp⟩ := place_of x h0 h1
    refine .inr ⟨⟨h0, h1⟩, i, x - pre l i, find_at h x i hp _ rfl, (refFind_any A c l w hr h.vd x h0 h1).mono ?_⟩
    rintro e w' ⟨j, hj, rfl, hw⟩
    obtain rfl := hj.uniq (fun k hk => (h.vd.each k hk).1) hp
    exact ⟨rfl, hw⟩

set_option maxRecDepth 100000 in
set_option maxHeartbeats 4000000 in
theorem law3_ok (hL : LivesOk) (A : Option Addr) (c : Nat) (zs : List Int) (x : Int) (w : World) (hr : RdI w w.heap.size A zs) (hl : zs.length ≤ 60) (h0 : chk zs = 0) :
    Calls Try.prog 5 #[.slice A zs.length c, .int .i64 x] w fun e w' => e = .returned (.bool true) ∧ Below w.heap.size w w' := by
  have HL := Lib.hid hL; clear hL
  have hv := chk_zero.1 h0
  have h10 := Lib.hid (refCheck_any A c zs w hr (by omega))
  have h11 := Lib.hid (new_ok A c zs w hr hv)
  rw [h0] at h10
  have HR := Lib.hid hr
  have HV := Lib.hid hv
  clear hr hv h0
  have d60 : decide (60 < zs.length) = false := by simpa using hl
  go_enter Try.func5, Try.ntmps5
  go_wp2_with fail
  refine h10.out.mono ?_
  rintro e w' ⟨rfl, rfl⟩
  go_wp2_with fail
  refine h11.out.mono ?_
  rintro e w1 ⟨b, S, s, rfl, hT, hb, hS, hB⟩
  have HT := Lib.hid hT
  have HB := Lib.hid hB
  have HR1 := Lib.hid (HR.out.next hB)
  have h15 := Lib.hid (refSum_any A c zs w1 HR1.out HV.out zs.length (Nat.le_refl _))
  have htell := tell_any hT A c HR1.out x
  clear hT hB hb hS h10 h11
  unfold Tell at htell
  obtain ⟨total, ht⟩ : ∃ t, pre zs zs.length = t := ⟨_, rfl⟩
  have ht0 : 0 ≤ total := by have := HV.out.lo zs.length; omega
  rw [ht] at htell h15
  clear ht
  rcases htell with ⟨hx | hx, h20⟩ | ⟨⟨hx0, hx1⟩, i, r, h20, h21⟩
  · have H20 := Lib.hid h20
    clear h20
    go_wp2_with fail
    refine h15.out.mono ?_
    rintro e w' ⟨rfl, rfl⟩
    go_wp2_with fail
    refine H20.out.mono ?_
    rintro e w' ⟨rfl, rfl⟩
    go_wp2_with fail
    go_loop [12] (fun k => ∃ n : Nat, k = .int .i64 n ∧ n ≤ zs.length) (fun k => zs.length - (intOf k).toNat)
    case atStart => exact ⟨0, rfl, Nat.zero_le _⟩
    case round =>
      obtain ⟨n, rfl, hn⟩ := hrel
      by_cases hlt : n < zs.length
      · obtain ⟨b1, o1, rfl, hb1, hc1⟩ := HR1.out n hlt
        by_cases hz : zs[n] = 0
        · rw [hz] at hc1
          clear hz
          go_wp2_with fail
          go_round
          case rel => exact ⟨n + 1, by go_num, by omega⟩
          case measure => simp [intOf]; omega
        · have he := HV.out.each n hlt
          have hlo := HV.out.lo n
          have hhi := HV.out.hi (n + 1)
          have hs := pre_succ hlt
          rw [hs] at hhi
          have k15 := Lib.hid (refSum_any _ c zs _ HR1.out HV.out n hn)
          have k20 := Lib.hid (find_at HT.out (pre zs n) n ⟨hlt, Int.le_refl _, by rw [hs]; omega⟩ 0 (by omega))
          have k21 := Lib.hid (find_at HT.out (pre zs n + zs[n] - 1) n ⟨hlt, by omega, by rw [hs]; omega⟩ (zs[n] - 1) (by omega))
          have hzb : (zs[n] == 0) = false := by simpa using hz
          clear hs hz
          generalize zs[n] = v at *
          generalize pre zs n = p at *
          go_wp2_with fail
          refine k15.out.mono ?_
          rintro e w' ⟨rfl, rfl⟩
          go_wp2_with fail
          refine k20.out.mono ?_
          rintro e w' ⟨rfl, rfl⟩
          go_wp2_with fail
          refine k21.out.mono ?_
          rintro e w' ⟨rfl, rfl⟩
          go_wp2_with fail
          go_round
          case rel => exact ⟨n + 1, by go_num, by omega⟩
          case measure => simp [intOf]; omega
      · obtain rfl : n = zs.length := by omega
        go_wp2_with fail
        refine (HL.out _).mono ?_
        rintro e w3 ⟨rfl, hb3⟩
        have HB3 := Lib.hid (HB.out.trans (hb3.mono HB.out.size))
        clear hb3
        go_wp2_with fail
        go_ret
        exact ⟨rfl, HB3.out⟩
  · have H20 := Lib.hid h20
    clear h20
    have hx0 : ¬ x < 0 := by omega
    go_wp2_with fail
    refine h15.out.mono ?_
    rintro e w' ⟨rfl, rfl⟩
    go_wp2_with fail
    refine H20.out.mono ?_
    rintro e w' ⟨rfl, rfl⟩
    go_wp2_with fail
    go_loop [12] (fun k => ∃ n : Nat, k = .int .i64 n ∧ n ≤ zs.length) (fun k => zs.length - (intOf k).toNat)
    case atStart => exact ⟨0, rfl, Nat.zero_le _⟩
    case round =>
      obtain ⟨n, rfl, hn⟩ := hrel
      by_cases hlt : n < zs.length
      · obtain ⟨b1, o1, rfl, hb1, hc1⟩ := HR1.out n hlt
        by_cases hz : zs[n] = 0
        · rw [hz] at hc1
          clear hz
          go_wp2_with fail
          go_round
          case rel => exact ⟨n + 1, by go_num, by omega⟩
          case measure => simp [intOf]; omega
        · have he := HV.out.each n hlt
          have hlo := HV.out.lo n
          have hhi := HV.out.hi (n + 1)
          have hs := pre_succ hlt
          rw [hs] at hhi
          have k15 := Lib.hid (refSum_any _ c zs _ HR1.out HV.out n hn)
          have k20 := Lib.hid (find_at HT.out (pre zs n) n ⟨hlt, Int.le_refl _, by rw [hs]; omega⟩ 0 (by omega))
          have k21 := Lib.hid (find_at HT.out (pre zs n + zs[n] - 1) n ⟨hlt, by omega, by rw [hs]; omega⟩ (zs[n] - 1) (by omega))
          have hzb : (zs[n] == 0) = false := by simpa using hz
          clear hs hz
          generalize zs[n] = v at *
          generalize pre zs n = p at *
          go_wp2_with fail
          refine k15.out.mono ?_
          rintro e w' ⟨rfl, rfl⟩
          go_wp2_with fail
          refine k20.out.mono ?_
          rintro e w' ⟨rfl, rfl⟩
          go_wp2_with fail
          refine k21.out.mono ?_
          rintro e w' ⟨rfl, rfl⟩
          go_wp2_with fail
          go_round
          case rel => exact ⟨n + 1, by go_num, by omega⟩
          case measure => simp [intOf]; omega
      · obtain rfl : n = zs.length := by omega
        go_wp2_with fail
        refine (HL.out _).mono ?_
        rintro e w3 ⟨rfl, hb3⟩
        have HB3 := Lib.hid (HB.out.trans (hb3.mono HB.out.size))
        clear hb3
        go_wp2_with fail
        go_ret
        exact ⟨rfl, HB3.out⟩
  · have H20 := Lib.hid h20
    have H21 := Lib.hid h21
    clear h20 h21
    go_wp2_with fail
    refine h15.out.mono ?_
    rintro e w' ⟨rfl, rfl⟩
    go_wp2_with fail
    refine H20.out.mono ?_
    rintro e w' ⟨rfl, rfl⟩
    go_wp2_with fail
    refine H21.out.mono ?_
    rintro e w' ⟨rfl, rfl⟩
    go_wp2_with fail
    go_loop [12] (fun k => ∃ n : Nat, k = .int .i64 n ∧ n ≤ zs.length) (fun k => zs.length - (intOf k).toNat)
    case atStart => exact ⟨0, rfl, Nat.zero_le _⟩
    case round =>
      obtain ⟨n, rfl, hn⟩ := hrel
      by_cases hlt : n < zs.length
      · obtain ⟨b1, o1, rfl, hb1, hc1⟩ := HR1.out n hlt
        by_cases hz : zs[n] = 0
        · rw [hz] at hc1
          clear hz
          go_wp2_with fail
          go_round
          case rel => exact ⟨n + 1, by go_num, by omega⟩
          case measure => simp [intOf]; omega
        · have he := HV.out.each n hlt
          have hlo := HV.out.lo n
          have hhi := HV.out.hi (n + 1)
          have hs := pre_succ hlt
          rw [hs] at hhi
          have k15 := Lib.hid (refSum_any _ c zs _ HR1.out HV.out n hn)
          have k20 := Lib.hid (find_at HT.out (pre zs n) n ⟨hlt, Int.le_refl _, by rw [hs]; omega⟩ 0 (by omega))
          have k21 := Lib.hid (find_at HT.out (pre zs n + zs[n] - 1) n ⟨hlt, by omega, by rw [hs]; omega⟩ (zs[n] - 1) (by omega))
          have hzb : (zs[n] == 0) = false := by simpa using hz
          clear hs hz
          generalize zs[n] = v at *
          generalize pre zs n = p at *
          go_wp2_with fail
          refine k15.out.mono ?_
          rintro e w' ⟨rfl, rfl⟩
          go_wp2_with fail
          refine k20.out.mono ?_
          rintro e w' ⟨rfl, rfl⟩
          go_wp2_with fail
          refine k21.out.mono ?_
          rintro e w' ⟨rfl, rfl⟩
          go_wp2_with fail
          go_round
          case rel => exact ⟨n + 1, by go_num, by omega⟩
          case measure => simp [intOf]; omega
      · obtain rfl : n = zs.length := by omega
        go_wp2_with fail
        refine (HL.out _).mono ?_
        rintro e w3 ⟨rfl, hb3⟩
        have HB3 := Lib.hid (HB.out.trans (hb3.mono HB.out.size))
        clear hb3
        go_wp2_with fail
        go_ret
        exact ⟨rfl, HB3.out⟩
theorem law3_any (hL : LivesOk) (A : Option Addr) (c : Nat) (zs : List Int) (i : Int) (w : World) (hr : RdI w w.heap.size A zs) (hl2 : zs.length ≤ 9223372036854775807) :
    Calls Try.prog 5 #[.slice A zs.length c, .int .i64 i] w fun e w' => e = .returned (.bool true) ∧ Below w.heap.size w w' := by
  rcases Nat.lt_or_ge 60 zs.length with h | h
  · exact law3_long hL A c zs i w h hl2
  · by_cases h0 : chk zs = 0
    · exact law3_ok hL A c zs i w hr h h0
    · exact law3_bad hL A c zs i w hr h h0
end Go.Proofs.Ythdohijhioocgaa
