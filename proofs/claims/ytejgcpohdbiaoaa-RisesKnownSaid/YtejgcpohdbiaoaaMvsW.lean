/- Moves: the fewest moves. -/
import Derived.Test.YtejgcpohdbiaoaaStyW
import Derived.Test.YtejgcpohdbiaoaaPrW
namespace Go.Proofs.Ytejgcpohdbiaoaa
open Go.RowKit

/-- the kept positions below r -/
def low (K : List Nat) (r : Nat) : List Nat := K.filter (· < r)
theorem low_take {K : List Nat} (h : K.Pairwise (· < ·)) (r : Nat) : low K r = K.take (low K r).length := below_take h r
theorem low_le (K : List Nat) (r : Nat) : (low K r).length ≤ K.length := List.length_filter_le _ _
theorem low_yes {K : List Nat} (h : K.Pairwise (· < ·)) {q : Nat} (hq : q ∈ K) : low K (q + 1) = low K q ++ [q] := below_last h hq
theorem low_no {K : List Nat} {q : Nat} (hq : q ∉ K) : low K (q + 1) = low K q := below_skip hq
theorem low_get {K : List Nat} (h : K.Pairwise (· < ·)) {r i : Nat} (hi : i < (low K r).length) (hi2 : i < K.length) : K[i] = (low K r)[i] := by
  have e := low_take h r
  have h2 : (low K r)[i]? = (K.take (low K r).length)[i]? := by rw [← e]
  rw [List.getElem?_eq_getElem hi, List.getElem?_take, if_pos hi, List.getElem?_eq_getElem hi2] at h2
  exact (Option.some.inj h2).symm
theorem low_all {K : List Nat} {n : Nat} (h : ∀ k ∈ K, k < n) : low K n = K := List.filter_eq_self.2 fun k hk => by simpa using h k hk
/-- the steps of the positions from r on -/
def mvD (now : List Int) (K : List Nat) (r : Nat) : List (Int × Int) := mvJ now K (now.length - r)
theorem mvD_yes {now : List Int} {K : List Nat} {q : Nat} (hq : q < now.length) (h : q ∈ K) : mvD now K q = mvD now K (q + 1) := by
  unfold mvD
  obtain ⟨j, hj⟩ : ∃ j, now.length - (q + 1) = j := ⟨_, rfl⟩
  rw [hj, show now.length - q = j + 1 by omega, mvJ, show now.length - 1 - j = q by omega, if_pos h, List.append_nil]
theorem mvD_no {now : List Int} {K : List Nat} {q : Nat} (hq : q < now.length) (h : q ∉ K) : mvD now K q = mvD now K (q + 1) ++ [(now[q], now.getD (q + 1) (-1))] := by
  unfold mvD
  obtain ⟨j, hj⟩ : ∃ j, now.length - (q + 1) = j := ⟨_, rfl⟩
  rw [hj, show now.length - q = j + 1 by omega, mvJ, show now.length - 1 - j = q by omega, if_neg h, getD_in hq]
  rfl
theorem mvD_room {now : List Int} {K : List Nat} (hn : K.Pairwise (· < ·)) (hl : ∀ k ∈ K, k < now.length) {q : Nat} (hq : q < now.length) (h : q ∉ K) : (mvD now K (q + 1)).length + 1 ≤ now.length - K.length := by
  have h1 := mvJ_whole (now := now) hn hl
  have h2 : (mvD now K q).length ≤ (mvJ now K now.length).length := mvJ_mono (by omega)
  rw [mvD_no hq h, List.length_append, List.length_singleton] at h2
  omega
/-- ahead of each round: r numbers are left -/
structure MvI (w wr : World) (g cp : Nat) (A : Option Addr) (now : List Int) (K : List Nat) (r : Nat) : Prop where
  pos : RdI wr wr.heap.size A (nats K)
  own : OwK wr w.heap.size g cp (mvD now K r)
  u : Below w.heap.size w wr
  far : RdI wr g A (nats K)
theorem MvI.next {w wr w' : World} {g cp : Nat} {A : Option Addr} {now : List Int} {K : List Nat} {r : Nat} (h : MvI w wr g cp A now K r) (hb : Below wr.heap.size wr w') : MvI w w' g cp A now K r :=
  ⟨h.pos.next hb, own_next h.own hb, h.u.trans (hb.mono h.u.size), h.far.below (hb.mono (by
    rcases h.own.2 with ⟨h1, _⟩ | ⟨g', _, _, h1, _, h2, _⟩
    · cases h1
    · injection h1 with h1
      injection h1 with h1
      injection h1 with h1
      subst h1
      exact Nat.le_of_lt (heap_lt h2)))⟩
/-- what Moves hands back -/
def movesR (old now : List Int) : List (Int × Int) × Int := if pairE old now = 0 then (movesL old now, 0) else ([], pairE old now)
set_option maxRecDepth 100000 in
set_option maxHeartbeats 4000000 in
theorem moves_any {w : World} {A B : Option Addr} {c d : Nat} {old now : List Int} (ha : SlI w A c old) (hb : SlI w B d now) (hRa : Rng old) (hRb : Rng now) :
    Calls Try.prog 15 #[.slice A old.length c, .slice B now.length d] w (RowS (movesR old now) w) := by
  have H1 := stay_any ha hb hRa hRb
  have HB := Lib.hid hb
  have hlb := hb.len
  clear ha hb hRa hRb
  by_cases h0 : pairE old now = 0
  · have e1 : stayR old now = (nats (keptP old now), 0) := by unfold stayR; rw [if_pos h0]
    have e2 : movesR old now = (mvD now (keptP old now) 0, 0) := by unfold movesR mvD movesL; rw [if_pos h0]; rfl
    rw [e1] at H1
    rw [e2]
    obtain ⟨k1, k2⟩ := kept_ok old now
    have hn4 := (pairE_zero.1 h0).2.1.len
    have hml := moves_len old now
    have hmw := mvJ_whole k1 k2
    have hlow := low_all k2
    generalize keptP old now = K at *
    have H := Lib.hid H1
    have hK4 : K.length ≤ now.length := by omega
    have HK1 := Lib.hid k1
    have HK2 := Lib.hid k2
    have HLW := Lib.hid hlow
    obtain ⟨cp, hcp⟩ : ∃ cp, now.length - K.length = cp := ⟨_, rfl⟩
    have HMW : Hid (cp = (mvD now K 0).length) := Lib.hid (by unfold mvD; rw [Nat.sub_zero]; omega)
    have HRM : Hid (∀ q, q < now.length → q ∉ K → (mvD now K (q + 1)).length + 1 ≤ cp) := Lib.hid (fun q h1 h2 => hcp ▸ mvD_room k1 k2 h1 h2)
    have hmk := make_steps 0 ((now.length : Int) - (K.length : Int)) 0 cp rfl (by omega) (Nat.zero_le _) (by omega)
    have hcp4 : cp ≤ 4096 := by omega
    have hsub : (0 : Int) ≤ (now.length : Int) - (K.length : Int) := by omega
    clear e1 e2 H1 h0 k1 k2 hml hmw hlow hcp
    go_enter Try.func15, Try.ntmps15
    go_wp2_with fail
    refine H.out.mono ?_
    rintro e w1 ⟨A1, rfl, hs1, hu1⟩
    have HS1 := Lib.hid hs1
    have HU1 := Lib.hid hu1
    have hnl := nats_len K
    clear hs1 hu1 H
    go_upto_region 5 with fail
    obtain ⟨g, hg⟩ : ∃ g : Nat, w1.heap.size = g := ⟨_, rfl⟩
    obtain ⟨V, hV⟩ : ∃ V : World, w1.alloc (.cells (madeCells #[.int .i64 0, .int .i64 0] (cp * 2)) 50) = V := ⟨_, rfl⟩
    have H0 : Hid (MvI w V g cp A1 now K now.length) := Lib.hid (by
      rw [← hV, ← hg]
      refine ⟨HS1.out.rd.next (below_new _ _), ?_, HU1.out.trans ((below_new _ _).mono HU1.out.size), HS1.out.rd.below (below_new _ _)⟩
      have h1 := own_le (owk_made w1 cp (by omega)) HU1.out.size
      have h2 : mvD now K now.length = [] := by unfold mvD; rw [Nat.sub_self]; rfl
      unfold OwK
      rw [h2]
      exact h1)
    have h0a : (low K now.length).length = K.length := by rw [HLW.out]
    have h0b : (mvD now K now.length).length = 0 := by unfold mvD; rw [Nat.sub_self]; rfl
    have h0c : now.getD now.length (-1) = -1 := by rw [List.getD_eq_getElem?_getD, List.getElem?_eq_none (Nat.le_refl _)]; rfl
    have HA := Lib.hid h0a
    have HBB := Lib.hid h0b
    have HC := Lib.hid h0c
    rw [hV, hg]
    have HNL := Lib.hid hnl
    clear hV hmk hg HS1 HU1 hnl h0a h0b h0c
    go_wp2_with fail
    go_loopw [6, 8, 9, 10] (fun ka o ah v wr => ∃ (r : Nat), r ≤ now.length ∧ ka = .slice A1 (low K r).length K.length ∧ o = .slice (some ⟨g, 0, none⟩) (mvD now K r).length cp ∧ ah = .int .i64 (now.getD r (-1)) ∧ v = .int .i64 ((r : Int) - 1) ∧ Hid (MvI w wr g cp A1 now K r)) (fun _ _ _ v _ => (intOf v + 1).toNat)
    case atStart => exact ⟨now.length, Nat.le_refl _, by rw [HA.out], by rw [HBB.out], by rw [HC.out], rfl, H0⟩
    case round =>
      clear H0
      obtain ⟨r, hr, rfl, rfl, rfl, rfl, HI⟩ := hrel
      rcases Nat.eq_zero_or_pos r with rfl | hp
      · have hown := HI.out.own
        have hu := HI.out.u
        go_wp2_with fail
        go_ret2
        exact rowS_own hown hu rfl HMW.out
      · obtain ⟨q, rfl⟩ : ∃ q, r = q + 1 := ⟨r - 1, by omega⟩
        have hq : ((q + 1 : Nat) : Int) - 1 = (q : Int) := by omega
        have hlt : q < now.length := by omega
        have hrd : RdI wr w.heap.size B now := HB.out.rd.below HI.out.u
        obtain ⟨b', o', hA, hb', hc⟩ := hrd q hlt
        have hgd : now.getD q (-1) = now[q] := getD_in hlt (-1)
        by_cases hm : q ∈ K
        · have e1 := low_yes HK1.out hm
          have e2 := mvD_yes (K := K) hlt hm
          have hlen : (low K (q + 1)).length = (low K q).length + 1 := by rw [e1, List.length_append, List.length_singleton]
          have hle := low_le K (q + 1)
          have hml : (low K q).length < K.length := by omega
          obtain ⟨b2, o2, hA2, hb2, hc2⟩ := HI.out.pos (low K q).length (by rw [HNL.out]; exact hml)
          have hkq : (nats K)[(low K q).length]'(by rw [HNL.out]; exact hml) = (q : Nat) := by
            have h1 := low_get HK1.out (r := q + 1) (i := (low K q).length) (by omega) hml
            have h2 : (low K (q + 1))[(low K q).length]'(by omega) = q := by simp [e1]
            have h3 : (nats K)[(low K q).length]'(by rw [HNL.out]; exact hml) = ((K[(low K q).length] : Nat) : Int) := by simp [nats]
            rw [h3, h1, h2]
          rw [hkq] at hc2
          rw [hlen]
          have HN : Hid (MvI w wr g cp A1 now K q) := Lib.hid ⟨HI.out.pos, by rw [e2]; exact HI.out.own, HI.out.u, HI.out.far⟩
          have HE2 := Lib.hid e2
          have HG := Lib.hid hgd
          have hmle : (low K q).length ≤ 4096 := by omega
          obtain ⟨m, hmm⟩ : ∃ m, (low K q).length = m := ⟨_, rfl⟩
          obtain ⟨x, hxx⟩ : ∃ x, now[q] = x := ⟨_, rfl⟩
          obtain ⟨z, hzz⟩ : ∃ z, (mvD now K (q + 1)).length = z := ⟨_, rfl⟩
          rw [hzz]
          simp only [hmm] at hc2 hml hmle ⊢
          rw [hxx] at hc HG
          have HM := Lib.hid hmm
          have HZ := Lib.hid hzz
          subst hA; subst hA2
          clear e1 e2 hlen hle hkq hgd hrd hb' hb2 hmm hxx hzz
          go_wp2_with fail
          go_roundw
          case rel => exact ⟨q, by omega, by rw [HM.out], by rw [HE2.out, HZ.out], by rw [HG.out], rfl, HN⟩
          case measure => first | (simp [intOf]; done) | (simp [intOf]; omega)
        · have e1 : low K (q + 1) = low K q := low_no hm
          have e2 := mvD_no (K := K) hlt hm
          have hroom := HRM.out q hlt hm
          have hle := low_le K q
          rw [e1]
          -- the last one kept, if any, is another one
          have hlast : ∀ m', (low K q).length = m' + 1 → ∃ y : Int, (((y == (q : Int)) = false)) ∧ ∃ b2 o2, A1 = some ⟨b2, o2, none⟩ ∧ wr.cell? ⟨b2, o2 + m', none⟩ = some (.int .i64 y) := by
            intro m' hm'
            have hml : m' < K.length := by omega
            obtain ⟨b2, o2, hA2, _, hc2⟩ := HI.out.pos m' (by rw [HNL.out]; exact hml)
            have h1 := low_get HK1.out (r := q) (i := m') (by omega) hml
            have h3 : (nats K)[m']'(by rw [HNL.out]; exact hml) = ((K[m'] : Nat) : Int) := by simp [nats]
            have h4 : (low K q)[m']'(by omega) ∈ low K q := List.getElem_mem _
            have h5 := (List.mem_filter.1 h4).2
            simp only [decide_eq_true_eq] at h5
            rw [h3, h1] at hc2
            exact ⟨_, by simp; omega, b2, o2, hA2, hc2⟩
          have HE2 := Lib.hid e2
          have HG := Lib.hid hgd
          have hmle : (low K q).length ≤ 4096 := by omega
          obtain ⟨m, hmm⟩ : ∃ m, (low K q).length = m := ⟨_, rfl⟩
          obtain ⟨x, hxx⟩ : ∃ x, now[q] = x := ⟨_, rfl⟩
          obtain ⟨y, hyy⟩ : ∃ y, now.getD (q + 1) (-1) = y := ⟨_, rfl⟩
          obtain ⟨z, hzz⟩ : ∃ z, (mvD now K (q + 1)).length = z := ⟨_, rfl⟩
          rw [hzz] at hroom ⊢
          rw [hmm] at hlast hmle ⊢
          rw [hxx] at hc HG HE2
          rw [hyy] at HE2 ⊢
          have HM := Lib.hid hmm
          have HZ := Lib.hid hzz
          have HL := Lib.hid hlast
          have HI2 := Lib.hid (HI.out.next (below_new wr (.cells #[.int .i64 x, .int .i64 y] 50)))
          have hk0 := Lib.hid (pair_new wr 50 x y)
          have HW0 : ∀ W : World, Below w.heap.size w W → W.cell? ⟨b', o' + q, none⟩ = some (.int .i64 x) := fun W hW => by
            obtain ⟨b3, o3, hA3, hb3, hc3⟩ := (HB.out.rd.below hW) q hlt
            rw [hA] at hA3
            injection hA3 with hA3
            injection hA3 with h1 h2
            subst h1; subst h2
            rw [hc3, hxx]
          subst hA
          clear e1 e2 hle hgd hrd hb' hmm hxx hzz hyy hlast
          have fin : ∀ w3 : World, OwK w3 w.heap.size g cp (mvD now K (q + 1) ++ [(x, y)]) → Below w.heap.size (wr.alloc (.cells #[.int .i64 x, .int .i64 y] 50)) w3 → (wr.alloc (.cells #[.int .i64 x, .int .i64 y] 50)).grownBy w3 (some g) → MvI w w3 g cp A1 now K q := fun w3 H3 B3 G3 => by
            have hfar : RdI w3 g A1 (nats K) := fun k hk => by
              obtain ⟨b2, o2, e, hb2, hc2⟩ := HI2.out.far k hk
              have hlt2 : b2 < (wr.alloc (.cells #[.int .i64 x, .int .i64 y] 50)).heap.size := World.block_lt_of_cell? _ (a := ⟨b2, o2 + k, none⟩) hc2
              exact ⟨b2, o2, e, hb2, (World.cell?_of_block (G3.block b2 hlt2 (by simp; omega))).trans hc2⟩
            have hgs : g < w3.heap.size := (World.ownsRow.lt H3 g rfl).2
            exact ⟨hfar.more (Nat.le_of_lt hgs), by rw [HE2.out]; exact H3, HI2.out.u.trans B3, hfar⟩
          have HFin := Lib.hid fin
          have HC3 := Lib.hid (fun (W : World) (hW : Below w.heap.size w W) => HW0 W hW)
          clear fin HW0
          rcases Nat.eq_zero_or_pos m with rfl | hmp
          · go_wp2_with (
              at_builtin
              refine wp_fitP rfl (.tmp 50) (.tmp 57) rfl w.heap.size g z cp (mvD now K (q + 1)) rfl HZ.out.symm HI2.out.own wr.heap.size 1 x y rfl hk0.out.1 hk0.out.2 hroom HI2.out.u.size ?_
              intro w3 H3 B3 G3
              have c3 := HC3.out w3 (HI2.out.u.trans B3.out)
              have HN := Lib.hid (HFin.out w3 H3.out B3.out G3.out))
            go_roundw
            case rel => exact ⟨q, by omega, by rw [HM.out], by rw [HE2.out, List.length_append, HZ.out]; rfl, by rw [HG.out], rfl, HN⟩
            case measure => first | (simp [intOf]; done) | (simp [intOf]; omega)
          · obtain ⟨m', rfl⟩ : ∃ m', m = m' + 1 := ⟨m - 1, by omega⟩
            obtain ⟨yk, hyk, b2, o2, rfl, hc2⟩ := HL.out m' rfl
            go_wp2_with (
              at_builtin
              refine wp_fitP rfl (.tmp 50) (.tmp 57) rfl w.heap.size g z cp (mvD now K (q + 1)) rfl HZ.out.symm HI2.out.own wr.heap.size 1 x y rfl hk0.out.1 hk0.out.2 hroom HI2.out.u.size ?_
              intro w3 H3 B3 G3
              have c3 := HC3.out w3 (HI2.out.u.trans B3.out)
              have HN := Lib.hid (HFin.out w3 H3.out B3.out G3.out))
            go_roundw
            case rel => exact ⟨q, by omega, by rw [HM.out], by rw [HE2.out, List.length_append, HZ.out]; rfl, by rw [HG.out], rfl, HN⟩
            case measure => first | (simp [intOf]; done) | (simp [intOf]; omega)
  · have e1 : stayR old now = ([], pairE old now) := by unfold stayR; rw [if_neg h0]
    have e2 : movesR old now = ([], pairE old now) := by unfold movesR; rw [if_neg h0]
    rw [e1] at H1
    rw [e2]
    obtain ⟨f, hf⟩ : ∃ f, pairE old now = f := ⟨_, rfl⟩
    rw [hf] at H1 h0 ⊢
    have H := Lib.hid H1
    have h0' : (f != 0) = true := by simpa using h0
    clear e1 e2 H1 hf
    go_enter Try.func15, Try.ntmps15
    go_wp2_with fail
    refine H.out.mono ?_
    rintro e w1 ⟨A1, rfl, hs1, hu1⟩
    have HU1 := Lib.hid hu1
    clear hs1 hu1 H
    go_wp2_with fail
    go_ret2
    exact rowS_err HU1.out
end Go.Proofs.Ytejgcpohdbiaoaa
