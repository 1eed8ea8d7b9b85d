/- The law RemapsCarry. -/
import Derived.Test.YtakgnpmfnechhaaCarF
import Derived.Test.YtakgnpmfnechhaaLwP
namespace Go.Proofs.Ytakgnpmfnechhaa
open Go.RowKit

/-- what the law has in memory: maps, rows, a row that is appended to, a box -/
structure M8 (w Wb W : World) (ms : List MR) (rs : List RR) (Al : Option Addr) (cl n : Nat) (L : List Int) (g3 : Nat) (o3 : Obj) : Prop where
  mm : MM w W ms rs
  own : OwnI W Wb.heap.size (.slice Al n cl) L
  b3 : W.heap[g3]? = some o3
  wb : Below Wb.heap.size Wb W
section
variable {w Wb W W' : World} {ms : List MR} {rs : List RR} {Al : Option Addr} {cl nl : Nat} {L : List Int} {g3 : Nat} {o3 : Obj}
theorem M8.next (h : M8 w Wb W ms rs Al cl nl L g3 o3) (hb : Below W.heap.size W W') : M8 w Wb W' ms rs Al cl nl L g3 o3 := ⟨h.mm.next hb, h.own.next hb, keep_heap hb h.b3, h.wb.trans (hb.mono h.wb.size)⟩
theorem M8.pushM (h : M8 w Wb W ms rs Al cl nl L g3 o3) {o : Int} {A : Option Addr} {c n : Nat} {l : List Int} (hn : l.length = n) (hs : SlI W A c l) :
    M8 w Wb (W.alloc (.cells #[.int .i64 o, .slice A n c] 24)) (⟨W.heap.size, o, A, c, l⟩ :: ms) rs Al cl nl L g3 o3 :=
  have h2 := h.next (below_new W (.cells #[.int .i64 o, .slice A n c] 24))
  ⟨h.mm.pushM hn hs, h2.own, h2.b3, h2.wb⟩
theorem M8.pushR (h : M8 w Wb W ms rs Al cl nl L g3 o3) {A : Option Addr} {c : Nat} {l : List Int} (hs : SlI W A c l) : M8 w Wb W ms (⟨A, c, l⟩ :: rs) Al cl nl L g3 o3 := ⟨h.mm.pushR hs, h.own, h.b3, h.wb⟩
theorem M8.add (h : M8 w Wb W ms rs Al cl nl L g3 o3) {g : Nat} {o : Int} {A : Option Addr} {c : Nat} {l : List Int} (hm : Mv W g o A c l) : M8 w Wb W (⟨g, o, A, c, l⟩ :: ms) rs Al cl nl L g3 o3 := ⟨h.mm.add hm, h.own, h.b3, h.wb⟩
theorem M8.at (h : M8 w Wb W ms rs Al cl nl L g3 o3) (i : Nat) {g : Nat} {o : Int} {A : Option Addr} {c : Nat} {l : List Int} (hm : ms[i]? = some ⟨g, o, A, c, l⟩) : Mv W g o A c l := h.mm.at i hm
theorem M8.row (h : M8 w Wb W ms rs Al cl nl L g3 o3) (i : Nat) {A : Option Addr} {c : Nat} {l : List Int} (hm : rs[i]? = some ⟨A, c, l⟩) : SlI W A c l := h.mm.row i hm
theorem M8.u (h : M8 w Wb W ms rs Al cl nl L g3 o3) : Below w.heap.size w W := h.mm.u
theorem M8.sl (h : M8 w Wb W ms rs Al cl nl L g3 o3) : SlI W Al cl L := by
  obtain ⟨A, c, e, hs⟩ := h.own.sl
  injection e with e1 _ e3
  subst e1; subst e3
  exact hs
theorem M8.ne (h : M8 w Wb W ms rs Al cl nl L g3 o3) {A : Option Addr} (hf : Far W A) : ∀ p, A = some p → (Value.slice Al nl cl).ownBlock ≠ some p.block := fun p e e2 => by
  have h1 := hf p e
  have h2 := (World.ownsRow.lt h.own _ e2).2
  omega
theorem M8.box15 {v : Value} (h : M8 w Wb W ms rs Al cl nl L g3 (.cells #[.int .u8 0, v] 54)) : W.cell? ⟨g3, 0, none⟩ = some (.int .u8 0) ∧ W.cell? ⟨g3, 1, none⟩ = some v := ⟨cell_of_row _ _ 0 _ 54 (0, 0) h.b3, cell_of_row _ _ 1 _ 54 (0, 0) h.b3⟩
end
/-- the numbers of the list -/
def fsF (x : Int) (i : Nat) : Int := IntKind.i64.wrap (x + 7 * (i : Int))
set_option maxRecDepth 100000 in
set_option maxHeartbeats 16000000 in
theorem law7_any {w : World} {A B : Option Addr} {c d : Nat} {ss ts : List St} (N : Nat) (x : Int) (hN : N ≤ 255) (hs : RdQ w w.heap.size A ss) (hc : ss.length ≤ c) (hcm : c ≤ 9223372036854775807)
    (ht : RdQ w w.heap.size B ts) (hd : ts.length ≤ d) (hdm : d ≤ 9223372036854775807) :
    Calls Try.prog 7 #[.agg #[.int .u8 N, .slice A ss.length c], .slice B ts.length d, .int .i64 x] w (YesB w) := by
  obtain ⟨n0, hn0⟩ : ∃ n, N % 31 = n := ⟨_, rfl⟩
  have hn30 : n0 ≤ 30 := by omega
  obtain ⟨na, nb, nc, a, b, cc, ab, al, bc, hF, hna, hnb, hnc⟩ := fx_ex ss ts [] hn30
  have F := Lib.hid hF
  have HT0 := Lib.hid (show _ ∧ _ ∧ _ from ⟨ht, hd, hdm⟩)
  have hB3 := below_new w (.cells #[.int .u8 N, .slice A ss.length c] 54)
  have K := of_M (w := w.alloc (.cells #[.int .u8 N, .slice A ss.length c] 54)) N hN (hs.next hB3) hc hcm hn0 ((congrArg List.length hF.ea).trans hF.la)
  rw [hF.ea] at K
  have K := Lib.hid K
  have M0 := Lib.hid ((MM.start w).next hB3)
  clear hF hs ht hB3 hn0
  go_enter Try.func7, Try.ntmps7
  go_wp2_with fail
  refine K.out.mono ?_
  rintro e w7 ⟨A7, c7, rfl, hs7, _, hb⟩
  clear K
  have hN7 := (M0.out.next hb).pushM (o := n0) (n := na) F.out.la hs7
  have M := Lib.hid hN7
  obtain ⟨g7, eg⟩ : ∃ g : Nat, w7.heap.size = g := ⟨_, rfl⟩
  obtain ⟨V7, ev⟩ : ∃ V : World, w7.alloc (.cells #[.int .i64 n0, .slice A7 na c7] 24) = V := ⟨_, rfl⟩
  rw [eg, ev] at M
  clear hs7 hb hN7 M0
  have H0 : Hid (OwnI V7 V7.heap.size (.slice none 0 0) (mk 0 (fsF x)) ∧ Below V7.heap.size V7 V7) := Lib.hid ⟨own_nil _ _, Below.refl _ _⟩
  go_wp2_with fail
  clear eg ev
  go_loopw [8, 9] (fun z v wr => ∃ k : Nat, k ≤ n0 ∧ v = .int .i64 k ∧ Hid (OwnI wr V7.heap.size z (mk k (fsF x)) ∧ Below V7.heap.size V7 wr)) (fun _ v _ => n0 - (intOf v).toNat)
  case atStart => exact ⟨0, Nat.zero_le _, rfl, H0⟩
  case round =>
    obtain ⟨k, hk, rfl, HI⟩ := hrel
    clear H0
    have N5 := M.out.next HI.out.2
    obtain ⟨x0, x1⟩ := (N5.at 0 rfl).cells_n F.out.la
    by_cases hlt : k < n0
    · have hst := mk_succ k (fsF x)
      have hml := mk_len k (fsF x)
      obtain ⟨X, hX⟩ : ∃ X, mk k (fsF x) = X := ⟨_, rfl⟩
      obtain ⟨y, hy⟩ : ∃ y, fsF x k = y := ⟨_, rfl⟩
      have hy2 : IntKind.i64.wrap (x + 7 * (k : Int)) = y := hy
      rw [hX] at HI hst hml
      rw [hy] at hst
      have HST := Lib.hid hst
      have HT := Lib.hid (show _ ∧ _ from ⟨HI.out.1.next (below_new wr (.cells #[.int .i64 y] 3)), HI.out.2.trans ((below_new wr (.cells #[.int .i64 y] 3)).mono HI.out.2.size)⟩)
      have HX1 := Lib.hid (sl_one wr y)
      clear hst hX hy N5
      go_wp2_with (
        at_builtin
        refine wp_app rfl (.tmp 34) (.tmp 39) rfl V7.heap.size _ X rfl _ 1 [y] 1 rfl rfl HT.out.1 HX1.out (by simp; omega) HT.out.2.size ?_
        intro v2 w2 H2 B2 G2)
      have HN : Hid (OwnI w2 V7.heap.size v2 (mk (k + 1) (fsF x)) ∧ Below V7.heap.size V7 w2) := Lib.hid ⟨by rw [HST.out]; exact H2.out, HT.out.2.trans B2.out⟩
      clear H2 B2 G2 hy2 x0 x1
      go_roundw
      case rel => exact ⟨k + 1, by omega, by go_num, HN⟩
      case measure => first | (simp [intOf]; done) | (simp [intOf]; omega)
    · skip
      obtain rfl : k = n0 := by omega
      have M7 := M
      obtain ⟨L, hL⟩ : ∃ L, mk k (fsF x) = L := ⟨_, rfl⟩
      have hLL : L.length = k := by rw [← hL]; exact mk_len _ _
      rw [hL] at HI
      have HLL := Lib.hid hLL
      obtain ⟨Al, cl, rfl, hsl⟩ := own_sl_n HI.out.1 hLL
      have hcl := hsl.le
      have hclm := hsl.max
      replace M : Hid (M8 w V7 wr [⟨g7, k, A7, c7, a⟩] [] Al cl k L g7 (.cells #[.int .i64 k, .slice A7 a.length c7] 24)) := Lib.hid ⟨N5, HI.out.1, (N5.at 0 rfl).box, HI.out.2⟩
      clear hL hLL hsl HI
      have hva : Vm k a := by rw [← F.out.ea]; exact aft_vm (idL_vm (by omega)) (by rw [idL_len]; omega)
      have hvb : Vm na b := by rw [← F.out.eb]; exact aft_vm (idL_vm (by omega)) (by rw [idL_len]; omega)
      have hab : cmpL a b = ab := by
        have h := cmp_ok hva (by rw [F.out.la]; exact hvb) F.out.la
        rw [F.out.e1] at h
        injection h with h _
        injection h with _ h
        exact h.symm
      have hvab : Vm k ab := by rw [← hab]; exact cmp_vm hva (by rw [F.out.la]; exact hvb)
      have hcar : carL ab L = carL b (carL a L) := by rw [← hab]; exact car_cmp (by rw [F.out.la]; exact hvb.rng)
      have HVA := Lib.hid hva
      have HVB := Lib.hid hvb
      have HVAB := Lib.hid hvab
      have hGl : (carL a L).length = na := by rw [carL_len, F.out.la]
      have hRl : (carL b (carL a L)).length = nb := by rw [carL_len, F.out.lb]
      have hG : carL a L = a.map (pick L) := rfl
      obtain ⟨G, hG2⟩ : ∃ G, carL a L = G := ⟨_, rfl⟩
      rw [hG2] at hcar hGl hRl hG
      obtain ⟨R, hR2⟩ : ∃ R, carL b G = R := ⟨_, rfl⟩
      rw [hR2] at hcar hRl
      have HCA := Lib.hid hG2
      have HCB := Lib.hid hR2
      have HCAB := Lib.hid hcar
      have HGL := Lib.hid hGl
      have HRL := Lib.hid hRl
      have HGM := Lib.hid hG
      clear hva hvb hab hvab hcar hGl hRl hG hG2 hR2 x0 x1 N5
      obtain ⟨x0, x1⟩ := (M.out.at 0 rfl).cells_n F.out.la
      go_wp2_with fail
      clear x0 x1
      have K := carry_far (M.out.at 0 rfl).sl M.out.sl HVA.out HLL.out
      rw [HCA.out, F.out.la, HLL.out] at K
      have K := Lib.hid K
      refine K.out.mono ?_
      rintro e w10 ⟨A10, rfl, hs, _, hb⟩
      have hN := (M.out.next hb).pushR hs
      replace M := Lib.hid hN
      clear K hs hb hN
      have H0 : Hid (OwnI w10 w10.heap.size (.slice none 0 0) (G.take 0) ∧ Below w10.heap.size w10 w10) := Lib.hid ⟨own_nil _ _, Below.refl _ _⟩
      go_wp2_with fail
      go_loopw [12, 13] (fun z v wr => ∃ j : Nat, j ≤ na ∧ v = .int .i64 j ∧ Hid (OwnI wr w10.heap.size z (G.take j) ∧ Below w10.heap.size w10 wr)) (fun _ v _ => na - (intOf v).toNat)
      case atStart => exact ⟨0, Nat.zero_le _, rfl, H0⟩
      case round =>
        rename World => wq
        obtain ⟨j, hj, rfl, HJ⟩ := hrel
        clear H0
        have N5 := M.out.next HJ.out.2
        obtain ⟨x0, x1⟩ := (N5.at 0 rfl).cells_n F.out.la
        by_cases hlt2 : j < na
        · have hja : j < a.length := by rw [F.out.la]; exact hlt2
          have hjG : j < G.length := by rw [HGL.out]; exact hlt2
          obtain ⟨b7, q7, rfl, _, hcy⟩ := (N5.at 0 rfl).sl.rd j hja
          have hrg := HVA.out.rng _ (List.getElem_mem hja)
          have hst : G.take (j + 1) = G.take j ++ [G[j]] := List.take_succ_eq_append_getElem hjG
          have hgj : G[j] = pick L a[j] := by simp only [HGM.out, List.getElem_map]
          have hml : (G.take j).length = j := by rw [List.length_take]; omega
          obtain ⟨y, hy⟩ : ∃ y, a[j] = y := ⟨_, rfl⟩
          rw [hy] at hcy hrg hgj
          obtain ⟨z, hz⟩ : ∃ z, G[j] = z := ⟨_, rfl⟩
          rw [hz] at hst hgj
          obtain ⟨X, hX⟩ : ∃ X, G.take j = X := ⟨_, rfl⟩
          rw [hX] at HJ hst hml
          have HST := Lib.hid hst
          have HT := Lib.hid (show _ ∧ _ from ⟨HJ.out.1.next (below_new wq (.cells #[.int .i64 z] 3)), HJ.out.2.trans ((below_new wq (.cells #[.int .i64 z] 3)).mono HJ.out.2.size)⟩)
          have HX1 := Lib.hid (sl_one wq z)
          clear hst hX hy hz hjG
          by_cases hyn : y = -1
          · subst hyn
            obtain rfl : z = 0 := hgj
            clear N5 hja
            go_wp2_with (
              at_builtin
              refine wp_app rfl (.tmp 68) (.tmp 70) rfl w10.heap.size _ X rfl _ 1 [0] 1 rfl rfl HT.out.1 HX1.out (by simp; omega) HT.out.2.size ?_
              intro v2 w2 H2 B2 G2)
            have HN : Hid (OwnI w2 w10.heap.size v2 (G.take (j + 1)) ∧ Below w10.heap.size w10 w2) := Lib.hid ⟨by rw [HST.out]; exact H2.out, HT.out.2.trans B2.out⟩
            clear H2 B2 G2 x0 x1
            go_roundw
            case rel => exact ⟨j + 1, by omega, by go_num, HN⟩
            case measure => first | (simp [intOf]; done) | (simp [intOf]; omega)
          · obtain ⟨i, rfl⟩ : ∃ i : Nat, y = i := ⟨y.toNat, by omega⟩
            have hi : i < L.length := by rw [HLL.out]; omega
            have hik : i < k := by omega
            rw [pick_at hi] at hgj
            obtain ⟨bl, ql, hAl, _, hcl2⟩ := N5.sl.rd i hi
            rw [← hgj] at hcl2
            have hi0 : (0 : Int) ≤ (i : Int) := by omega
            clear hgj N5 hja hi
            subst hAl
            go_wp2_with (
              at_builtin
              refine wp_app rfl (.tmp 68) (.tmp 70) rfl w10.heap.size _ X rfl _ 1 [z] 1 rfl rfl HT.out.1 HX1.out (by simp; omega) HT.out.2.size ?_
              intro v2 w2 H2 B2 G2)
            have HN : Hid (OwnI w2 w10.heap.size v2 (G.take (j + 1)) ∧ Below w10.heap.size w10 w2) := Lib.hid ⟨by rw [HST.out]; exact H2.out, HT.out.2.trans B2.out⟩
            clear H2 B2 G2 x0 x1
            go_roundw
            case rel => exact ⟨j + 1, by omega, by go_num, HN⟩
            case measure => first | (simp [intOf]; done) | (simp [intOf]; omega)
        · obtain rfl : j = na := by omega
          rw [List.take_of_length_le (by rw [HGL.out]; exact Nat.le_refl _)] at HJ
          obtain ⟨A12, c12, rfl, hs12⟩ := own_sl_n HJ.out.1 HGL.out
          have hsw := hs12
          replace M := Lib.hid (N5.pushR hs12)
          clear hs12 hsw HJ N5
          go_wp2_with fail
          clear x0 x1
          have K := list_b c12 0 (M.out.row 1 rfl).rd (M.out.row 0 rfl).rd (by rw [HGL.out]; omega)
          rw [HGL.out] at K
          have K := Lib.hid K
          refine (K.out).mono ?_
          rintro e s1 ⟨rfl, hb⟩
          replace M := Lib.hid (M.out.next hb)
          clear hb
          clear K
          have b8 := heap_alloc_new s1 (.cells #[.int .u8 0, .slice B ts.length d] 54)
          have u8 := below_new s1 (.cells #[.int .u8 0, .slice B ts.length d] 54)
          obtain ⟨g15, eg8⟩ : ∃ g : Nat, s1.heap.size = g := ⟨_, rfl⟩
          obtain ⟨V15, ev8⟩ : ∃ V : World, s1.alloc (.cells #[.int .u8 0, .slice B ts.length d] 54) = V := ⟨_, rfl⟩
          rw [ev8, eg8] at b8
          rw [ev8] at u8
          have N5 := M.out.next u8
          replace M : Hid (M8 w V7 V15 [⟨g7, k, A7, c7, a⟩] [⟨A12, c12, G⟩, ⟨A10, j, G⟩] Al cl k L g15 (.cells #[.int .u8 0, .slice B ts.length d] 54)) := Lib.hid ⟨N5.mm, N5.own, b8, N5.wb⟩
          obtain ⟨x0, x1⟩ := (M.out.at 0 rfl).cells_n F.out.la
          have HT1 := Lib.hid (show RdQ V15 V15.heap.size B ts ∧ ts.length ≤ d ∧ d ≤ 9223372036854775807 from ⟨(HT0.out.1.below M.out.u).more M.out.u.size, HT0.out.2⟩)
          have HEB := Lib.hid F.out.eb
          have HLB := Lib.hid F.out.lb
          clear b8 u8 N5
          go_upto_region 20 with fail
          clear eg8 ev8 x0 x1
          go_upto_region 20 with fail
          obtain ⟨P, hP⟩ : ∃ P : World → Prop, (fun U => Below V15.heap.size V15 U) = P := ⟨_, rfl⟩
          have PV := Lib.hid (show ∀ U, P U → Below V15.heap.size V15 U from fun U h => by rw [← hP] at h; exact h)
          have PM := Lib.hid (show ∀ U, Below V15.heap.size V15 U → P U from fun U h => by rw [← hP]; exact h)
          have PN := Lib.hid (show ∀ U U', Hid (P U) → Below U.heap.size U U' → P U' from fun U U' h kk => by
            have h := h.out
            rw [← hP] at h ⊢
            exact h.trans (kk.mono h.size))
          have HP0 : Hid (P V15.drew) := Lib.hid (PM.out _ (Below.refl _ _).drew)
          have HPa : Hid (P (V15.alloc (.cells #[.int .i64 0, .slice none 0 0] 24)).drew) := Lib.hid (PM.out _ (below_new _ _).drew)
          have HRa : Hid (Room (V15.alloc (.cells #[.int .i64 0, .slice none 0 0] 24)).drew V15.heap.size ∧ V15.heap.size ≤ V15.heap.size) := Lib.hid ⟨Room.new V15 _ _, Nat.le_refl _⟩
          have PC := Lib.hid (show ∀ U, Hid (P U) → (U.cell? ⟨g15, 0, none⟩ = some (.int .u8 0) ∧ U.cell? ⟨g15, 1, none⟩ = some (.slice B ts.length d)) from fun U h => (M.out.next (PV.out U h.out)).box15)
          have CS := Lib.hid (show ∀ U, Hid (P U) → Calls Try.prog 25 #[.int .i64 j] U (RowN j (idL j) U) from fun U _ => refSame_n j (by omega) U)
          have CA := Lib.hid (show ∀ U B' d', Hid (P U) → SlI U B' d' (idL j) → Kd U B' → Calls Try.prog 31 #[.agg #[.int .u8 0, .slice B ts.length d], .slice B' j d'] U (RowN nb (b) U) from fun U B' d' h h1 h2 => by
            have h3 := after_n 0 (HT1.out.1.next (PV.out U h.out)) HT1.out.2.1 HT1.out.2.2 h1 h2 (idL_len j) (by omega) ((congrArg List.length HEB.out).trans HLB.out)
            rw [HEB.out] at h3
            exact h3)
          clear hP
          go_cut [17] from 82 to 87 (fun sv wx => ∃ (g : Nat) (A : Option Addr) (c : Nat), sv = .pointer (some ⟨g, 0, none⟩) ∧ Hid (P wx ∧ Mv wx g j A c (b)))
          case first =>
            go_region_held3 (fun U => U.cell? ⟨g15, 0, none⟩ = some (.int .u8 0) ∧ U.cell? ⟨g15, 1, none⟩ = some (.slice B ts.length d))
              (with_reducible exact PC.out _ (by assumption))
              (first
                | (go_at_call 25; (with_reducible refine (CS.out _ HPa).mono ?_); rintro e w1 ⟨A1, c1, rfl, hs1, hk1, kk⟩; have HQ1 := Lib.hid (PN.out _ _ HPa kk); have HR1 := Lib.hid (show _ ∧ _ from ⟨hs1, hk1⟩); have HV1 := Lib.hid (show Room w1 V15.heap.size ∧ V15.heap.size ≤ V15.heap.size from ⟨HRa.out.1.keep kk, Nat.le_refl _⟩); clear kk hs1 hk1)
                | (go_at_call 25; (with_reducible refine (CS.out _ HP0).mono ?_); rintro e w1 ⟨A1, c1, rfl, hs1, hk1, kk⟩; have HQ1 := Lib.hid (PN.out _ _ HP0 kk); have HR1 := Lib.hid (show _ ∧ _ from ⟨hs1, hk1⟩); have HQb := Lib.hid (PN.out _ _ HQ1 (below_new w1 (.cells #[.int .i64 0, .slice none 0 0] 24))); have HRb := Lib.hid (show _ ∧ _ from ⟨hs1.next (below_new w1 (.cells #[.int .i64 0, .slice none 0 0] 24)), hk1.next (below_new w1 (.cells #[.int .i64 0, .slice none 0 0] 24))⟩); have HVb := Lib.hid (show Room (w1.alloc (.cells #[.int .i64 0, .slice none 0 0] 24)) w1.heap.size ∧ V15.heap.size ≤ w1.heap.size from ⟨Room.new w1 _ _, (PV.out _ HQ1.out).size⟩); clear kk hs1 hk1)
                | (go_at_call 31; (with_reducible refine (CA.out _ _ _ HQb HRb.out.1 HRb.out.2).mono ?_); rintro e w2 ⟨A2, c2, rfl, hs2, hk2, kk⟩; have HQ2 := Lib.hid (PN.out _ _ HQb kk); have hrm := HVb.out.1.keep kk; have hfin := Lib.hid (show P ((w2.setCell ⟨w1.heap.size, 0, none⟩ (.int .i64 j)).setCell ⟨w1.heap.size, 1, none⟩ (.slice A2 nb c2)) ∧ Mv ((w2.setCell ⟨w1.heap.size, 0, none⟩ (.int .i64 j)).setCell ⟨w1.heap.size, 1, none⟩ (.slice A2 nb c2)) w1.heap.size j A2 c2 (b) from ⟨PM.out _ (below_set2 (PV.out _ HQ2.out) HVb.out.2), mv_set2 HLB.out hs2 hk2 hrm⟩); have HQ3 := Lib.hid hfin.out.1; obtain ⟨u, v, r0, r1, f0, f1⟩ := hrm.open_; clear kk hs2 hk2 hrm)
                | (go_at_call 31; (with_reducible refine (CA.out _ _ _ HQ1 HR1.out.1 HR1.out.2).mono ?_); rintro e w2 ⟨A2, c2, rfl, hs2, hk2, kk⟩; have HQ2 := Lib.hid (PN.out _ _ HQ1 kk); have hrm := HV1.out.1.keep kk; have hfin := Lib.hid (show P ((w2.setCell ⟨V15.heap.size, 0, none⟩ (.int .i64 j)).setCell ⟨V15.heap.size, 1, none⟩ (.slice A2 nb c2)) ∧ Mv ((w2.setCell ⟨V15.heap.size, 0, none⟩ (.int .i64 j)).setCell ⟨V15.heap.size, 1, none⟩ (.slice A2 nb c2)) V15.heap.size j A2 c2 (b) from ⟨PM.out _ (below_set2 (PV.out _ HQ2.out) HV1.out.2), mv_set2 HLB.out hs2 hk2 hrm⟩); have HQ3 := Lib.hid hfin.out.1; obtain ⟨u, v, r0, r1, f0, f1⟩ := hrm.open_; clear kk hs2 hk2 hrm)
                | (go_at_call 31; (with_reducible refine (CA.out _ _ _ HQ1 HR1.out.1 HR1.out.2).mono ?_); rintro e w2 ⟨A2, c2, rfl, hs2, hk2, kk⟩; have HQ2 := Lib.hid (PN.out _ _ HQ1 kk); have hfin := Lib.hid (show P (w2.alloc (.cells #[.int .i64 j, .slice A2 nb c2] 24)) ∧ Mv (w2.alloc (.cells #[.int .i64 j, .slice A2 nb c2] 24)) w2.heap.size j A2 c2 (b) from ⟨PN.out _ _ HQ2 (below_new _ _), mv_new_n HLB.out hs2⟩); have HQ3 := Lib.hid hfin.out.1; have HQ4 := Lib.hid (PN.out _ _ HQ2 (below_new w2 (.cells #[.int .i64 0, .slice none 0 0] 24))); clear kk hs2 hk2))
            all_goals (
              go_wp2_with fail
              go_meet
              exact ⟨_, A2, c2, rfl, hfin⟩)
          case rest =>
          obtain ⟨g17, A17, c17, rfl, HF⟩ := hcut
          replace M := Lib.hid ((M.out.next (PV.out _ HF.out.1)).add HF.out.2)
          rename World => W17
          clear HF PV PM PN HP0 HPa HRa PC CS CA
          obtain ⟨x0, x1⟩ := (M.out.at 1 rfl).cells_n F.out.la
          obtain ⟨y0, y1⟩ := (M.out.at 0 rfl).cells_n F.out.lb
          go_wp2_with fail
          clear x0 x1 y0 y1
          have K := compose_any k j (M.out.at 1 rfl).sl (M.out.at 0 rfl).sl
          rw [F.out.e1, F.out.la, F.out.lb] at K
          have K := Lib.hid K
          refine (K.out).mono ?_
          intro e w18 h
          obtain ⟨A18, rfl, hs, hf, hb⟩ := map_at h (n := nb) F.out.lab
          have hN := (M.out.next hb).pushM (o := k) (n := nb) F.out.lab hs
          obtain ⟨g18, eg⟩ : ∃ g : Nat, w18.heap.size = g := ⟨_, rfl⟩
          obtain ⟨V18, ev⟩ : ∃ V : World, w18.alloc (.cells #[.int .i64 k, .slice A18 nb nb] 24) = V := ⟨_, rfl⟩
          rw [eg, ev] at hN
          replace M := Lib.hid hN
          clear h hs hf hb hN
          clear K
          obtain ⟨x0, x1⟩ := (M.out.at 1 rfl).cells_n F.out.lb
          go_wp2_with fail
          clear eg ev x0 x1
          have K := carry_far (M.out.at 1 rfl).sl (M.out.row 1 rfl) HVB.out HGL.out
          rw [HCB.out, F.out.lb, HGL.out] at K
          have K := Lib.hid K
          refine K.out.mono ?_
          rintro e w20 ⟨A20, rfl, hs, hf, hb⟩
          have HNP := Lib.hid (M.out.ne hf)
          have hN := (M.out.next hb).pushR hs
          replace M := Lib.hid hN
          clear K hs hf hb hN
          obtain ⟨x0, x1⟩ := (M.out.at 0 rfl).cells_n F.out.lab
          go_wp2_with fail
          clear x0 x1
          have K := carry_far (M.out.at 0 rfl).sl M.out.sl HVAB.out HLL.out
          rw [HCAB.out, F.out.lab, HLL.out] at K
          have K := Lib.hid K
          refine K.out.mono ?_
          rintro e w22 ⟨A22, rfl, hs, hf, hb⟩
          have HNQ := Lib.hid (M.out.ne hf)
          have hN := (M.out.next hb).pushR hs
          replace M := Lib.hid hN
          clear K hs hf hb hN
          go_upto_region 24 with fail
          obtain ⟨P, hP⟩ : ∃ P : World → Prop, (fun U => Below V7.heap.size V7 U) = P := ⟨_, rfl⟩
          have PV := Lib.hid (show ∀ U, P U → Below V7.heap.size V7 U from fun U h => by rw [← hP] at h; exact h)
          have PM := Lib.hid (show ∀ U, Below V7.heap.size V7 U → P U from fun U h => by rw [← hP]; exact h)
          have PN := Lib.hid (show ∀ U U', Hid (P U) → Below U.heap.size U U' → P U' from fun U U' h kk => by
            have h := h.out
            rw [← hP] at h ⊢
            exact h.trans (kk.mono h.size))
          have HP0 : Hid (P w22.drew) := Lib.hid (PM.out _ M.out.wb.drew)
          have hbl := below_new w22 (.cells #[.int .i64 1] 3)
          have N1 := M.out.next hbl.drew
          have N0 := M.out.next hbl
          have HPa : Hid (P (w22.alloc (.cells #[.int .i64 1] 3)).drew) := Lib.hid (PM.out _ N1.wb)
          have HPb : Hid (P (w22.alloc (.cells #[.int .i64 1] 3))) := Lib.hid (PM.out _ N0.wb)
          have HO1 : Hid (OwnI (w22.alloc (.cells #[.int .i64 1] 3)).drew V7.heap.size (.slice Al k cl) L) := Lib.hid N1.own
          have HX1 : Hid (SlI (w22.alloc (.cells #[.int .i64 1] 3)).drew (some ⟨w22.heap.size, 0, none⟩) 1 [1]) := Lib.hid ((sl_one w22 1).next (Below.refl _ _).drew)
          have HRP : Hid (SlI (w22.alloc (.cells #[.int .i64 1] 3)).drew A20 nb R) := Lib.hid (N1.row 1 rfl)
          have HRQ : Hid (SlI (w22.alloc (.cells #[.int .i64 1] 3)).drew A22 nb R) := Lib.hid (N1.row 0 rfl)
          have PC := Lib.hid (show ∀ U, Hid (P U) → (U.cell? ⟨g7, 0, none⟩ = some (.int .i64 k) ∧ U.cell? ⟨g7, 1, none⟩ = some (.slice A7 j c7)) from fun U h => ((M7.out.next (PV.out U h.out)).at 0 rfl).cells_n F.out.la)
          have C17 := Lib.hid (show ∀ U B' d', Hid (P U) → SlI U B' d' (L ++ [1]) → Calls Try.prog 17 #[.agg #[.int .i64 k, .slice A7 j c7], .slice B' (k + 1) d'] U (RowX ([], 16) U) from fun U B' d' h hs => by
            have K := carry_len k ((M7.out.next (PV.out U h.out)).at 0 rfl).sl hs HVA.out (by rw [List.length_append, HLL.out]; simp only [List.length_cons, List.length_nil]; omega)
            rw [F.out.la, List.length_append, HLL.out] at K
            exact K)
          have HUW := Lib.hid (show ∀ U, P U → Below w.heap.size w U from fun U h => M7.out.u.trans ((PV.out U h).mono M7.out.u.size))
          clear hP hbl N1 N0
          go_region_held3 (fun U => U.cell? ⟨g7, 0, none⟩ = some (.int .i64 k) ∧ U.cell? ⟨g7, 1, none⟩ = some (.slice A7 j c7))
            (with_reducible exact PC.out _ (by assumption))
            (first
              | (refine step_appG rfl (.tmp 108) (.tmp 109) rfl V7.heap.size _ L rfl _ 1 [1] 1 rfl rfl HO1.out HX1.out (by rw [HLL.out]; simp; omega) (PV.out _ HPa.out).size ?_
                 intro v1 w26 H1 B1 G1
                 have HP2 := Lib.hid (PM.out _ ((PV.out _ HPa.out).trans B1.out))
                 have HRP2 := Lib.hid (sl_grown HRP.out G1.out G1.out.size HNP.out)
                 have HRQ2 := Lib.hid (sl_grown HRQ.out G1.out G1.out.size HNQ.out)
                 obtain ⟨A26, c26, rfl, hs26⟩ := own_sl_n (n := k + 1) H1.out (by rw [List.length_append, HLL.out]; rfl)
                 have HS26 := Lib.hid hs26
                 clear H1 B1 G1 hs26)
              | (go_at_call 17; (with_reducible refine (C17.out _ _ _ (by assumption) HS26.out).mono ?_); intro e w27 h; obtain ⟨A27, rfl, _, kk⟩ := rowX_at h (show ([] : List Int).length = 0 from rfl); have HP3 := Lib.hid (PN.out _ _ (by assumption) kk); have HRP3 := Lib.hid (HRP2.out.next kk); have HRQ3 := Lib.hid (HRQ2.out.next kk); clear kk h))
          have K := list_b nb 0 HRQ3.out.rd HRP3.out.rd (by rw [HRL.out]; omega)
          rw [HRL.out] at K
          have K := Lib.hid K
          go_wp2_with fail
          refine K.out.mono ?_
          rintro e w28 ⟨rfl, kk⟩
          have HU := Lib.hid ((HUW.out _ HP3.out).trans (kk.mono (HUW.out _ HP3.out).size))
          clear K kk
          go_wp2_with fail
          refine (lives_any w28).mono ?_
          rintro e w29 ⟨rfl, kk⟩
          have HU2 := Lib.hid (HU.out.trans (kk.mono HU.out.size))
          clear kk HU
          go_wp2_with fail
          go_ret
          exact ⟨rfl, HU2.out⟩
end Go.Proofs.Ytakgnpmfnechhaa
