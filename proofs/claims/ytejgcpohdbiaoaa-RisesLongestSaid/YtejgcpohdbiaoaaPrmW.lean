/- The law's P: its orders. -/
import Derived.Test.YtejgcpohdbiaoaaBase
import Derived.Deep.Cut
import Derived.Deep.CutRange
namespace Go.Proofs.Ytejgcpohdbiaoaa
open Go.RowKit

/-- bytes that are read -/
def RdU (w : World) (B : Nat) (A : Option Addr) (us : List Nat) : Prop :=
  ∀ k (h : k < us.length), ∃ b o, A = some ⟨b, o, none⟩ ∧ b < B ∧ w.cell? ⟨b, o + k, none⟩ = some (.int .u8 (us[k] : Nat)) ∧ us[k] ≤ 255
theorem RdU.below {w w' : World} {B : Nat} {A : Option Addr} {us : List Nat} (h : RdU w B A us) (hb : Below B w w') : RdU w' B A us := fun k hl => by
  obtain ⟨b, o, e, hl2, h1, h2⟩ := h k hl
  exact ⟨b, o, e, hl2, (hb.cell (p := ⟨b, o + k, none⟩) hl2).trans h1, h2⟩
/-- the numbers of an order -/
def numB (F n : Nat) : List Int := (List.range n).map fun k : Nat => ((F : Int) + 3 * (k : Int))
def numL (N F : Nat) : List Int := numB F (N % 41)
theorem numL_len (N F : Nat) : (numL N F).length = N % 41 := by simp [numL, numB]
def lenV : Value → Nat
  | .slice _ n _ => n
  | _ => 0
/-- append, for the walk, with what is known of where the new row lies -/
theorem wp_app3 {w : World} {ops : Array Oper} {rest : List Oper} {o : Oper} {a : Act} {Q : Exit → Act → World → Prop} (hgd : o.guard = none) (s x : Operand) (ho : o.op = .call { callee := .builtin .append, args := #[s, x], argTypes := #[22, 22] })
    (base : Nat) (v : Value) (l : List Int) (hs : a.eval s = v) (b c : Nat) (y : Int) (hx : a.eval x = .slice (some ⟨b, 0, none⟩) 1 c) (hk : w.cell? ⟨b, 0, none⟩ = some (.int .i64 y)) (hown : OwnI w base v l) (hlen : l.length ≤ 1000000) (hbase : base ≤ w.heap.size)
    (h : ∀ v' w', Hid (OwnI w' base v' (l ++ [y])) → Hid (Below base w w') → Hid (w.grownBy w' v.ownBlock) → Hid (v'.ownBlock = v.ownBlock ∨ v'.ownBlock = some w.heap.size) → wpList Try.prog ops Q rest (a.put o.dst v') w') : wpList Try.prog ops Q (o :: rest) a w := by
  refine wpList_plain hgd fun K hK => ?_
  obtain ⟨i0, hi0, hz0, hz1, hz2⟩ := info_parts info3
  have hown' : w.ownsRow base 3 1 v l.length (iv l) := hown
  obtain ⟨v', w', hr, h2, h3, _, h5⟩ := run_append_own_at (P := Try.prog) w base 22 o.type 3 i0 (.int .i64 0) 1 8 Try.underlying22 hi0 hz0 hz1 hz2 rfl (by omega) v _ _ hown' ⟨b, 0, none⟩ 1 c [.int .i64 y] rfl (fun j u hj => by
    match j, hj with
    | 0, hj => injection hj with hj; subst hj; rw [add_plain]; exact hk) (fun u hu => by simp at hu; subst hu; rfl) (by simp [maxLen]; omega) (by omega) hbase
  unfold Oper.wp execOp
  simp only [ho, resolve, invoke, builtin, Sem.run_bind, Sem.run_pure, Result.andThen_ok, List.map_toArray, List.map_cons, List.map_nil, hs, hx, hr]
  exact hK _ _ (h v' w' (Lib.hid (by unfold OwnI; rw [iv_app, List.length_append]; exact h2)) (Lib.hid ((Below.refl _ _).grown h3 hbase (fun j e => (hown'.lt j e).1))) (Lib.hid h3) (Lib.hid h5))
theorem SlI.rest {w : World} {A : Option Addr} {c : Nat} {l : List Int} (h : SlI w A c l) (i : Nat) (hi : i ≤ l.length) : SlI w (if c = i then A else A.map fun x => x.add i) (c - i) (l.drop i) := by
  refine ⟨fun k hk => ?_, by have := h.le; rw [List.length_drop]; omega, by have := h.max; omega, fun hA => ?_⟩
  · rw [List.length_drop] at hk
    obtain ⟨b, o, e, hb, hc⟩ := h.rd (i + k) (by omega)
    have hne : c ≠ i := by have := h.le; omega
    refine ⟨b, o + i, ?_, hb, ?_⟩
    · rw [if_neg hne, e, Option.map_some, add_plain]
    · rw [List.getElem_drop, ← hc, Nat.add_assoc]
  · by_cases hc : c = i
    · omega
    · rw [if_neg hc] at hA
      cases A with
      | none => have := h.nil rfl; omega
      | some a => cases hA
theorem OwnI.sl_of {w : World} {base c n : Nat} {A : Option Addr} {l : List Int} (h : OwnI w base (.slice A n c) l) : SlI w A c l := by
  obtain ⟨A', c', e, hs⟩ := h.sl
  injection e with e1 _ e3
  subst e1; subst e3
  exact hs
/-- the numbers that are left, and those that were taken -/
structure OdI (w0 wr : World) (v o : Value) (N F : Nat) (R O : List Int) : Prop where
  rest : OwnI wr w0.heap.size v R
  out : OwnI wr w0.heap.size o O
  apart : v.ownBlock = none ∨ v.ownBlock ≠ o.ownBlock
  perm : (O ++ R).Perm (numL N F)
  u : Below w0.heap.size w0 wr
theorem OdI.next {w0 wr w' : World} {v o : Value} {N F : Nat} {R O : List Int} (h : OdI w0 wr v o N F R O) (hb : Below wr.heap.size wr w') : OdI w0 w' v o N F R O :=
  ⟨own_next h.rest hb, own_next h.out hb, h.apart, h.perm, h.u.trans (hb.mono h.u.size)⟩
theorem OdI.len {w0 wr : World} {v o : Value} {N F : Nat} {R O : List Int} (h : OdI w0 wr v o N F R O) : R.length ≤ 40 ∧ O.length ≤ 40 := by
  have := h.perm.length_eq
  rw [List.length_append, numL_len] at this
  omega
/-- the first loop -/
structure OaI (w0 wr : World) (v : Value) (F i : Nat) : Prop where
  own : OwnI wr w0.heap.size v (numB F i)
  u : Below w0.heap.size w0 wr
theorem OaI.next {w0 wr w' : World} {v : Value} {F i : Nat} (h : OaI w0 wr v F i) (hb : Below wr.heap.size wr w') : OaI w0 w' v F i := ⟨own_next h.own hb, h.u.trans (hb.mono h.u.size)⟩
set_option maxRecDepth 100000 in
set_option maxHeartbeats 4000000 in
theorem order_any {w : World} {A : Option Addr} (c : Nat) {us : List Nat} (N F : Nat) (x2 x3 : Value) (h : RdU w w.heap.size A us) (hN : N ≤ 255) (hF : F ≤ 255) (_hl : us.length ≤ 9223372036854775807) :
    Calls Try.prog 25 #[.agg #[.int .u8 N, .int .u8 F, x2, x3], .slice A us.length c] w fun e w' => ∃ l A' c', l.Perm (numL N F) ∧ e = .returned (.slice A' (l : List Int).length c') ∧ SlI w' A' c' l ∧ Below w.heap.size w w' := by
  have HU := Lib.hid h
  obtain ⟨n, hn⟩ : ∃ n, N % 41 = n := ⟨_, rfl⟩
  have hn2 : ((N : Int)) % 41 = (n : Int) := by omega
  have hn4 : n ≤ 40 := by omega
  clear h
  go_enter Try.func25, Try.ntmps25
  go_upto_region 3 with fail
  obtain ⟨g, hg⟩ : ∃ g : Nat, w.heap.size = g := ⟨_, rfl⟩
  obtain ⟨V, hV⟩ : ∃ V : World, w.alloc (.cells #[.int .u8 N, .int .u8 F, x2, x3] 34) = V := ⟨_, rfl⟩
  have hbox : V.heap[g]? = some (.cells #[.int .u8 N, .int .u8 F, x2, x3] 34 (0, 0)) := by rw [← hV]; exact new_at _ hg
  have hbv : Below w.heap.size w V := by rw [← hV]; exact below_new _ _
  have v0 : V.cell? ⟨g, 0, none⟩ = some (.int .u8 N) := cell_of_row _ _ 0 _ 34 (0, 0) hbox
  have v1 : V.cell? ⟨g, 1, none⟩ = some (.int .u8 F) := cell_of_row _ _ 1 _ 34 (0, 0) hbox
  have HV := Lib.hid hbv
  have HG := Lib.hid (heap_lt hbox)
  have H0 : Hid (OaI V V (.slice none 0 0) F 0) := Lib.hid ⟨own_nil _ _, Below.refl _ _⟩
  rw [hV, hg]
  have HN := Lib.hid hn
  clear hV hg hbox hbv hn
  go_wp2_with fail
  go_loopw [5, 7] (fun o v wr => ∃ i : Nat, i ≤ n ∧ v = .int .i64 i ∧ Hid (OaI V wr o F i)) (fun _ v _ => n - (intOf v).toNat)
  case atStart => exact ⟨0, Nat.zero_le _, rfl, H0⟩
  case round =>
    clear H0
    obtain ⟨i, hi, rfl, HI⟩ := hrel
    have w0 : wr.cell? ⟨g, 0, none⟩ = some (.int .u8 N) := (HI.out.u.cell (p := ⟨g, 0, none⟩) HG.out).trans v0
    have w1 : wr.cell? ⟨g, 1, none⟩ = some (.int .u8 F) := (HI.out.u.cell (p := ⟨g, 1, none⟩) HG.out).trans v1
    by_cases hlt : i < n
    · obtain ⟨y, hy⟩ : ∃ y : Int, (F : Int) + 3 * (i : Int) = y := ⟨_, rfl⟩
      have HI2 := Lib.hid (HI.out.next (below_new wr (.cells #[.int .i64 y] 3)))
      have hk0 := Lib.hid (cell_of_row _ _ 0 _ 3 (0, 0) (heap_alloc_new wr (.cells #[.int .i64 y] 3)))
      have hT : Hid (numB F (i + 1) = numB F i ++ [y]) := Lib.hid (by unfold numB; rw [List.range_succ, List.map_append, ← hy]; rfl)
      have hlen : (numB F i).length ≤ 1000000 := by unfold numB; simp; omega
      go_wp2_with (
        at_builtin
        refine wp_app3 rfl (.tmp 18) (.tmp 25) rfl V.heap.size _ (numB F i) rfl wr.heap.size 1 y rfl hk0.out HI2.out.own hlen HI2.out.u.size ?_
        intro v3 w3 H3 B3 G3 A3)
      have HN2 : Hid (OaI V w3 v3 F (i + 1)) := Lib.hid ⟨by rw [hT.out]; exact H3.out, HI2.out.u.trans B3.out⟩
      clear H3 B3 G3 A3 HI2
      go_roundw
      case rel => exact ⟨i + 1, by omega, by go_num, HN2⟩
      case measure => first | (simp [intOf]; done) | (simp [intOf]; omega)
    · obtain rfl : i = n := by omega
      obtain ⟨A1, c1, rfl, hs1⟩ := HI.out.own.sl
      have H1 : Hid (OdI V wr (.slice A1 (numB F i).length c1) (.slice none 0 0) N F (numL N F) []) := Lib.hid ⟨by unfold numL; rw [HN.out]; exact HI.out.own, own_nil _ _, by cases A1 <;> simp [Value.ownBlock], List.Perm.refl _, HI.out.u⟩
      have hnl : (numB F i).length = (numL N F).length := by unfold numL; rw [HN.out]
      have hs1m := hs1.max
      have hs1l := hs1.le
      rw [hnl] at H1 hs1l ⊢
      have HNL := Lib.hid hnl
      clear hs1 HI w1 hlt hnl
      go_wp2_with fail
      rw [hn2]
      clear w0 hn2
      go_loopw [5, 6, 8] (fun r o v wk => ∃ (j : Nat) (R O : List Int) (A2 : Option Addr) (c2 : Nat), r = .slice A2 R.length c2 ∧ v = .int .i64 j ∧ j ≤ 1000000 - R.length ∧ Hid (OdI V wk r o N F R O)) (fun r _ _ _ => lenV r)
      case atStart => exact ⟨0, numL N F, [], A1, c1, rfl, rfl, Nat.zero_le _, H1⟩
      case round =>
        clear H1
        obtain ⟨j, R, O, A2, c2, rfl, rfl, hj, HI⟩ := hrel
        obtain ⟨hR, hO⟩ := HI.out.len
        rcases Nat.eq_zero_or_pos R.length with h0 | hp
        · obtain rfl : R = [] := List.eq_nil_of_length_eq_zero h0
          have hpm := HI.out.perm
          rw [List.append_nil] at hpm
          obtain ⟨A3, c3, rfl, hs3⟩ := HI.out.out.sl
          have HP := Lib.hid hpm
          have HS3 := Lib.hid hs3
          have hu := HI.out.u
          clear hpm hs3 h0
          rw [show ([] : List Int).length = 0 from rfl]
          go_wp2_with fail
          go_ret
          exact ⟨O, A3, c3, HP.out, rfl, HS3.out, HV.out.trans (hu.mono HV.out.size)⟩
        · have hR0 : ¬ (R.length = 0) := by omega
          go_upto_if 35 with fail
          go_cut [9] from 36 to 43 (fun s9 wx => ∃ k : Nat, s9 = .int .i64 k ∧ k < R.length ∧ wr = wx)
          case first =>
            by_cases hju : j < us.length
            · obtain ⟨b1, o1, rfl, hb1, hcu, hu4⟩ := (HU.out.below (HV.out.trans (HI.out.u.mono HV.out.size))) j hju
              obtain ⟨u, hu⟩ : ∃ u, us[j] = u := ⟨_, rfl⟩
              rw [hu] at hcu hu4
              obtain ⟨k, hk⟩ : ∃ k, u % R.length = k := ⟨_, rfl⟩
              have hkR : k < R.length := by rw [← hk]; exact Nat.mod_lt _ hp
              have hkk : (u : Int) % (R.length : Int) = (k : Int) := by rw [← hk]; simp
              clear hu hk hb1
              go_wp2_with fail
              go_meet
              exact ⟨k, by rw [hkk], hkR, rfl⟩
            · go_wp2_with fail
              go_meet
              exact ⟨0, rfl, hp, rfl⟩
          case rest =>
            obtain ⟨k, rfl, hkR, rfl⟩ := hcut
            go_upto_region 12 with fail
            obtain ⟨b9, o9, rfl, _, hcx⟩ := HI.out.rest.sl_of.rd k hkR
            obtain ⟨x, hx⟩ : ∃ x, R[k] = x := ⟨_, rfl⟩
            rw [hx] at hcx
            have hsl0 := HI.out.rest.sl_of
            have hle9 := hsl0.le
            have hmx9 := hsl0.max
            have HI2 := Lib.hid (HI.out.next (below_new wr (.cells #[.int .i64 x] 3)))
            have hk0 := Lib.hid (cell_of_row _ _ 0 _ 3 (0, 0) (heap_alloc_new wr (.cells #[.int .i64 x] 3)))
            have hPm : ((O ++ [x]) ++ (R.take k ++ R.drop (k + 1))).Perm (numL N F) := by
              refine List.Perm.trans ?_ HI.out.perm
              have e : R = R.take k ++ x :: R.drop (k + 1) := by
                conv => lhs; rw [← List.take_append_drop k R, List.drop_eq_getElem_cons hkR, hx]
              rw [List.append_assoc]
              refine List.Perm.append_left O ?_
              show (x :: (R.take k ++ R.drop (k + 1))).Perm R
              exact (List.perm_middle (l₁ := R.take k) (a := x) (l₂ := R.drop (k + 1))).symm.trans (List.Perm.of_eq e.symm)
            have HPM := Lib.hid hPm
            clear hx hPm hsl0
            go_wp2_with (
              at_builtin
              refine wp_app3 rfl (.tmp 44) (.tmp 49) rfl V.heap.size _ O rfl wr.heap.size 1 x rfl hk0.out HI2.out.out (by omega) HI2.out.u.size ?_
              intro v3 w3 H3 B3 G3 A3)
            have HRst : Hid (OwnI w3 V.heap.size (.slice (some ⟨b9, o9, none⟩) R.length c2) R) := Lib.hid (World.ownsRow.kept HI2.out.rest G3.out HI2.out.apart)
            have HU3 := Lib.hid (HI2.out.u.trans B3.out)
            have HO3 := Lib.hid H3.out
            have hti : (R.take k).length = k := by rw [List.length_take]; omega
            have hdl : (R.drop (k + 1)).length = R.length - (k + 1) := List.length_drop
            have hsl := HRst.out.sl_of
            have HO : Hid (OwnI ((w3.alloc (.cells #[] 3)).drew) w3.heap.size (.slice (some ⟨w3.heap.size, 0, none⟩) 0 0) []) := Lib.hid (own_made0 w3)
            have HB : Hid (Below w3.heap.size w3 ((w3.alloc (.cells #[] 3)).drew)) := Lib.hid ((below_new w3 _).drew)
            have HS0 := Lib.hid ((hsl.next HB.out).head k)
            obtain ⟨A5, hA5⟩ : ∃ A5, (if c2 = k + 1 then some ⟨b9, o9, none⟩ else (some (⟨b9, o9, none⟩ : Addr)).map fun x => x.add (k + 1)) = A5 := ⟨_, rfl⟩
            have HP : Hid (∀ w', Below w3.heap.size w3 w' → SlI w' A5 (c2 - (k + 1)) (R.drop (k + 1))) := Lib.hid (fun w' hb => by
              have := (hsl.next hb).rest (k + 1) (by omega)
              rw [hA5] at this
              exact this)
            have hA5' : (if c2 = k + 1 then some ⟨b9, o9, none⟩ else some ((⟨b9, o9, none⟩ : Addr).add (k + 1))) = A5 := hA5
            rw [add_plain] at hA5'
            have z1 : (k : Int) ≤ (c2 : Int) := by omega
            have z2 : (0 : Int) ≤ (k : Int) + 1 := by omega
            have z3 : (k : Int) + 1 ≤ (R.length : Int) := by omega
            have hw1 : IntKind.i64.wrap ((k : Int) + 1) = ((k + 1 : Nat) : Int) := by rw [IntWalk.i64_in _ (by omega)]; rfl
            clear hsl HI HI2 H3 B3 G3 A3 hk0 hcx hA5
            go_region_law (first
                | (refine step_app rfl (.tmp 51) (.tmp 54) rfl w3.heap.size _ [] rfl (some ⟨b9, o9, none⟩) c2 (R.take k) k rfl hti.symm HO.out HS0.out (by simp; omega) HB.out.size ?_
                   intro v4 w4 H4 B4)
                | (refine step_app rfl (.tmp 55) (.tmp 59) rfl w3.heap.size v4 ([] ++ R.take k) rfl A5 (c2 - (k + 1)) (R.drop (k + 1)) (R.length - (k + 1)) rfl hdl.symm H4.out (HP.out _ (HB.out.trans B4.out)) (by simp only [List.nil_append]; omega) (HB.out.trans B4.out).size ?_
                   intro v5 w5 H5 B5))
            obtain ⟨R6, hR6⟩ : ∃ R6, [] ++ R.take k ++ R.drop (k + 1) = R6 := ⟨_, rfl⟩
            have hl6 : R6.length = R.length - 1 := by rw [← hR6]; simp; omega
            rw [hR6] at H5
            have hp6 : R6 = R.take k ++ R.drop (k + 1) := by rw [← hR6, List.nil_append]
            obtain ⟨A6, c6, rfl, hs6⟩ := H5.out.sl
            have HN6 : Hid (OdI V w5 (.slice A6 R6.length c6) v3 N F R6 (O ++ [x])) := Lib.hid {
              rest := own_le H5.out HU3.out.size
              out := own_next HO3.out ((HB.out.trans B4.out).trans B5.out)
              apart := by
                cases hA6 : A6 with
                | none => exact .inl rfl
                | some a6 =>
                  refine .inr fun e => ?_
                  have h1 := (World.ownsRow.lt H5.out a6.block (by rw [hA6]; rfl)).1
                  have h2 := (World.ownsRow.lt HO3.out a6.block e.symm).2
                  omega
              perm := by rw [hp6]; exact HPM.out
              u := HU3.out.trans (((HB.out.trans B4.out).trans B5.out).mono HU3.out.size) }
            have HL6 := Lib.hid hl6
            clear hs6 hl6 hR6 hp6 H4 B4 H5 B5 HO HB HS0 HP HRst hti hdl hA5'
            go_wp2_with fail
            go_roundw
            case rel => exact ⟨j + 1, _, _, A6, c6, rfl, by go_num, by rw [HL6.out]; omega, HN6⟩
            case measure => show R6.length < R.length; rw [HL6.out]; omega
end Go.Proofs.Ytejgcpohdbiaoaa
