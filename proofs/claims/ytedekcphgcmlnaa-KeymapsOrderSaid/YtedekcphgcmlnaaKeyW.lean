/- Keys, given what slices.Sort does. -/
import Derived.Test.YtedekcphgcmlnaaCopW
namespace Go.Proofs.Ytedekcphgcmlnaa
open Go.RowKit

theorem info27 : (Try.prog.info? 27).map (fun i => (i.zero, i.size, i.bytes)) = some (some (.int .u64 0), 1, 8) := by kernel_rfl
def uv (zs : List Int) : List Value := zs.map (Value.int .u64)
/-- the numbers lie in block g -/
def RU (w : World) (g : Nat) (zs : List Int) : Prop := w.heap[g]? = some (.cells (uv zs).toArray 27 (0, 0))
theorem RU.cell {w : World} {g : Nat} {zs : List Int} (h : RU w g zs) {i : Nat} {x : Int} (hx : zs[i]? = some x) : w.cell? ⟨g, i, none⟩ = some (.int .u64 x) := by
  refine (cell_of_row _ _ i _ 27 (0, 0) h).trans ?_
  simp [uv, hx]
theorem RU.frozen {w : World} {g : Nat} {zs : List Int} (h : RU w g zs) (i : Nat) : w.frozen? ⟨g, i, none⟩ = false := frozen_of_row w g i _ 27 h
theorem RU.keep {w w' : World} {g : Nat} {zs : List Int} (h : RU w g zs) (hb : w'.heap[g]? = w.heap[g]?) : RU w' g zs := hb.trans h
theorem RU.set {w : World} {g : Nat} {zs : List Int} (h : RU w g zs) (i : Nat) (x : Int) : RU (w.setCell ⟨g, i, none⟩ (.int .u64 x)) g (zs.set i x) := by
  unfold RU uv
  rw [List.map_set]
  exact row_set h
/-- what slices.Sort does to at most N numbers -/
def SortU (N : Nat) : Prop := ∀ (w : World) (g : Nat) (zs : List Int), zs.length ≤ N → RU w g zs →
  Calls Try.prog 29 #[.slice (some ⟨g, 0, none⟩) zs.length zs.length] w fun e w' => e = .returned (.tuple #[]) ∧ (∃ zs', RU w' g zs' ∧ zs'.Perm zs ∧ zs'.Pairwise (· ≤ ·)) ∧ Fr w w' g g
/-- what Keys gives -/
def Keyd (L : PL) (w : World) (e : Ending) (w' : World) : Prop :=
  ((L = [] ∧ e = .returned (.slice none 0 0)) ∨ (∃ g, e = .returned (.slice (some ⟨g, 0, none⟩) L.length L.length) ∧ RU w' g (L.map (·.1)) ∧ w.heap.size ≤ g)) ∧ Below w.heap.size w w'
theorem keys_nil (w : World) : Calls Try.prog 21 #[.pointer none] w fun e w' => e = .returned (.slice none 0 0) ∧ w' = w := by
  have h1 := Lib.hid (len_nil w)
  go_enter Try.func21, Try.ntmps21
  go_wp2_with fail
  refine h1.out.mono ?_
  rintro e w1 ⟨rfl, rfl⟩
  go_wp2_with fail
  go_ret
  exact ⟨rfl, rfl⟩
theorem keys_none {w : World} {b s : Nat} {S : List Sl} (h : Mp w b s S) (hl : (prs S).length = 0) : Calls Try.prog 21 #[.pointer (some ⟨b, 0, none⟩)] w fun e w' => e = .returned (.slice none 0 0) ∧ w' = w := by
  have h1 := len_any h
  rw [hl] at h1
  have H1 := Lib.hid h1
  clear h h1 hl
  go_enter Try.func21, Try.ntmps21
  go_wp2_with fail
  refine H1.out.mono ?_
  rintro e w1 ⟨rfl, rfl⟩
  go_wp2_with fail
  go_ret
  exact ⟨rfl, rfl⟩
theorem wp_app48 {w : World} {ops : Array Oper} {rest : List Oper} {o : Oper} {a : Act} {Q : Exit → Act → World → Prop} (hgd : o.guard = none) (s x : Operand) (ho : o.op = .call { callee := .builtin .append, args := #[s, x], argTypes := #[48, 48] })
    (base g n cap : Nat) (hs : a.eval s = .slice (some ⟨g, 0, none⟩) n cap) (zs : List Int) (hown : w.ownsRow base 27 1 (.slice (some ⟨g, 0, none⟩) n cap) n (uv zs)) (b c : Nat) (k : Int) (hx : a.eval x = .slice (some ⟨b, 0, none⟩) 1 c) (hk : w.cell? ⟨b, 0, none⟩ = some (.int .u64 k)) (hroom : n + 1 ≤ cap) (hbase : base ≤ w.heap.size)
    (h : ∀ w', Hid (w'.ownsRow base 27 1 (.slice (some ⟨g, 0, none⟩) (n + 1) cap) (n + 1) (uv (zs ++ [k]))) → Hid (Below base w w') → wpList Try.prog ops Q rest (a.put o.dst (.slice (some ⟨g, 0, none⟩) (n + 1) cap)) w') : wpList Try.prog ops Q (o :: rest) a w := by
  refine wpList_plain hgd fun K hK => ?_
  obtain ⟨i0, hi0, hz0, hz1, hz2⟩ := info_parts info27
  obtain ⟨w', hr, h2, h3⟩ := run_append_fits (P := Try.prog) w base 48 o.type 27 i0 1 Try.underlying48 hi0 hz1 g n cap (uv zs) hown ⟨b, 0, none⟩ 1 c [.int .u64 k] rfl (fun j u hj => by
    cases j with
    | zero => injection hj with hj; subst hj; rw [add_plain]; exact hk
    | succ j => simp at hj) (fun u hu => by simp at hu; subst hu; rfl) hroom
  unfold Oper.wp execOp
  simp only [ho, resolve, invoke, builtin, Sem.run_bind, Sem.run_pure, Result.andThen_ok, List.map_toArray, List.map_cons, List.map_nil, hs, hx, hr]
  have e : uv (zs ++ [k]) = uv zs ++ [.int .u64 k] := by simp [uv]
  exact hK _ _ (h w' (Lib.hid (by rw [e]; exact h2)) (Lib.hid ((Below.refl _ _).grown h3 hbase (fun j e => by
    injection e with e
    subst e
    exact (hown.lt g rfl).1))))
theorem make_keys (x : Int) (n : Nat) (e : x = n) (h : n ≤ 100000) (w : World) :
    (Instr.makeSlice 48 (.int .i64 0) (.int .i64 x)).run Try.prog w = .ok (.slice (some ⟨w.heap.size, 0, none⟩) 0 n) (w.alloc (.cells (madeCells #[.int .u64 0] n) 27)) := by
  subst e
  obtain ⟨i, hi, h1⟩ := Option.map_eq_some_iff.1 info27
  simp only [Prod.mk.injEq] at h1
  obtain ⟨hz, hs, hb⟩ := h1
  have := run_make (P := Try.prog) w 48 27 i _ Try.underlying48 hi hz .i64 .i64 0 n (by omega) (by omega) (by rw [hb]; omega) (by omega)
  rw [hs, Nat.mul_one] at this
  simp only [Int.toNat_zero, Int.toNat_natCast] at this
  exact this
theorem own_next {w w' : World} {base e size n : Nat} {v : Value} {xs : List Value} (h : w.ownsRow base e size v n xs) (hb : Below w.heap.size w w') : w'.ownsRow base e size v n xs := by
  refine ⟨h.1, ?_⟩
  rcases h.2 with h2 | ⟨g, cap, cur, hv, hg, hgr, r⟩
  · exact .inl h2
  · exact .inr ⟨g, cap, cur, hv, hg, (hb.block g (heap_lt hgr)).trans hgr, r⟩
/-- ahead of each round -/
structure KyI (w wr : World) (g i m K : Nat) (S : List Sl) : Prop where
  own : wr.ownsRow w.heap.size 27 1 (.slice (some ⟨g, 0, none⟩) m K) m (uv ((prs (S.take i)).map (·.1)))
  u : Below w.heap.size w wr
  len : (prs (S.take i)).length = m
theorem KyI.next {w wr w' : World} {g i m K : Nat} {S : List Sl} (h : KyI w wr g i m K S) (hb : Below wr.heap.size wr w') : KyI w w' g i m K S :=
  ⟨own_next h.own hb, h.u.trans (hb.mono h.u.size), h.len⟩
theorem KyI.keep {w wr : World} {g i m K : Nat} {S : List Sl} (h : KyI w wr g i m K S) {x : Sl} (hx : S[i]? = some x) (hp : x.pr = none) : KyI w wr g (i + 1) m K S := by
  have e : prs (S.take (i + 1)) = prs (S.take i) := by
    rw [List.take_add_one, hx, prs_app]
    have e2 : prs (some x).toList = [] := List.filterMap_cons_none hp
    rw [e2, List.append_nil]
  exact ⟨by rw [e]; exact h.own, h.u, by rw [e]; exact h.len⟩
theorem prs_step {S : List Sl} {i : Nat} {k v : Int} (hx : S[i]? = some (.taken k v)) : prs (S.take (i + 1)) = prs (S.take i) ++ [(k, v)] := by
  rw [List.take_add_one, hx, prs_app]
  rfl
theorem sorted_keys {L : PL} {S : List Sl} {zs : List Int} (hp : (prs S).Perm L) (hA : Asc L) (h1 : zs.Perm ((prs S).map (·.1))) (h2 : zs.Pairwise (· ≤ ·)) : zs = L.map (·.1) := by
  refine List.Perm.eq_of_pairwise (le := fun a b : Int => a ≤ b) (fun a b _ _ hab hba => by omega) h2 ?_ (h1.trans (hp.map _))
  rw [List.pairwise_map]
  exact hA.imp (fun h => by omega)
set_option maxRecDepth 100000 in
set_option maxHeartbeats 4000000 in
theorem keys_some {N : Nat} (hS : SortU N) {w : World} {b s M : Nat} {S : List Sl} {L : PL} (h : Mp w b s S) (hg : Good S L M) (hl0 : (prs S).length ≠ 0) (hN : L.length ≤ N) :
    Calls Try.prog 21 #[.pointer (some ⟨b, 0, none⟩)] w (Keyd L w) := by
  have hne : S ≠ [] := fun e => by subst e; exact hl0 rfl
  obtain ⟨c, h4, h5, h6, h7, h8⟩ := h.full hne
  have hlong := hg.long
  have hlen := hg.len
  have hlim := hg.lim
  have H1 := Lib.hid (len_any h)
  have HS := Lib.hid hS
  have HM := Lib.hid h
  have HG := Lib.hid hg
  have HR := Lib.hid h5
  have c0 := h4.c0
  have c1 := h4.c1
  have hl1 : ¬ (((prs S).length : Int) = 0) := by omega
  have hmk := make_keys (prs S).length (prs S).length rfl (by omega)
  have hbl := h.lt
  have hsl := h5.lt
  clear h hg h4 h5 hS
  rw [hlen] at c1 H1 hl0 hl1 hmk
  have HLN := Lib.hid hlen
  have H0 : Hid (KyI w (w.alloc (.cells (madeCells #[.int .u64 0] L.length) 27)) w.heap.size 0 0 L.length S) := Lib.hid ⟨World.ownsRow_made w _ L.length (Nat.le_refl _) (by simp [maxLen]; omega) (by rw [size_madeCells]; omega), (Below.refl _ _).alloc (Nat.le_refl _) _, rfl⟩
  have hl2 : (((L.length : Nat) : Int) == 0) = false := by simp; intro e; exact hl0 (by rw [e]; rfl)
  clear hlen
  go_enter Try.func21, Try.ntmps21
  go_wp2_with fail
  refine H1.out.mono ?_
  rintro e w1 ⟨rfl, rfl⟩
  rename World => w
  have Hb0 := Lib.hid ((Below.refl w.heap.size w).alloc (Nat.le_refl _) (.cells (madeCells #[.int .u64 0] L.length) 27))
  have c0' : (w.alloc (.cells (madeCells #[.int .u64 0] L.length) 27)).cell? ⟨b, 0, none⟩ = some (.slice (some ⟨s, 0, none⟩) S.length c) := (Hb0.out.cell (p := ⟨b, 0, none⟩) hbl).trans c0
  obtain ⟨g, hgg⟩ : ∃ g : Nat, w.heap.size = g := ⟨_, rfl⟩
  rw [hgg] at H0
  go_upto_region 4 with fail
  obtain ⟨V, hV⟩ : ∃ V : World, w.alloc (.cells (madeCells #[.int .u64 0] L.length) 27) = V := ⟨_, rfl⟩
  rw [hV] at H0 c0' ⊢
  clear hV Hb0 hmk c0 c1
  go_wp2_with fail
  go_loopw [3, 19] (fun o v wr => ∃ (i m : Nat), o = .slice (some ⟨g, 0, none⟩) m L.length ∧ v = .int .i64 i ∧ i ≤ S.length ∧ Hid (KyI w wr g i m L.length S)) (fun _ v _ => S.length - (intOf v).toNat)
  case atStart => exact ⟨0, 0, rfl, rfl, Nat.zero_le _, H0⟩
  case round =>
    clear H0
    obtain ⟨i, m, rfl, rfl, hi, HI⟩ := hrel
    by_cases hlt2 : i < S.length
    · have hlt3 : (i : Int) < (S.length : Int) := by omega
      obtain ⟨x, hx⟩ : ∃ x, S[i]? = some x := ⟨_, List.getElem?_eq_getElem hlt2⟩
      obtain ⟨d0, d1, d2⟩ := (HR.out.keep (HI.out.u.block s hsl)).get hx
      have HX := Lib.hid hx
      clear hx
      go_upto_region 7 with fail
      obtain ⟨vb, hvb⟩ : ∃ vb : Nat, wr.heap.size = vb := ⟨_, rfl⟩
      obtain ⟨V, hV⟩ : ∃ V : World, V = wr.alloc (.cells #[.int .u8 x.st, .int .u64 x.key, .int .i64 x.val] 59) := ⟨_, rfl⟩
      have hVv : V.heap[vb]? = some (.cells #[.int .u8 x.st, .int .u64 x.key, .int .i64 x.val] 59 (0, 0)) := by rw [hV]; exact new_at _ hvb
      have v0 : V.cell? ⟨vb, 0, none⟩ = some (.int .u8 x.st) := cell_of_row _ _ 0 _ 59 (0, 0) hVv
      have v1 : V.cell? ⟨vb, 1, none⟩ = some (.int .u64 x.key) := cell_of_row _ _ 1 _ 59 (0, 0) hVv
      have HI2 : Hid (KyI w V g i m L.length S) := Lib.hid (HI.out.next (by rw [hV]; exact (Below.refl _ _).alloc (Nat.le_refl _) _))
      rw [← hV, hvb]
      clear hV hVv d0 d1 d2 HI hvb
      by_cases ht : ∃ k v, x = .taken k v
      · obtain ⟨k, v, rfl⟩ := ht
        replace v0 : V.cell? ⟨vb, 0, none⟩ = some (.int .u8 1) := v0
        replace v1 : V.cell? ⟨vb, 1, none⟩ = some (.int .u64 k) := v1
        have hps := prs_step HX.out
        have hroom : m + 1 ≤ L.length := by
          have := take_len (S := S) (i := i + 1)
          rw [hps, List.length_append, HI2.out.len, HLN.out] at this
          exact this
        have Hb1 := Lib.hid ((Below.refl V.heap.size V).alloc (Nat.le_refl _) (.cells #[.int .u64 k] 27))
        have HI3 := Lib.hid (HI2.out.next Hb1.out)
        have HPS := Lib.hid hps
        have hk0 : Hid ((V.alloc (.cells #[.int .u64 k] 27)).cell? ⟨V.heap.size, 0, none⟩ = some (.int .u64 k)) := Lib.hid (cell_of_row _ _ 0 _ 27 (0, 0) (heap_alloc_new V _))
        clear hps
        go_wp2_with (
          at_builtin
          refine wp_app48 rfl (.tmp 26) (.tmp 29) rfl w.heap.size g m L.length rfl ((prs (S.take i)).map (·.1)) HI3.out.own V.heap.size 1 k rfl hk0.out hroom HI3.out.u.size ?_
          intro w3 H3 B3)
        have HN : Hid (KyI w w3 g (i + 1) (m + 1) L.length S) := Lib.hid ⟨by rw [HPS.out, List.map_append]; exact H3.out, HI3.out.u.trans B3.out, by rw [HPS.out, List.length_append, HI2.out.len]; rfl⟩
        clear H3 B3 HI3 HI2 hk0
        go_roundw
        case rel => exact ⟨i + 1, m + 1, rfl, rfl, by omega, HN⟩
        case measure => simp [intOf]; omega
      · have hp : x.pr = none := by
          cases x with
          | free => rfl
          | tomb => rfl
          | taken k v => exact absurd ⟨k, v, rfl⟩ ht
        have hne : ¬ (x.st = 1) := by
          cases x with
          | free => decide
          | tomb => decide
          | taken k v => exact absurd ⟨k, v, rfl⟩ ht
        have HK := Lib.hid (HI2.out.keep HX.out hp)
        go_wp2_with fail
        go_roundw
        case rel => exact ⟨i + 1, m, rfl, rfl, by omega, HK⟩
        case measure => simp [intOf]; omega
    · have hlt3 : ¬ ((i : Int) < (S.length : Int)) := by omega
      obtain rfl : i = S.length := by omega
      have hI := HI.out
      have hml := hI.len
      have hown := hI.own
      rw [List.take_length] at hml hown
      obtain rfl : m = L.length := by rw [← hml]; exact HLN.out
      have hz : RU wr g ((prs S).map (·.1)) := by
        rcases hown.2 with ⟨h0, _⟩ | ⟨g', cap, cur, hv, hg2, hgr, _, _, hcs, htk⟩
        · cases h0
        · simp only [Value.slice.injEq, Option.some.injEq, Addr.mk.injEq, and_true, true_and] at hv
          obtain ⟨rfl, rfl⟩ := hv
          rw [Nat.mul_one] at hcs htk
          rw [List.take_of_length_le (by rw [Array.length_toList]; omega)] at htk
          unfold RU
          rw [← htk]
          exact hgr
      have hzl : ((prs S).map (·.1)).length = L.length := by rw [List.length_map]; exact HLN.out
      have hc29 := HS.out wr g ((prs S).map (·.1)) (by omega) hz
      rw [hzl] at hc29
      have H29 := Lib.hid hc29
      have HU := Lib.hid hI.u
      have hgl := hgg
      clear hc29 hz hown hml hI HI
      go_wp2_with fail
      refine H29.out.mono ?_
      rintro e w4 ⟨rfl, ⟨zs, hz, hp, hs⟩, hF⟩
      have HZ := Lib.hid hz
      have HP := Lib.hid (And.intro hp hs)
      have HF := Lib.hid hF
      clear hz hp hs hF H29
      go_wp2_with fail
      go_ret
      have hF := HF.out
      refine ⟨.inr ⟨g, rfl, ?_, by omega⟩, HU.out.trans (hF.below (by omega) (by omega) HU.out.size)⟩
      rw [← sorted_keys HG.out.perm HG.out.asc HP.out.1 HP.out.2]
      exact HZ.out
theorem keys_any {N : Nat} (hS : SortU N) {w : World} {b s M : Nat} {S : List Sl} {L : PL} (h : Mp w b s S) (hg : Good S L M) (hN : L.length ≤ N) :
    Calls Try.prog 21 #[.pointer (some ⟨b, 0, none⟩)] w (Keyd L w) := by
  by_cases h0 : (prs S).length = 0
  · refine (keys_none h h0).mono ?_
    rintro e w' ⟨rfl, rfl⟩
    exact ⟨.inl ⟨List.eq_nil_of_length_eq_zero (hg.len ▸ h0), rfl⟩, Below.refl _ _⟩
  · exact keys_some hS h hg h0 hN
end Go.Proofs.Ytedekcphgcmlnaa
