/- The walk of Carry, with where its row lies; rows beside a row that is appended to. -/
import Derived.Test.YtakgnpmfnechhaaTwoW
import Derived.Test.YtakgnpmfnechhaaCarW
namespace Go.Proofs.Ytakgnpmfnechhaa
open Go.RowKit

/-- a row is handed back, in a new block -/
def RowF (n : Nat) (l : List Int) (w : World) (e : Ending) (w' : World) : Prop := ∃ A, e = .returned (.tuple #[.slice A n n, .int .i64 0]) ∧ SlI w' A n l ∧ Far w A ∧ Below w.heap.size w w'
set_option maxRecDepth 100000 in
set_option maxHeartbeats 4000000 in
theorem carry_far {w : World} {A B : Option Addr} {c d n : Nat} {l : List Int} {xs : List Int} (h : SlI w A c l) (hx : SlI w B d xs) (hv : Vm n l) (hlen : xs.length = n) :
    Calls Try.prog 17 #[.agg #[.int .i64 n, .slice A l.length c], .slice B xs.length d] w (RowF l.length (carL l xs) w) := by
  subst hlen
  have hm := Mv.new (o := xs.length) h
  have K := check_any xs.length c hm.sl.rd h.len
  rw [chkM_zero.2 hv] at K
  have K := Lib.hid K
  have HU := Lib.hid (below_new w (.cells #[.int .i64 xs.length, .slice A l.length c] 24))
  have HM := Lib.hid hm
  have HV := Lib.hid hv
  have HX := Lib.hid hx.rd
  have hl : l.length ≤ 4096 := hv.len
  have hxl : xs.length ≤ 4096 := by have := hv.o1; omega
  have hle := hx.le
  have hmx := hx.max
  have HSl := Lib.hid h.rd
  have hmk := make_ints l.length l.length l.length l.length rfl rfl (Nat.le_refl _) (by omega)
  obtain ⟨a0, a1⟩ := hm.cells
  clear h hx hm hv
  go_enter Try.func17, Try.ntmps17
  go_wp2_with fail
  refine K.out.mono ?_
  rintro e w1 ⟨rfl, hb⟩
  have hm1 := HM.out.next hb
  obtain ⟨b0, b1⟩ := hm1.cells
  have hu1 := HU.out.trans (hb.mono HU.out.size)
  have H0 : Hid (CaI w w1 (w1.alloc (.cells (madeCells #[Value.int .i64 0] l.length) 3)) xs l 0) := Lib.hid ⟨cF_start w1 l.length xs l, below_new _ _, hu1⟩
  have hm2 := hm1.next (below_new w1 (.cells (madeCells #[Value.int .i64 0] l.length) 3))
  obtain ⟨c0, c1⟩ := hm2.cells
  clear K hb HU a0 a1 HM hm1 hm2 hu1
  go_wp2_with fail
  clear hmk b0 b1 c0 c1
  go_loopw [27] (fun v wr => ∃ i : Nat, i ≤ l.length ∧ v = .int .i64 i ∧ Hid (CaI w w1 wr xs l i)) (fun v _ => l.length - (intOf v).toNat)
  case atStart => exact ⟨0, Nat.zero_le _, rfl, H0⟩
  case round =>
    obtain ⟨i, hi, rfl, HI⟩ := hrel
    clear H0
    have hub := HI.out.wv.trans (HI.out.u.mono HI.out.wv.size)
    by_cases hlt : i < l.length
    · obtain ⟨b, q, rfl, hb, hc⟩ := HSl.out.below hub i hlt
      have hrg := HV.out.rng _ (List.getElem_mem hlt)
      have HN := Lib.hid (fun e => (⟨cF_none hlt e ▸ HI.out.row, HI.out.u, HI.out.wv⟩ : CaI w w1 wr xs l (i + 1)))
      have HT := Lib.hid (fun (k : Nat) (e : l[i] = k) (hk : k < xs.length) => (⟨cF_step HI.out.row hlt e hk, HI.out.u.setCell (Nat.le_refl _) _, HI.out.wv⟩ : CaI w w1 (wr.setCell ⟨w1.heap.size, i, none⟩ (Value.int .i64 xs[k])) xs l (i + 1)))
      obtain ⟨y, hy⟩ : ∃ y, l[i] = y := ⟨_, rfl⟩
      rw [hy] at hc hrg HN HT
      clear hy hb
      by_cases hn1 : y = -1
      · subst hn1
        have HN2 := Lib.hid (HN.out rfl)
        clear HN HT hub
        go_wp2_with fail
        go_roundw
        case rel => exact ⟨i + 1, by omega, by go_num, HN2⟩
        case measure => first | (simp [intOf]; done) | (simp [intOf]; omega)
      · obtain ⟨k, rfl⟩ : ∃ k : Nat, y = k := ⟨y.toNat, by omega⟩
        have hk : k < xs.length := by omega
        have hn3 : ((k : Int) == -1) = false := by simp
        have HT2 := Lib.hid (HT.out k rfl hk)
        obtain ⟨b2, q2, rfl, hb2, hc2⟩ := HX.out.below hub k hk
        generalize xs[k] = x at *
        have hcell := World.rowIs.cell HI.out.row hlt
        have hfr := World.rowIs.frozen HI.out.row i
        generalize cF xs l i i = z at hcell
        clear HN HT hub hb2
        go_wp2_with fail
        go_roundw
        case rel => exact ⟨i + 1, by omega, by go_num, HT2⟩
        case measure => first | (simp [intOf]; done) | (simp [intOf]; omega)
    · have hil : i = l.length := by omega
      replace HI : Hid (CaI w w1 wr xs l l.length) := hil ▸ HI
      have HF := Lib.hid (show RowF l.length (carL l xs) w (.returned (.tuple #[.slice (some ⟨w1.heap.size, 0, none⟩) l.length l.length, .int .i64 0])) wr from ⟨some ⟨w1.heap.size, 0, none⟩, rfl, cF_list HI.out.row (by omega), (fun p e => by injection e with e; subst e; exact HI.out.wv.size), hub⟩)
      clear hil HI hub
      go_wp2_with fail
      go_ret2
      exact HF.out
/-- append, for a region that draws, with what it leaves alone -/
theorem step_appG {w : World} {ops : Array Oper} {o : Oper} {a : Act} {K : Act → World → Prop} {Q : Exit → Act → World → Prop} {E : Prop} (hgd : o.guard = none) (s x : Operand) (ho : o.op = .call { callee := .builtin .append, args := #[s, x], argTypes := #[22, 22] })
    (base : Nat) (v : Value) (l : List Int) (hs : a.eval s = v) (A : Option Addr) (c : Nat) (ms : List Int) (n : Nat) (hx : a.eval x = .slice A n c) (hn : n = ms.length) (hown : OwnI w base v l) (hsrc : SlI w A c ms) (hlen : l.length + ms.length ≤ 1000000) (hbase : base ≤ w.heap.size)
    (h : ∀ v' w', Hid (OwnI w' base v' (l ++ ms)) → Hid (Below base w w') → Hid (w.grownBy w' v.ownBlock) → K (a.put o.dst v') w') :
    if Region.wanted o (yielded ops a.tmps) = true then Oper.wp Try.prog o a w K Q else E := by
  subst hn
  have hw : Region.wanted o (yielded ops a.tmps) = true := by simp [Region.wanted, hgd]
  rw [if_pos hw]
  obtain ⟨v', w', hr, h2, h3, h4⟩ := run_app o.type hown hsrc hlen hbase
  unfold Oper.wp execOp
  simp only [ho, resolve, invoke, builtin, Sem.run_bind, Sem.run_pure, Result.andThen_ok, List.map_toArray, List.map_cons, List.map_nil, hs, hx, hr]
  exact h v' w' (Lib.hid h2) (Lib.hid h3) (Lib.hid h4)
/-- a row elsewhere is not touched by an append -/
theorem sl_grown {W W' : World} {A : Option Addr} {c : Nat} {l : List Int} {ob : Option Nat} (h : SlI W A c l) (hg : W.grownBy W' ob) (hz : W.heap.size ≤ W'.heap.size) (hne : ∀ p, A = some p → ob ≠ some p.block) : SlI W' A c l := by
  refine ⟨fun k hk => ?_, h.le, h.max, h.nil⟩
  obtain ⟨b, o, e, hb, hc⟩ := h.rd k hk
  refine ⟨b, o, e, by omega, ?_⟩
  rw [← hc]
  have := hg.block b hb (fun e2 => hne _ e e2.symm)
  unfold World.cell?
  simp only [this]
end Go.Proofs.Ytakgnpmfnechhaa
