/- What the proofs of the rows share: the table laid, arguments opened, a law's post shut. -/
import Derived.Test.YtbdjpacmbaoaeaaDoorRows
import Derived.Test.YtbdjpacmbaoaeaaDoorTie
import Derived.Test.YtbdjpacmbaoaeaaDoorShelf
import Derived.Test.YtbdjpacmbaoaeaaDoorScM
import Derived.Lib.LaidTab
import Derived.LaidMore
import Derived.OpenShut
import Derived.Stop.Joined
import Derived.ProofKit
import Derived.Deep.SlicePairs
import Derived.Deep.Slices
namespace Go.Proofs.YtbdjpacmbaoaeaaDoor
open Go.ChangeShapes Go.WideShapes Go.ChangeAt Go.RowKit Go.Deep S

theorem Tryd.own : ownKnob Tryd.prog.godebug = none := by kernel_rfl
theorem Tryd.laidOut : laidOutB Tryd.prog = true := by kernel_rfl
theorem gTab : Tryd.prog.globalNamed "math/bits.deBruijn64tab" = some 0 := by kernel_rfl
theorem gType : (Tryd.prog.globals[0]?).map (·.type) = some 84 := by kernel_rfl
theorem cells84 : Tryd.prog.cellsOf 84 = 64 := by kernel_rfl
theorem cells5 : Tryd.prog.cellsOf 5 = 1 := by kernel_rfl
theorem cells4 : Tryd.prog.cellsOf 4 = 1 := by kernel_rfl
theorem cells3 : Tryd.prog.cellsOf 3 = 1 := by kernel_rfl
/-- the list that every row of this seat bears -/
abbrev laid1 : List (String × DataW Unit) := [("math/bits.deBruijn64tab", Rows.laid_math_bits_deBruijn64tab)]
theorem laid_is : (Rows.laid_math_bits_deBruijn64tab : DataW Unit) = Lib.tabData .u8 (Lib.deBruijn64tab.map fun (n : Nat) => (n : Int)) := by rfl
theorem tab_of_laid {W : World} (h : laidMetH Tryd.prog laid1 W) : Tab W ∧ 0 < W.heap.size := by
  rw [MakeChecks.laidMetH_plain _ _ _ (by kernel_rfl)] at h
  unfold laid1 at h
  rw [laid_is] at h
  have hT := Lib.tabIs_of_head gTab gType Tryd.underlying84 Tryd.underlying5 cells5 cells84 h
  have hc : ∀ j, j < Lib.deBruijn64tab.length → W.cell? ⟨0, j, none⟩ = some (.int .u8 (Lib.deBruijn64tab.getD j 0 : Nat)) := fun j hj => by
    have := hT.cell gTab j (by rw [List.length_map]; exact hj)
    rw [this]
    simp [List.getD, hj]
  exact ⟨hc, World.block_lt_of_cell? W _ (hc 0 (by decide))⟩
/-- the door's own heap meets the condition -/
theorem door_met (os : Os) (args : Array Value) : laidMetH Tryd.prog laid1 ((World.doorLaid Tryd.prog 14 os).forCall (fun _ _ => 0) ⟨#[], args, []⟩).memory :=
  laidMetH_of_parts3 (fuel := 8) (laidMet_of_run' 8 (by kernel_rfl) (by kernel_rfl)) (by kernel_rfl) (by kernel_rfl)
section
variable {H : Type} {enc : TypeId × Value → H} {P : Program}
theorem trodAll_stays (hl : laidOutB P = true) {W W' : World} {sp' : Nat → Bool} : ∀ {ts : List TypeId} {vs : List Value} {ds : List (DataW H)} {ps : List MemPlace}, (ts.all fun t => P.readableRec t && decide (t < P.types.size)) = true →
    DataW.TrodAll enc P W 0 (fun _ => true) true ts vs ds ps → (∀ p ∈ ps, W.sameAt W' p) → (∀ p ∈ ps, sp' p.block = true) → DataW.TrodAll enc P W' 0 sp' true ts vs ds ps
  | [], vs, ds, ps, _, h, _, _ => by
    cases vs <;> cases ds <;> simp_all [DataW.TrodAll]
  | t :: ts, vs, ds, ps, ht, h, h1, h2 => by
    obtain ⟨v, vs', d, ds', p, q, rfl, rfl, rfl, hd, hr⟩ := trodAll_cons h
    simp only [List.all_cons, Bool.and_eq_true, decide_eq_true_eq] at ht
    exact ⟨p, q, WideElems.Trod_stays hl ht.1.1 ht.1.2 hd (fun x hx => h1 x (by simp [hx])) (fun x hx => h2 x (by simp [hx])),
      trodAll_stays hl (by simpa using ht.2) hr (fun x hx => h1 x (by simp [hx])) (fun x hx => h2 x (by simp [hx])), rfl⟩

/-- A law that returned true, and below whose first heap nothing has turned. -/
theorem law_post {f : Func} {s : ChangeSpec} {apart fresh handsOn again : Bool} {W W' : World} {args : Array Value} {ds : List (DataW H)} {before : List MemPlace} {tb : TypeId}
    (hl : laidOutB P = true) (hts : (f.params.toList.all fun t => P.readableRec t && decide (t < P.types.size)) = true) (hvs : s.vars = []) (hrt : f.resultTypes = #[tb]) (htb : P.underlying tb = some .bool)
    (hfn : s.fn H ds = { results := [.lit (.bool true)], args := ds })
    (hW : DataW.Whole enc P f.params.toList s.vars apart W args.toList ds [] before)
    (hA : DataW.TrodAll enc P W 0 (fun _ => true) true f.params.toList args.toList ds before) (hb : Below W.heap.size W W') :
    s.post enc P f apart fresh handsOn again W args (.bool true) W' := by
  have hlt : ∀ p ∈ before, p.block < W.heap.size := fun p hp => hW.lt p hp
  have hold : ∀ p ∈ before, (fun b => decide (b < W.heap.size)) p.block = true := fun p hp => by simpa using hlt p hp
  have hfn' : s.fn H (ds ++ []) = { results := [.lit (.bool true)], args := ds } := by rw [List.append_nil]; exact hfn
  have hargs : ∀ sp : Nat → Bool, (∀ p ∈ before, sp p.block = true) → DataW.TrodAll enc P W' 0 sp true f.params.toList args.toList (s.fn H (ds ++ [])).args before := fun sp hsp => by
    rw [hfn']
    exact trodAll_stays hl hts hA (fun p hp => hb.same (hlt p hp)) hsp
  have hres : ∀ (b : Nat) (sp : Nat → Bool) (hd : Bool), DataW.TrodAll enc P W' b sp hd f.resultTypes.toList ((Value.bool true).resultList f.resultTypes.size) (s.fn H (ds ++ [])).results [] := fun b sp hd => by
    rw [hfn', hrt]
    exact trodAll_mk1 (shut_bool htb true)
  have hvars : ∀ sp : Nat → Bool, DataW.TrodVars enc P W' sp s.vars (s.fn H (ds ++ [])).vars [] := fun sp => by
    rw [hfn', hvs]; rfl
  have hok : ∀ (j : Nat) (t : TypeId) (r : Value), f.resultTypes[j]? = some t → ((Value.bool true).resultList f.resultTypes.size)[j]? = some r → Value.okWide P W' .any 0 t r := fun j t r h1 h2 => by
    rw [hrt] at h1 h2
    rcases j with _ | j
    · simp [Value.resultList] at h1 h2
      subst h1; subst h2
      simp [Value.okWide, Cell.okWide, htb, Cell.ok]
    · simp at h1
  refine ⟨ds, [], before, [], before, [], hW, hres _ _ _, hargs _ hold, hvars _, World.keptBut_mono (fun p hp => ⟨hp, ?_⟩) (hb.frame (· ∈ before)), fun _ => ?_⟩
  · exact .inr (by simpa using hp)
  · obtain ⟨_, _, _, _, _, hz, hn⟩ := hW
    refine ⟨hok, _, _, ([] ++ before) ++ [], ⟨[] ++ before, [], trodAll_append (hargs _ (fun _ _ => rfl)) (hres _ _ _), hvars _, rfl, ?_, ?_⟩, ?_⟩
    · intro b off hp
      have hin : MemPlace.cell b off ∈ before := by simpa using hp
      rw [hb.frozen (hlt _ hin)]
      exact hz b off hin
    · intro ha
      simpa using hn ha
    · intro p hp _
      simpa using hp
end


theorem wf_i64 {i : Int} (h : (Lit.int .i64 i).wf = true) : -9223372036854775808 ≤ i ∧ i ≤ 9223372036854775807 := by
  simp [Lit.wf, IntKind.min, IntKind.max, IntKind.signed, IntKind.bits] at h
  omega
theorem wf_u8 {i : Int} (h : (Lit.int .u8 i).wf = true) : ∃ n : Nat, i = (n : Int) ∧ n ≤ 255 := by
  have h2 : 0 ≤ i ∧ i ≤ 255 := by
    simp [Lit.wf, IntKind.min, IntKind.max, IntKind.signed, IntKind.bits] at h
    omega
  exact ⟨i.toNat, by omega, by omega⟩
/-- an argument that is a list of bools -/
theorem open_bits {H : Type} {enc : TypeId × Value → H} {W : World} {v : Value} {d : DataW H} {ps : List MemPlace} (h : DataW.Trod enc Tryd.prog W 0 (fun _ => true) true 22 v d ps) (hval : Value.okWide Tryd.prog W .any 0 22 v) :
    ∃ A c l, v = .slice A (l : List Bool).length c ∧ SlB W A c l := by
  obtain ⟨a0, n0, c0, rfl⟩ := okWide_slice Tryd.underlying22 hval
  obtain ⟨fuel, hf⟩ := h
  have hcs : (Value.slice a0 n0 c0).cells.toList = [Value.slice a0 n0 c0] := rfl
  rw [hcs] at hf
  rcases open_slice1 Tryd.underlying22 cells4 hf with ⟨hv, _⟩ | ⟨a, len, cap, m, k, V, Dd, Pl, hv, _, hlc, hm, hmm, _, hi⟩
  · have hv' : Value.slice a0 n0 c0 = .slice none 0 0 := by simpa using hv
    rw [hv']
    exact ⟨none, 0, [], rfl, fun k hk => absurd hk (by simp), Nat.le_refl _, fun _ => rfl, fun p hp => by cases hp⟩
  · have hv' : Value.slice a0 n0 c0 = .slice (some a) len cap := by simpa using hv
    rw [hv']
    have hml : m = cap := by rw [hmm]; simp
    have each : ∀ i, i < cap → ∃ b : Bool, W.cell? (a.add i) = some (.bool b) := by
      intro i hlt
      obtain ⟨e1, e2⟩ := hi i (by omega)
      obtain ⟨b, hb, _⟩ := DataW.trod_bool Tryd.underlying4 e2
      have hb' : V i = .bool b := by simpa using hb
      exact ⟨b, by rw [e1, hb']⟩
    obtain ⟨f, hf2⟩ := choose_lt each
    have hsp : cap = 0 ∨ ∃ b o, a = ⟨b, o, none⟩ := by
      by_cases h0 : cap = 0
      · exact .inl h0
      · obtain ⟨b, o, sp⟩ := a
        have hsp : sp = none := by
          have := World.cell?_spot (hf2 0 (by omega))
          simpa [Addr.add] using this
        exact .inr ⟨b, o, by rw [hsp]⟩
    refine ⟨some a, cap, (List.range len).map f, by simp, fun k hk => ?_, by simpa using hlc, (fun h => by cases h), (fun p hp => by cases hp; exact hsp)⟩
    have hk' : k < len := by simpa using hk
    rcases hsp with h0 | ⟨b, o, rfl⟩
    · omega
    · have g1 := hf2 k (by omega)
      rw [add_plain0] at g1
      exact ⟨b, o, rfl, World.block_lt_of_cell? W _ g1, by simpa using g1⟩
theorem cells42 : Tryd.prog.cellsOf 42 = 4 := by kernel_rfl
/-- an argument that is a list of steps -/
theorem open_steps {H : Type} {enc : TypeId × Value → H} {W : World} {v : Value} {d : DataW H} {ps : List MemPlace} (h : DataW.Trod enc Tryd.prog W 0 (fun _ => true) true 39 v d ps) (hval : Value.okWide Tryd.prog W .any 0 39 v) :
    ∃ A c xs, v = .slice A (xs : List Step).length c ∧ RdSt W W.heap.size A xs := by
  obtain ⟨a0, n0, c0, rfl⟩ := okWide_slice Tryd.underlying39 hval
  obtain ⟨fuel, hf⟩ := h
  have hcs : (Value.slice a0 n0 c0).cells.toList = [Value.slice a0 n0 c0] := rfl
  rw [hcs] at hf
  rcases open_slice Tryd.underlying39 hf with ⟨hv, _⟩ | ⟨a, len, cap, m, n, D, Pl, hv, _, hl, hm, hmm, _, hi⟩
  · have hv' : Value.slice a0 n0 c0 = .slice none 0 0 := by simpa using hv
    rw [hv']
    exact ⟨none, 0, [], rfl, fun k hk => absurd hk (by simp)⟩
  · have hv' : Value.slice a0 n0 c0 = .slice (some a) len cap := by simpa using hv
    rw [hv']
    have hml : m = cap := by rw [hmm]; simp
    have each : ∀ i, i < len → ∃ s : Step, W.cell? (a.add (i * 4)) = some (.int .u8 (s.kind : Int)) ∧ W.cell? (a.add (i * 4 + 1)) = some (.int .i64 s.at_) ∧ W.cell? (a.add (i * 4 + 2)) = some (.int .i64 s.n) ∧ W.cell? (a.add (i * 4 + 3)) = some (.int .i64 s.x) ∧ s.Ok := by
      intro i hlt
      obtain ⟨cs', h1, h2⟩ := hi i (by omega)
      rw [cells42] at h1
      obtain ⟨_, hlen, hcell⟩ := World.cells?_some h1
      obtain ⟨xs, k, _, _, _, hxl, hfl⟩ := DataW.trod_struct Tryd.underlying42 h2
      match xs, hxl, cs', hlen with
      | [y0, y1, y2, y3], _, [v0, v1, v2, v3], _ =>
        have g0 := hfl 0 _ rfl
        have g1 := hfl 1 _ rfl
        have g2 := hfl 2 _ rfl
        have g3 := hfl 3 _ rfl
        simp [cells5, cells3] at g0 g1 g2 g3
        have e0 := hcell 0 (by omega)
        have e1 := hcell 1 (by omega)
        have e2 := hcell 2 (by omega)
        have e3 := hcell 3 (by omega)
        rw [add_add] at e0 e1 e2 e3
        obtain ⟨k0, hx0, _, hw0⟩ := DataW.trod_int Tryd.underlying5 g0
        obtain ⟨k1, hx1, _, hw1⟩ := DataW.trod_int Tryd.underlying3 g1
        obtain ⟨k2, hx2, _, hw2⟩ := DataW.trod_int Tryd.underlying3 g2
        obtain ⟨k3, hx3, _, hw3⟩ := DataW.trod_int Tryd.underlying3 g3
        obtain ⟨m0, rfl, hm0⟩ := wf_u8 hw0
        obtain ⟨w1, w2⟩ := wf_i64 hw1
        obtain ⟨w3, w4⟩ := wf_i64 hw2
        obtain ⟨w5, w6⟩ := wf_i64 hw3
        obtain rfl : v0 = _ := List.cons.inj hx0 |>.1
        obtain rfl : v1 = _ := List.cons.inj hx1 |>.1
        obtain rfl : v2 = _ := List.cons.inj hx2 |>.1
        obtain rfl : v3 = _ := List.cons.inj hx3 |>.1
        exact ⟨⟨m0, k1, k2, k3⟩, e0, e1, e2, e3, ⟨hm0, w1, w2, w3, w4, w5, w6⟩⟩
    have hinh : Inhabited Step := ⟨⟨0, 0, 0, 0⟩⟩
    obtain ⟨f, hf2⟩ := choose_lt each
    refine ⟨some a, cap, (List.range len).map f, by simp, fun k hk => ?_⟩
    have hk' : k < len := by simpa using hk
    obtain ⟨b, o, sp⟩ := a
    have hsp : sp = none := by
      have := World.cell?_spot (hf2 0 (by omega)).1
      simpa [Addr.add] using this
    subst hsp
    obtain ⟨g1, g2, g3, g4, g5⟩ := hf2 k hk'
    rw [add_plain0] at g1 g2 g3 g4
    have e : ((List.range len).map f)[k] = f k := by simp
    rw [e]
    exact ⟨b, o, rfl, World.block_lt_of_cell? W _ g1, g1, g2, g3, g4, g5⟩
end Go.Proofs.YtbdjpacmbaoaeaaDoor
