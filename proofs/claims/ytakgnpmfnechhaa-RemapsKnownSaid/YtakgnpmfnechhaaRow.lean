/- What the proofs of the rows share: arguments opened, a law's post shut. -/
import Derived.Test.YtakgnpmfnechhaaRows
import Derived.Test.YtakgnpmfnechhaaAftW
import Derived.Laws.IdiomArrays
import Derived.ProofKit
import Derived.Deep.SlicePairs
import Derived.Deep.Slices
namespace Go.Proofs.Ytakgnpmfnechhaa
open Go.ChangeShapes Go.WideShapes Go.ChangeAt Go.RowKit Go.Deep

theorem Try.own : ownKnob Try.prog.godebug = none := by kernel_rfl
theorem Try.laidOut : laidOutB Try.prog = true := by kernel_rfl

section
variable {H : Type} {enc : TypeId × Value → H} {P : Program}
theorem trodAll_stays (hl : laidOutB P = true) {W W' : World} {sp' : Nat → Bool} : ∀ {ts : List TypeId} {vs : List Value} {ds : List (DataW H)} {ps : List MemPlace}, (ts.all fun t => P.readableRec t && decide (t < P.types.size)) = true →
    DataW.TrodAll enc P W 0 (fun _ => true) true ts vs ds ps → (∀ p ∈ ps, W.sameAt W' p) → (∀ p ∈ ps, sp' p.block = true) → DataW.TrodAll enc P W' 0 sp' true ts vs ds ps
  | [], vs, ds, ps, _, h, _, _ => by
    cases vs <;> cases ds <;> simp_all [DataW.TrodAll]
  | t :: ts, vs, ds, ps, ht, h, h1, h2 => by
    obtain ⟨v, vs', d, ds', p, q, rfl, rfl, rfl, hd, hr⟩ := trodAll_cons h
    simp only [List.all_cons, Bool.and_eq_true, decide_eq_true_eq] at ht
    exact ⟨p, q, WideElems.Trod_stays hl ht.1.1 ht.1.2 hd (fun x hx => h1 x (by simp [hx])) (fun x hx => h2 x (by simp [hx])),
      trodAll_stays hl (by simpa using ht.2) hr (fun x hx => h1 x (by simp [hx])) (fun x hx => h2 x (by simp [hx])), rfl⟩

/-- A law that returned true, and below whose first heap nothing has turned. -/
theorem law_post {f : Func} {s : ChangeSpec} {apart fresh handsOn again : Bool} {W W' : World} {args : Array Value} {ds : List (DataW H)} {before : List MemPlace} {tb : TypeId}
    (hl : laidOutB P = true) (hts : (f.params.toList.all fun t => P.readableRec t && decide (t < P.types.size)) = true) (hvs : s.vars = []) (hrt : f.resultTypes = #[tb]) (htb : P.underlying tb = some .bool)
    (hfn : s.fn H ds = { results := [.lit (.bool true)], args := ds })
    (hW : DataW.Whole enc P f.params.toList s.vars apart W args.toList ds [] before)
    (hA : DataW.TrodAll enc P W 0 (fun _ => true) true f.params.toList args.toList ds before) (hb : Below W.heap.size W W') :
    s.post enc P f apart fresh handsOn again W args (.bool true) W' := by
  have hlt : ∀ p ∈ before, p.block < W.heap.size := fun p hp => hW.lt p hp
  have hold : ∀ p ∈ before, (fun b => decide (b < W.heap.size)) p.block = true := fun p hp => by simpa using hlt p hp
  have hfn' : s.fn H (ds ++ []) = { results := [.lit (.bool true)], args := ds } := by rw [List.append_nil]; exact hfn
  have hargs : ∀ sp : Nat → Bool, (∀ p ∈ before, sp p.block = true) → DataW.TrodAll enc P W' 0 sp true f.params.toList args.toList (s.fn H (ds ++ [])).args before := fun sp hsp => by
    rw [hfn']
    exact trodAll_stays hl hts hA (fun p hp => hb.same (hlt p hp)) hsp
  have hres : ∀ (b : Nat) (sp : Nat → Bool) (hd : Bool), DataW.TrodAll enc P W' b sp hd f.resultTypes.toList ((Value.bool true).resultList f.resultTypes.size) (s.fn H (ds ++ [])).results [] := fun b sp hd => by
    rw [hfn', hrt]
    exact trodAll_mk1 (shut_bool htb true)
  have hvars : ∀ sp : Nat → Bool, DataW.TrodVars enc P W' sp s.vars (s.fn H (ds ++ [])).vars [] := fun sp => by
    rw [hfn', hvs]; rfl
  have hok : ∀ (j : Nat) (t : TypeId) (r : Value), f.resultTypes[j]? = some t → ((Value.bool true).resultList f.resultTypes.size)[j]? = some r → Value.okWide P W' .any 0 t r := fun j t r h1 h2 => by
    rw [hrt] at h1 h2
    rcases j with _ | j
    · simp [Value.resultList] at h1 h2
      subst h1; subst h2
      simp [Value.okWide, Cell.okWide, htb, Cell.ok]
    · simp at h1
  refine ⟨ds, [], before, [], before, [], hW, hres _ _ _, hargs _ hold, hvars _, World.keptBut_mono (fun p hp => ⟨hp, ?_⟩) (hb.frame (· ∈ before)), fun _ => ?_⟩
  · exact .inr (by simpa using hp)
  · obtain ⟨_, _, _, _, _, hz, hn⟩ := hW
    refine ⟨hok, _, _, ([] ++ before) ++ [], ⟨[] ++ before, [], trodAll_append (hargs _ (fun _ _ => rfl)) (hres _ _ _), hvars _, rfl, ?_, ?_⟩, ?_⟩
    · intro b off hp
      have hin : MemPlace.cell b off ∈ before := by simpa using hp
      rw [hb.frozen (hlt _ hin)]
      exact hz b off hin
    · intro ha
      simpa using hn ha
    · intro p hp _
      simpa using hp
end

theorem Try.cells3 : Try.prog.cellsOf 3 = 1 := by kernel_rfl
theorem Try.cells5 : Try.prog.cellsOf 5 = 1 := by kernel_rfl
theorem Try.cells22 : Try.prog.cellsOf 22 = 1 := by kernel_rfl
theorem Try.cells24 : Try.prog.cellsOf 24 = 2 := by kernel_rfl
theorem Try.cells52 : Try.prog.cellsOf 52 = 1 := by kernel_rfl
theorem Try.cells54 : Try.prog.cellsOf 54 = 2 := by kernel_rfl
theorem Try.cells70 : Try.prog.cellsOf 70 = 4 := by kernel_rfl
theorem Try.cells42 : Try.prog.cellsOf 42 = 4 := by kernel_rfl
theorem Try.cells58 : Try.prog.cellsOf 58 = 3 := by kernel_rfl
theorem add_add0 (a : Addr) (i j : Nat) : (a.add i).add j = a.add (i + j) := by
  unfold Addr.add
  by_cases hi : i = 0 <;> by_cases hj : j = 0 <;> simp [hi, hj] <;> omega
theorem wf_i64 {i : Int} (h : (Lit.int .i64 i).wf = true) : I64 i := by
  simp [Lit.wf, IntKind.min, IntKind.max, IntKind.signed, IntKind.bits] at h
  unfold I64
  omega
theorem wf_u8 {i : Int} (h : (Lit.int .u8 i).wf = true) : ∃ n : Nat, i = (n : Int) ∧ n ≤ 255 := by
  have h2 : 0 ≤ i ∧ i ≤ 255 := by
    simp [Lit.wf, IntKind.min, IntKind.max, IntKind.signed, IntKind.bits] at h
    omega
  exact ⟨i.toNat, by omega, by omega⟩
/-- a list of ints that came in -/
theorem trod_list {H : Type} {enc : TypeId × Value → H} {W : World} {fuel : Nat} {v : Value} {x : DataW H × List MemPlace} (h : DataW.trod enc Try.prog W 0 (fun _ => true) true fuel 22 [v] = some x) :
    ∃ A c zs, v = .slice A (zs : List Int).length c ∧ SlI W A c zs := by
  rcases open_ints Try.underlying22 Try.underlying3 Try.cells3 h with ⟨hv, _⟩ | ⟨a, len, cap, zs, hv, _, hl, hm, hz, _, hi, hw⟩
  · obtain rfl : v = .slice none 0 0 := by simpa using hv
    exact ⟨none, 0, [], rfl, SlI.none W⟩
  · obtain rfl : v = .slice (some a) len cap := by simpa using hv
    have hzl : zs.length = cap := by rw [hz]; simp
    have hlen : (zs.take len).length = len := by rw [List.length_take]; omega
    refine ⟨some a, cap, zs.take len, by rw [hlen], ⟨fun k hk => ?_, by rw [hlen]; exact hl, by unfold maxLen at hm; omega, fun h => by cases h⟩⟩
    rw [hlen] at hk
    obtain ⟨b, o, sp⟩ := a
    have hsp : sp = none := by
      have := World.cell?_spot (hi 0 (by omega))
      simpa [Addr.add] using this
    subst hsp
    have g1 := hi k (by omega)
    rw [add_plain] at g1
    refine ⟨b, o, rfl, World.block_lt_of_cell? W _ g1, ?_⟩
    rw [g1, List.getElem_take]
    have hkz : k < zs.length := by omega
    simp [List.getD, List.getElem?_eq_getElem hkz]
theorem open_list {H : Type} {enc : TypeId × Value → H} {W : World} {v : Value} {d : DataW H} {ps : List MemPlace} (h : DataW.Trod enc Try.prog W 0 (fun _ => true) true 22 v d ps) (hval : Value.okWide Try.prog W .any 0 22 v) :
    ∃ A c zs, v = .slice A (zs : List Int).length c ∧ SlI W A c zs := by
  obtain ⟨a0, n0, c0, rfl⟩ := okWide_slice Try.underlying22 hval
  obtain ⟨fuel, hf⟩ := h
  have hcs : (Value.slice a0 n0 c0).cells.toList = [Value.slice a0 n0 c0] := rfl
  rw [hcs] at hf
  exact trod_list hf

/-- an argument that is a map -/
theorem open_map {H : Type} {enc : TypeId × Value → H} {W : World} {v : Value} {d : DataW H} {ps : List MemPlace} (h : DataW.Trod enc Try.prog W 0 (fun _ => true) true 24 v d ps) (hval : Value.okWide Try.prog W .any 0 24 v) :
    ∃ (o : Int) (A : Option Addr) (c : Nat) (l : List Int), v = .agg #[.int .i64 o, .slice A l.length c] ∧ SlI W A c l := by
  obtain ⟨cs, rfl, hsz⟩ := okWide_struct Try.underlying24 hval
  rw [Try.cells24] at hsz
  obtain ⟨l⟩ := cs
  match l, hsz with
  | [v0, v1], _ =>
    obtain ⟨fuel, hf⟩ := h
    have hcs : (Value.agg #[v0, v1]).cells.toList = [v0, v1] := rfl
    rw [hcs] at hf
    obtain ⟨zs, n, _, _, _, hl, hg⟩ := DataW.trod_struct Try.underlying24 hf
    match zs, hl with
    | [z0, z1], _ =>
      have g0 := hg 0 _ rfl
      have g1 := hg 1 _ rfl
      simp [Try.cells3, Try.cells22] at g0 g1
      obtain ⟨k0, hx0, _, hw0⟩ := DataW.trod_int Try.underlying3 g0
      obtain ⟨A, c, us, rfl, hu⟩ := trod_list g1
      obtain rfl : v0 = _ := List.cons.inj hx0 |>.1
      exact ⟨k0, A, c, us, rfl, hu⟩
/-- steps that came in -/
theorem trod_steps {H : Type} {enc : TypeId × Value → H} {W : World} {fuel : Nat} {v : Value} {x : DataW H × List MemPlace} (h : DataW.trod enc Try.prog W 0 (fun _ => true) true fuel 52 [v] = some x) :
    ∃ A c ss, v = .slice A (ss : List St).length c ∧ RdQ W W.heap.size A ss ∧ ss.length ≤ c ∧ c ≤ 9223372036854775807 := by
  rcases open_slice Try.underlying52 h with ⟨hv, _⟩ | ⟨a, len, cap, m, n, D, Pl, hv, _, hl, hm, hmm, _, hi⟩
  · obtain rfl : v = .slice none 0 0 := by simpa using hv
    exact ⟨none, 0, [], rfl, fun k hk => absurd hk (by simp), Nat.le_refl _, by omega⟩
  · obtain rfl : v = .slice (some a) len cap := by simpa using hv
    have hml : m = cap := by rw [hmm]; simp
    have each : ∀ i, i < len → ∃ s : St, W.cell? (a.add (i * 4)) = some (.int .u8 (s.k : Nat)) ∧ W.cell? (a.add (i * 4 + 1)) = some (.int .u8 (s.a : Nat)) ∧ W.cell? (a.add (i * 4 + 2)) = some (.int .u8 (s.m : Nat)) ∧ W.cell? (a.add (i * 4 + 3)) = some (.int .u8 (s.t : Nat)) ∧
        s.k ≤ 255 ∧ s.a ≤ 255 ∧ s.m ≤ 255 ∧ s.t ≤ 255 := by
      intro i hlt
      obtain ⟨cs', h1, h2⟩ := hi i (by omega)
      rw [Try.cells70] at h1
      obtain ⟨_, hlen, hcell⟩ := World.cells?_some h1
      match cs', hlen with
      | [v0, v1, v2, v3], _ =>
        obtain ⟨y0, y1, y2, y3, k, _, g0, g1, g2, g3⟩ := trod_array4 Try.underlying70 Try.cells5 h2
        obtain ⟨k0, hx0, _, hw0⟩ := DataW.trod_int Try.underlying5 g0
        obtain ⟨k1, hx1, _, hw1⟩ := DataW.trod_int Try.underlying5 g1
        obtain ⟨k2, hx2, _, hw2⟩ := DataW.trod_int Try.underlying5 g2
        obtain ⟨k3, hx3, _, hw3⟩ := DataW.trod_int Try.underlying5 g3
        obtain ⟨m0, rfl, hm0⟩ := wf_u8 hw0
        obtain ⟨m1, rfl, hm1⟩ := wf_u8 hw1
        obtain ⟨m2, rfl, hm2⟩ := wf_u8 hw2
        obtain ⟨m3, rfl, hm3⟩ := wf_u8 hw3
        obtain rfl : v0 = _ := List.cons.inj hx0 |>.1
        obtain rfl : v1 = _ := List.cons.inj hx1 |>.1
        obtain rfl : v2 = _ := List.cons.inj hx2 |>.1
        obtain rfl : v3 = _ := List.cons.inj hx3 |>.1
        have e0 := hcell 0 (by omega)
        have e1 := hcell 1 (by omega)
        have e2 := hcell 2 (by omega)
        have e3 := hcell 3 (by omega)
        rw [add_add0] at e0 e1 e2 e3
        exact ⟨⟨m0, m1, m2, m3⟩, e0, e1, e2, e3, hm0, hm1, hm2, hm3⟩
    have hinh : Inhabited St := ⟨⟨0, 0, 0, 0⟩⟩
    obtain ⟨f, hf2⟩ := choose_lt each
    refine ⟨some a, cap, (List.range len).map f, by simp, fun k hk => ?_, by simpa using hl, by unfold maxLen at hm; omega⟩
    have hk' : k < len := by simpa using hk
    obtain ⟨b, o, sp⟩ := a
    have hsp : sp = none := by
      have := World.cell?_spot (hf2 0 (by omega)).1
      simpa [Addr.add] using this
    subst hsp
    obtain ⟨g0, g1, g2, g3, r⟩ := hf2 k hk'
    rw [add_plain] at g0 g1 g2 g3
    have e : ((List.range len).map f)[k] = f k := by simp
    rw [e]
    exact ⟨b, o, rfl, World.block_lt_of_cell? W _ g0, g0, g1, g2, g3, r⟩
theorem open_steps {H : Type} {enc : TypeId × Value → H} {W : World} {v : Value} {d : DataW H} {ps : List MemPlace} (h : DataW.Trod enc Try.prog W 0 (fun _ => true) true 52 v d ps) (hval : Value.okWide Try.prog W .any 0 52 v) :
    ∃ A c ss, v = .slice A (ss : List St).length c ∧ RdQ W W.heap.size A ss ∧ ss.length ≤ c ∧ c ≤ 9223372036854775807 := by
  obtain ⟨a0, n0, c0, rfl⟩ := okWide_slice Try.underlying52 hval
  obtain ⟨fuel, hf⟩ := h
  have hcs : (Value.slice a0 n0 c0).cells.toList = [Value.slice a0 n0 c0] := rfl
  rw [hcs] at hf
  exact trod_steps hf
/-- an argument that is an M -/
theorem open_M {H : Type} {enc : TypeId × Value → H} {W : World} {v : Value} {d : DataW H} {ps : List MemPlace} (h : DataW.Trod enc Try.prog W 0 (fun _ => true) true 54 v d ps) (hval : Value.okWide Try.prog W .any 0 54 v) :
    ∃ (N : Nat) (A : Option Addr) (c : Nat) (ss : List St), v = .agg #[.int .u8 N, .slice A ss.length c] ∧ N ≤ 255 ∧ RdQ W W.heap.size A ss ∧ ss.length ≤ c ∧ c ≤ 9223372036854775807 := by
  obtain ⟨cs, rfl, hsz⟩ := okWide_struct Try.underlying54 hval
  rw [Try.cells54] at hsz
  obtain ⟨l⟩ := cs
  match l, hsz with
  | [v0, v1], _ =>
    obtain ⟨fuel, hf⟩ := h
    have hcs : (Value.agg #[v0, v1]).cells.toList = [v0, v1] := rfl
    rw [hcs] at hf
    obtain ⟨zs, n, _, _, _, hl, hg⟩ := DataW.trod_struct Try.underlying54 hf
    match zs, hl with
    | [z0, z1], _ =>
      have g0 := hg 0 _ rfl
      have g1 := hg 1 _ rfl
      simp [Try.cells5, Try.cells52] at g0 g1
      obtain ⟨k0, hx0, _, hw0⟩ := DataW.trod_int Try.underlying5 g0
      obtain ⟨A, c, us, rfl, hu⟩ := trod_steps g1
      obtain ⟨m0, rfl, hm0⟩ := wf_u8 hw0
      obtain rfl : v0 = _ := List.cons.inj hx0 |>.1
      exact ⟨m0, A, c, us, rfl, hm0, hu⟩
theorem okWide_array {P : Program} {w : World} {r : Reach} {base : Nat} {t e : TypeId} {n : Nat} {v : Value} (ht : P.underlying t = some (.array n e)) (h : Value.okWide P w r base t v) : ∃ cs, v = .agg cs ∧ cs.size = P.cellsOf t := by
  unfold Value.okWide at h
  rw [ht] at h
  cases v <;> simp_all
/-- an argument that is four numbers -/
theorem open_four {H : Type} {enc : TypeId × Value → H} {W : World} {v : Value} {d : DataW H} {ps : List MemPlace} (h : DataW.Trod enc Try.prog W 0 (fun _ => true) true 42 v d ps) (hval : Value.okWide Try.prog W .any 0 42 v) :
    ∃ n a m t : Int, v = .agg #[.int .i64 n, .int .i64 a, .int .i64 m, .int .i64 t] ∧ I64 n ∧ I64 a ∧ I64 m ∧ I64 t := by
  obtain ⟨cs, rfl, hsz⟩ := okWide_array Try.underlying42 hval
  rw [Try.cells42] at hsz
  obtain ⟨l⟩ := cs
  match l, hsz with
  | [v0, v1, v2, v3], _ =>
    obtain ⟨fuel, hf⟩ := h
    have hcs : (Value.agg #[v0, v1, v2, v3]).cells.toList = [v0, v1, v2, v3] := rfl
    rw [hcs] at hf
    obtain ⟨y0, y1, y2, y3, k, _, g0, g1, g2, g3⟩ := trod_array4 Try.underlying42 Try.cells3 hf
    obtain ⟨k0, hx0, _, hw0⟩ := DataW.trod_int Try.underlying3 g0
    obtain ⟨k1, hx1, _, hw1⟩ := DataW.trod_int Try.underlying3 g1
    obtain ⟨k2, hx2, _, hw2⟩ := DataW.trod_int Try.underlying3 g2
    obtain ⟨k3, hx3, _, hw3⟩ := DataW.trod_int Try.underlying3 g3
    obtain rfl : v0 = _ := List.cons.inj hx0 |>.1
    obtain rfl : v1 = _ := List.cons.inj hx1 |>.1
    obtain rfl : v2 = _ := List.cons.inj hx2 |>.1
    obtain rfl : v3 = _ := List.cons.inj hx3 |>.1
    exact ⟨k0, k1, k2, k3, rfl, wf_i64 hw0, wf_i64 hw1, wf_i64 hw2, wf_i64 hw3⟩
/-- an argument that is three bytes -/
theorem open_three {H : Type} {enc : TypeId × Value → H} {W : World} {v : Value} {d : DataW H} {ps : List MemPlace} (h : DataW.Trod enc Try.prog W 0 (fun _ => true) true 58 v d ps) (hval : Value.okWide Try.prog W .any 0 58 v) :
    ∃ a m t : Nat, v = .agg #[.int .u8 a, .int .u8 m, .int .u8 t] ∧ a ≤ 255 ∧ m ≤ 255 ∧ t ≤ 255 := by
  obtain ⟨cs, rfl, hsz⟩ := okWide_array Try.underlying58 hval
  rw [Try.cells58] at hsz
  obtain ⟨l⟩ := cs
  match l, hsz with
  | [v0, v1, v2], _ =>
    obtain ⟨fuel, hf⟩ := h
    have hcs : (Value.agg #[v0, v1, v2]).cells.toList = [v0, v1, v2] := rfl
    rw [hcs] at hf
    obtain ⟨y0, y1, y2, k, _, g0, g1, g2⟩ := trod_array3 Try.underlying58 Try.cells5 hf
    obtain ⟨k0, hx0, _, hw0⟩ := DataW.trod_int Try.underlying5 g0
    obtain ⟨k1, hx1, _, hw1⟩ := DataW.trod_int Try.underlying5 g1
    obtain ⟨k2, hx2, _, hw2⟩ := DataW.trod_int Try.underlying5 g2
    obtain ⟨m0, rfl, hm0⟩ := wf_u8 hw0
    obtain ⟨m1, rfl, hm1⟩ := wf_u8 hw1
    obtain ⟨m2, rfl, hm2⟩ := wf_u8 hw2
    obtain rfl : v0 = _ := List.cons.inj hx0 |>.1
    obtain rfl : v1 = _ := List.cons.inj hx1 |>.1
    obtain rfl : v2 = _ := List.cons.inj hx2 |>.1
    exact ⟨m0, m1, m2, rfl, hm0, hm1, hm2⟩
end Go.Proofs.Ytakgnpmfnechhaa
