/- Insert of an index. -/
import Derived.Test.YtdejdnkkbpmmlaaMSetW
namespace Go.Proofs.Ytdejdnkkbpmmlaa
open Go.RowKit

/-- the receiver's box, and the cell of the result -/
structure Bo (w U : World) (bx : Array Value) : Prop where
  box : U.heap[w.heap.size]? = some (.cells bx 32 (0, 0))
  rm : Room5 U (w.heap.size + 1)
  u : Below w.heap.size w U
theorem Bo.next {w U U' : World} {bx : Array Value} (h : Bo w U bx) (kk : Below U.heap.size U U') : Bo w U' bx := ⟨keep_heap kk h.box, h.rm.keep kk, h.u.trans (kk.mono h.u.size)⟩
theorem bo_start (w : World) (bx : Array Value) : Bo w ((w.alloc (.cells bx 32)).alloc (.cells #[.int .i64 0, .int .i64 0, .int .i64 0, .pointer none, .slice none 0 0] 32)) bx := by
  obtain ⟨q1, q2⟩ := two_heap w (.cells bx 32) (.cells #[.int .i64 0, .int .i64 0, .int .i64 0, .pointer none, .slice none 0 0] 32)
  exact ⟨q1, ⟨_, _, _, _, _, q2⟩, below_two w _ _⟩
theorem Bo.lt {w U : World} {bx : Array Value} (h : Bo w U bx) : w.heap.size + 1 < U.heap.size := by
  obtain ⟨_, _, _, _, _, hr⟩ := h.rm
  exact heap_lt hr
/-- a rope is stored into a new variable -/
theorem Bo.var {w U : World} {bx : Array Value} (h : Bo w U bx) {t : T} {p : Option Addr} (hn : Nd U t p) :
    Va w (U.alloc (.cells #[.int .i64 t.count, .int .i64 t.total, .int .i64 t.depth, .pointer p] 29)) (w.heap.size + 1) U.heap.size bx t p :=
  have bn := below_new U (.cells #[.int .i64 t.count, .int .i64 t.total, .int .i64 t.depth, .pointer p] 29)
  ⟨keep_heap bn h.box, heap_alloc_new U _, hn.below bn, h.rm.keep bn, h.u.trans (bn.mono h.u.size), Nat.lt_succ_self _, h.lt⟩
theorem len_below (c x d : Int) (p : Option Addr) (w : World) : Calls Try.prog 27 #[.agg #[.int .i64 c, .int .i64 x, .int .i64 d, .pointer p]] w fun e w' => e = .returned (.int .i64 c) ∧ Below w.heap.size w w' :=
  (len_any c x d p w).mono fun _ _ ⟨he, hw⟩ => ⟨he, hw ▸ below_new w _⟩
set_option maxRecDepth 100000 in
set_option maxHeartbeats 8000000 in
theorem in_bad {w : World} {r : List (Int × Bool)} {t : T} {p A : Option Addr} {c : Nat} {xs : List S.Sp} (h : Ix w r t p A c xs) {SA : Option Addr} {d : Nat} {s : List Int} (i : Int) (b : Bool) (hb : i < 0 ∨ (r.length : Int) < i) :
    Calls Try.prog 20 #[.agg #[.int .i64 t.count, .int .i64 t.total, .int .i64 t.depth, .pointer p, .slice A xs.length c], .int .i64 i, .slice SA s.length d, .bool b] w (IxE ([], 4) w) := by
  have hcn := h.cnt
  rw [← hcn] at hb
  have BO := Lib.hid (bo_start w #[.int .i64 t.count, .int .i64 t.total, .int .i64 t.depth, .pointer p, .slice A xs.length c])
  obtain ⟨x0, x1, x2, x3, x4⟩ := box5 BO.out.box
  clear h hcn
  by_cases h1 : i < 0
  · clear hb
    go_enter Try.func20, Try.ntmps20
    go_upto_region 3 with fail
    obtain ⟨W0, hW0⟩ : ∃ W, (w.alloc (.cells #[.int .i64 t.count, .int .i64 t.total, .int .i64 t.depth, .pointer p, .slice A xs.length c] 32)).alloc (.cells #[.int .i64 0, .int .i64 0, .int .i64 0, .pointer none, .slice none 0 0] 32) = W := ⟨_, rfl⟩
    rw [hW0] at BO ⊢
    clear hW0 x0 x1 x2 x3 x4
    obtain ⟨v0, v1, v2, v3, v4, c0, c1, c2, c3, c4, f0, f1, f2, f3, f4⟩ := BO.out.rm.open_
    go_wp2_with fail
    exact bodyPost_ret (res_ix_err (t := 8) (u := 9) rfl (g := w.heap.size + 1) rfl (heap_set5 BO.out.rm)) rfl (ixe_err BO.out.u (Nat.le_succ _))
  · have h2 : (t.count : Int) < i := by omega
    have d1 : decide (i < 0) = false := decide_eq_false h1
    clear hb h1
    have HL := Lib.hid (len_below t.count t.total t.depth p ((w.alloc (.cells #[.int .i64 t.count, .int .i64 t.total, .int .i64 t.depth, .pointer p, .slice A xs.length c] 32)).alloc (.cells #[.int .i64 0, .int .i64 0, .int .i64 0, .pointer none, .slice none 0 0] 32)))
    go_enter Try.func20, Try.ntmps20
    go_wp2_with fail
    refine HL.out.mono ?_
    rintro e w1 ⟨rfl, kk⟩
    have B1 := Lib.hid (BO.out.next kk)
    clear kk BO HL x0 x1 x2 x3 x4
    obtain ⟨v0, v1, v2, v3, v4, c0, c1, c2, c3, c4, f0, f1, f2, f3, f4⟩ := B1.out.rm.open_
    go_wp2_with fail
    exact bodyPost_ret (res_ix_err (t := 8) (u := 9) rfl (g := w.heap.size + 1) rfl (heap_set5 B1.out.rm)) rfl (ixe_err B1.out.u (Nat.le_succ _))
set_option maxRecDepth 100000 in
set_option maxHeartbeats 8000000 in
theorem in_lim {w : World} {r : List (Int × Bool)} {t : T} {p A : Option Addr} {c : Nat} {xs : List S.Sp} (h : Ix w r t p A c xs) {SA : Option Addr} {d : Nat} {s : List Int} (i : Nat) (b : Bool) (hp : i ≤ r.length) (hs : RdI w w.heap.size SA s) (_hsd : s.length ≤ d) (_hdm : d ≤ 9223372036854775807) (h3 : 1024 < r.length + s.length) :
    Calls Try.prog 20 #[.agg #[.int .i64 t.count, .int .i64 t.total, .int .i64 t.depth, .pointer p, .slice A xs.length c], .int .i64 i, .slice SA s.length d, .bool b] w (IxE ([], 3) w) := by
  have hr0 := h.vr.len
  obtain ⟨q, hq, hq2⟩ : ∃ q : Nat, (1024 : Int) - (t.count : Int) = (q : Int) ∧ q + r.length = 1024 := ⟨1024 - r.length, by rw [h.cnt]; omega, by omega⟩
  have hct : (t.count : Int) ≤ 1024 := by rw [h.cnt]; omega
  have h3' : (q : Int) < (s.length : Int) := by omega
  have h3'' : q < s.length := by omega
  clear h3 hq2 hr0
  have hrl := h.vr.len
  have hcn := h.cnt
  have d1 : decide ((i : Int) < 0) = false := decide_eq_false (by omega)
  have d2 : decide ((t.count : Int) < (i : Int)) = false := decide_eq_false (by omega)
  have d2' : decide (t.count < i) = false := decide_eq_false (by omega)
  have BO := Lib.hid (bo_start w #[.int .i64 t.count, .int .i64 t.total, .int .i64 t.depth, .pointer p, .slice A xs.length c])
  obtain ⟨x0, x1, x2, x3, x4⟩ := box5 BO.out.box
  have HL := Lib.hid (len_below t.count t.total t.depth p)
  have HIX := Lib.hid h
  have HSS := Lib.hid hs
  have HCN := Lib.hid hcn
  clear h hcn hs
  go_enter Try.func20, Try.ntmps20
  go_wp2_with fail
  refine (HL.out _).mono ?_
  rintro e w1 ⟨rfl, kk⟩
  have B1 := Lib.hid (BO.out.next kk)
  clear kk BO x0 x1 x2 x3 x4
  obtain ⟨x0, x1, x2, x3, x4⟩ := box5 B1.out.box
  go_wp2_with fail
  refine (HL.out _).mono ?_
  rintro e w2 ⟨rfl, kk⟩
  have B2 := Lib.hid (B1.out.next kk)
  clear kk B1 HL x0 x1 x2 x3 x4
  obtain ⟨x0, x1, x2, x3, x4⟩ := box5 B2.out.box
  obtain ⟨v0, v1, v2, v3, v4, c0, c1, c2, c3, c4, f0, f1, f2, f3, f4⟩ := B2.out.rm.open_
  go_wp2_with fail
  exact bodyPost_ret (res_ix_err (t := 8) (u := 9) rfl (g := w.heap.size + 1) rfl (heap_set5 B2.out.rm)) rfl (ixe_err B2.out.u (Nat.le_succ _))
set_option maxRecDepth 100000 in
set_option maxHeartbeats 8000000 in
theorem in_chk {w : World} {r : List (Int × Bool)} {t : T} {p A : Option Addr} {c : Nat} {xs : List S.Sp} (h : Ix w r t p A c xs) {SA : Option Addr} {d : Nat} {s : List Int} (i : Nat) (b : Bool) (hp : i ≤ r.length) (hs : RdI w w.heap.size SA s) (hsd : s.length ≤ d) (hdm : d ≤ 9223372036854775807) (h3 : ¬ 1024 < r.length + s.length) (h4 : chk1 s ≠ 0) :
    Calls Try.prog 20 #[.agg #[.int .i64 t.count, .int .i64 t.total, .int .i64 t.depth, .pointer p, .slice A xs.length c], .int .i64 i, .slice SA s.length d, .bool b] w (IxE ([], chk1 s) w) := by
  obtain ⟨f, hf⟩ : ∃ f, chk1 s = f := ⟨_, rfl⟩
  rw [hf] at h4 ⊢
  have hr0 := h.vr.len
  obtain ⟨q, hq, hq2⟩ : ∃ q : Nat, (1024 : Int) - (t.count : Int) = (q : Int) ∧ q + r.length = 1024 := ⟨1024 - r.length, by rw [h.cnt]; omega, by omega⟩
  have hct : (t.count : Int) ≤ 1024 := by rw [h.cnt]; omega
  have d3 : decide ((q : Int) < (s.length : Int)) = false := decide_eq_false (by omega)
  have d3' : decide (q < s.length) = false := decide_eq_false (by omega)
  clear hr0
  have hrl := h.vr.len
  have hcn := h.cnt
  have d1 : decide ((i : Int) < 0) = false := decide_eq_false (by omega)
  have d2 : decide ((t.count : Int) < (i : Int)) = false := decide_eq_false (by omega)
  have d2' : decide (t.count < i) = false := decide_eq_false (by omega)
  have BO := Lib.hid (bo_start w #[.int .i64 t.count, .int .i64 t.total, .int .i64 t.depth, .pointer p, .slice A xs.length c])
  obtain ⟨x0, x1, x2, x3, x4⟩ := box5 BO.out.box
  have HL := Lib.hid (len_below t.count t.total t.depth p)
  have HIX := Lib.hid h
  have HSS := Lib.hid hs
  have HCN := Lib.hid hcn
  clear h hcn hs
  go_enter Try.func20, Try.ntmps20
  go_wp2_with fail
  refine (HL.out _).mono ?_
  rintro e w1 ⟨rfl, kk⟩
  have B1 := Lib.hid (BO.out.next kk)
  clear kk BO x0 x1 x2 x3 x4
  obtain ⟨x0, x1, x2, x3, x4⟩ := box5 B1.out.box
  go_wp2_with fail
  refine (HL.out _).mono ?_
  rintro e w2 ⟨rfl, kk⟩
  have B2 := Lib.hid (B1.out.next kk)
  clear kk B1 HL x0 x1 x2 x3 x4
  obtain ⟨x0, x1, x2, x3, x4⟩ := box5 B2.out.box
  have HC := Lib.hid (check1_any SA d s w2 (HSS.out.next B2.out.u) (by omega) hsd)
  rw [hf] at HC
  have e0 : (f == 0) = false := by simpa using h4
  clear hf h4
  go_wp2_with fail
  refine HC.out.mono ?_
  rintro e w3 ⟨rfl, hw⟩
  rw [hw] at B2
  clear hw HC HSS HIX HCN x0 x1 x2 x3 x4
  obtain ⟨v0, v1, v2, v3, v4, c0, c1, c2, c3, c4, f0, f1, f2, f3, f4⟩ := B2.out.rm.open_
  go_wp2_with fail
  exact bodyPost_ret (res_ix_err (t := 8) (u := 9) rfl (g := w.heap.size + 1) rfl (heap_set5 B2.out.rm)) rfl (ixe_err B2.out.u (Nat.le_succ _))
set_option maxRecDepth 100000 in
set_option maxHeartbeats 8000000 in
theorem in_over {w : World} {r : List (Int × Bool)} {t : T} {p A : Option Addr} {c : Nat} {xs : List S.Sp} (h : Ix w r t p A c xs) {SA : Option Addr} {d : Nat} {s : List Int} (i : Nat) (b : Bool) (hp : i ≤ r.length) (hs : RdI w w.heap.size SA s) (hsd : s.length ≤ d) (hdm : d ≤ 9223372036854775807) (h3 : ¬ 1024 < r.length + s.length) (h4 : chk1 s = 0) (h5 : joinE (sz r) s ≠ 0) :
    Calls Try.prog 20 #[.agg #[.int .i64 t.count, .int .i64 t.total, .int .i64 t.depth, .pointer p, .slice A xs.length c], .int .i64 i, .slice SA s.length d, .bool b] w (IxE ([], 13) w) := by
  have he : insI r (i : Int) s b = ([], 13) := by unfold insI; rw [if_pos (by unfold partE; rw [if_neg (by omega)]), if_neg h3, if_pos h4, if_neg h5]
  have HE := Lib.hid he
  clear he h5
  have hr0 := h.vr.len
  obtain ⟨q, hq, hq2⟩ : ∃ q : Nat, (1024 : Int) - (t.count : Int) = (q : Int) ∧ q + r.length = 1024 := ⟨1024 - r.length, by rw [h.cnt]; omega, by omega⟩
  have hct : (t.count : Int) ≤ 1024 := by rw [h.cnt]; omega
  have d3 : decide ((q : Int) < (s.length : Int)) = false := decide_eq_false (by omega)
  have d3' : decide (q < s.length) = false := decide_eq_false (by omega)
  clear hr0
  have hrl := h.vr.len
  have hcn := h.cnt
  have d1 : decide ((i : Int) < 0) = false := decide_eq_false (by omega)
  have d2 : decide ((t.count : Int) < (i : Int)) = false := decide_eq_false (by omega)
  have d2' : decide (t.count < i) = false := decide_eq_false (by omega)
  have BO := Lib.hid (bo_start w #[.int .i64 t.count, .int .i64 t.total, .int .i64 t.depth, .pointer p, .slice A xs.length c])
  obtain ⟨x0, x1, x2, x3, x4⟩ := box5 BO.out.box
  have HL := Lib.hid (len_below t.count t.total t.depth p)
  have HIX := Lib.hid h
  have HSS := Lib.hid hs
  have HCN := Lib.hid hcn
  clear h hcn hs
  go_enter Try.func20, Try.ntmps20
  go_wp2_with fail
  refine (HL.out _).mono ?_
  rintro e w1 ⟨rfl, kk⟩
  have B1 := Lib.hid (BO.out.next kk)
  clear kk BO x0 x1 x2 x3 x4
  obtain ⟨x0, x1, x2, x3, x4⟩ := box5 B1.out.box
  go_wp2_with fail
  refine (HL.out _).mono ?_
  rintro e w2 ⟨rfl, kk⟩
  have B2 := Lib.hid (B1.out.next kk)
  clear kk B1 HL x0 x1 x2 x3 x4
  obtain ⟨x0, x1, x2, x3, x4⟩ := box5 B2.out.box
  have HC := Lib.hid (check1_any SA d s w2 (HSS.out.next B2.out.u) (by omega) hsd)
  rw [h4] at HC
  go_wp2_with fail
  refine HC.out.mono ?_
  rintro e w3 ⟨rfl, hw⟩
  rw [hw] at B2
  clear hw HC x0 x1 x2 x3 x4
  obtain ⟨x0, x1, x2, x3, x4⟩ := box5 B2.out.box
  have HI := HIX.out.next B2.out.u
  have hk := ins_any (i : Int) SA d s (HSS.out.next B2.out.u) hsd hdm HI.nd HI.ls.bal HI.ok (by omega)
  rw [HI.ls.list, insI_insR b (by omega) h4] at hk
  have hpe : partE r.length (i : Int) 0 = 0 := by unfold partE; rw [if_neg (by omega)]
  rw [HE.out] at hk
  have HK := Lib.hid hk
  clear hk hpe HI HIX HE HSS HCN
  go_wp2_with fail
  refine HK.out.mono ?_
  rintro e w4 ⟨t2, p2, _, rfl, _, kk⟩
  have B3 := Lib.hid ((B2.out.next kk).next (below_new w4 (.cells #[.int .i64 t2.count, .int .i64 t2.total, .int .i64 t2.depth, .pointer p2] 29)))
  clear kk B2 HK x0 x1 x2 x3 x4
  obtain ⟨v0, v1, v2, v3, v4, c0, c1, c2, c3, c4, f0, f1, f2, f3, f4⟩ := B3.out.rm.open_
  go_wp2_with fail
  exact bodyPost_ret (res_ix_err (t := 8) (u := 9) rfl (g := w.heap.size + 1) rfl (heap_set5 B3.out.rm)) rfl (ixe_err B3.out.u (Nat.le_succ _))
set_option maxRecDepth 100000 in
set_option maxHeartbeats 8000000 in
theorem in_ok {w : World} {r : List (Int × Bool)} {t : T} {p A : Option Addr} {c : Nat} {xs : List S.Sp} (h : Ix w r t p A c xs) {SA : Option Addr} {d : Nat} {s : List Int} (i : Nat) (b : Bool) (hp : i ≤ r.length) (hs : RdI w w.heap.size SA s) (hsd : s.length ≤ d) (hdm : d ≤ 9223372036854775807) (h3 : ¬ 1024 < r.length + s.length) (h4 : chk1 s = 0) (h5 : joinE (sz r) s = 0) :
    Calls Try.prog 20 #[.agg #[.int .i64 t.count, .int .i64 t.total, .int .i64 t.depth, .pointer p, .slice A xs.length c], .int .i64 i, .slice SA s.length d, .bool b] w (IxE (r.take i ++ (s.map fun x => (x, b)) ++ r.drop i, 0) w) := by
  have he : insI r (i : Int) s b = (r.take i ++ (s.map fun x => (x, b)) ++ r.drop i, 0) := by unfold insI; rw [if_pos (by unfold partE; rw [if_neg (by omega)]), if_neg h3, if_pos h4, if_pos h5]; rfl
  have hvr := insI_vr h.vr (i : Int) s b
  rw [he] at hvr
  have HE := Lib.hid he
  have HVR := Lib.hid hvr
  have HM1 := Lib.hid (show ∀ U, Below w.heap.size w U → Calls Try.prog 38 #[.slice A xs.length c, .int .i64 i, .int .i64 s.length] U (SetE (r.take i ++ (s.map fun x => (x, false)) ++ r.drop i) U) from fun U k => sIns h.set ((h.rd.below k).more k.size) h.vr.len i hp s (by omega))
  have HM2 := Lib.hid (show ∀ U A3 out c3, IsSet (r.take i ++ (s.map fun x => (x, false)) ++ r.drop i) out → S.Rd U U.heap.size A3 out → out.length ≤ c3 → Calls Try.prog 39 #[.slice A3 out.length c3, .int .i64 i, .int .i64 s.length, .bool b] U (SetV (r.take i ++ (s.map fun x => (x, b)) ++ r.drop i) A3 out s.length U) from fun U A3 out c3 g1 g2 g3 => mark_any g1 g2 (by simp; omega) g3 i s.length (by omega) b (by simp; omega) (fun j => ins_kn h.set hp s (fun i' => by rw [g1.has, ins_gap h.set hp]) b j))
  clear he h5 hvr
  have hr0 := h.vr.len
  obtain ⟨q, hq, hq2⟩ : ∃ q : Nat, (1024 : Int) - (t.count : Int) = (q : Int) ∧ q + r.length = 1024 := ⟨1024 - r.length, by rw [h.cnt]; omega, by omega⟩
  have hct : (t.count : Int) ≤ 1024 := by rw [h.cnt]; omega
  have d3 : decide ((q : Int) < (s.length : Int)) = false := decide_eq_false (by omega)
  have d3' : decide (q < s.length) = false := decide_eq_false (by omega)
  clear hr0
  have hrl := h.vr.len
  have hcn := h.cnt
  have d1 : decide ((i : Int) < 0) = false := decide_eq_false (by omega)
  have d2 : decide ((t.count : Int) < (i : Int)) = false := decide_eq_false (by omega)
  have d2' : decide (t.count < i) = false := decide_eq_false (by omega)
  have BO := Lib.hid (bo_start w #[.int .i64 t.count, .int .i64 t.total, .int .i64 t.depth, .pointer p, .slice A xs.length c])
  obtain ⟨x0, x1, x2, x3, x4⟩ := box5 BO.out.box
  have HL := Lib.hid (len_below t.count t.total t.depth p)
  have HIX := Lib.hid h
  have HSS := Lib.hid hs
  have HCN := Lib.hid hcn
  clear h hcn hs
  go_enter Try.func20, Try.ntmps20
  go_wp2_with fail
  refine (HL.out _).mono ?_
  rintro e w1 ⟨rfl, kk⟩
  have B1 := Lib.hid (BO.out.next kk)
  clear kk BO x0 x1 x2 x3 x4
  obtain ⟨x0, x1, x2, x3, x4⟩ := box5 B1.out.box
  go_wp2_with fail
  refine (HL.out _).mono ?_
  rintro e w2 ⟨rfl, kk⟩
  have B2 := Lib.hid (B1.out.next kk)
  clear kk B1 HL x0 x1 x2 x3 x4
  obtain ⟨x0, x1, x2, x3, x4⟩ := box5 B2.out.box
  have HC := Lib.hid (check1_any SA d s w2 (HSS.out.next B2.out.u) (by omega) hsd)
  rw [h4] at HC
  go_wp2_with fail
  refine HC.out.mono ?_
  rintro e w3 ⟨rfl, hw⟩
  rw [hw] at B2
  clear hw HC x0 x1 x2 x3 x4
  obtain ⟨x0, x1, x2, x3, x4⟩ := box5 B2.out.box
  have HI := HIX.out.next B2.out.u
  have hk := ins_any (i : Int) SA d s (HSS.out.next B2.out.u) hsd hdm HI.nd HI.ls.bal HI.ok (by omega)
  rw [HI.ls.list, insI_insR b (by omega) h4] at hk
  have hpe : partE r.length (i : Int) 0 = 0 := by unfold partE; rw [if_neg (by omega)]
  rw [HE.out] at hk
  have HK := Lib.hid hk
  clear hk hpe HI HIX HE HSS HCN
  go_wp2_with fail
  refine HK.out.mono ?_
  rintro e w4 ⟨t2, p2, hs2, rfl, hn2, kk⟩
  have B3 := Lib.hid (B2.out.next kk)
  have VA := Lib.hid (B3.out.var hn2)
  have HLS := Lib.hid hs2
  clear kk B2 HK hs2 hn2 B3 x0 x1 x2 x3 x4
  go_upto_region 12 with fail
  obtain ⟨W2, hW2⟩ : ∃ W, w4.alloc (.cells #[.int .i64 t2.count, .int .i64 t2.total, .int .i64 t2.depth, .pointer p2] 29) = W := ⟨_, rfl⟩
  obtain ⟨g2, hg2⟩ : ∃ g, w4.heap.size = g := ⟨_, rfl⟩
  rw [hW2] at VA ⊢
  rw [hg2] at VA ⊢
  clear hW2 hg2
  obtain ⟨x0, x1, x2, x3, x4⟩ := box5 VA.out.box
  go_upto_region 13 with (first
    | (go_at_call 38; refine (HM1.out _ VA.out.u).mono ?_; rintro e w5 ⟨A3, out, rfl, hset3, hrd3, hfr3, k1⟩; have VB := Lib.hid (VA.out.next k1); have hfar : Hid (Far (w.heap.size + 1) A3 out) := Lib.hid (far_new hfr3 VA.out.lt); have hfara : Hid (∀ g, g < w.heap.size → Far g A3 out) := Lib.hid (fun g hg => far_new hfr3 (Nat.lt_of_lt_of_le hg VA.out.u.size)); have HM3 := Lib.hid (fun U (kk : Below w5.heap.size w5 U) => HM2.out U A3 out out.length hset3 ((hrd3.below kk).more kk.size) (Nat.le_refl _)); clear hset3 hrd3 hfr3 k1 VA HM1 HM2 x0 x1 x2 x3 x4)
    | (go_at_call 37; refine (sure_any _ _ _ _ _).mono ?_; rintro e w6 ⟨rfl, rfl⟩))
  obtain ⟨P, hP⟩ : ∃ P : World → Prop, (fun U => Va w U (w.heap.size + 1) g2 #[.int .i64 t.count, .int .i64 t.total, .int .i64 t.depth, .pointer p, .slice A xs.length c] t2 p2) = P := ⟨_, rfl⟩
  have hP0 : P w5 := by rw [← hP]; exact VB.out
  have PC := Lib.hid (show ∀ U, P U → (P U ∧ U.cell? ⟨g2, 0, none⟩ = some (.int .i64 t2.count) ∧ U.cell? ⟨g2, 1, none⟩ = some (.int .i64 t2.total) ∧ U.cell? ⟨g2, 2, none⟩ = some (.int .i64 t2.depth) ∧ U.cell? ⟨g2, 3, none⟩ = some (.pointer p2) ∧ U.cell? ⟨w.heap.size, 4, none⟩ = some (.slice A xs.length c)) from fun U h => by
    have h' := h
    rw [← hP] at h'
    exact ⟨h, (rc_cells h'.var).1, (rc_cells h'.var).2.1, (rc_cells h'.var).2.2.1, (rc_cells h'.var).2.2.2, (box5 h'.box).2.2.2.2⟩)
  have PN := Lib.hid (show ∀ U U', P U → Below U.heap.size U U' → P U' from fun U U' h kk => by
    rw [← hP] at h ⊢
    exact h.next kk)
  have PS := Lib.hid (show ∀ U a0 a1 a2 a3 a4, P U → P (((((U.setCell ⟨w.heap.size + 1, 0, none⟩ a0).setCell ⟨w.heap.size + 1, 1, none⟩ a1).setCell ⟨w.heap.size + 1, 2, none⟩ a2).setCell ⟨w.heap.size + 1, 3, none⟩ a3).setCell ⟨w.heap.size + 1, 4, none⟩ a4) from fun U a0 a1 a2 a3 a4 h => by
    rw [← hP] at h ⊢
    exact h.set5 _ _ _ _ _)
  have PV := Lib.hid (show ∀ U, P U → Va w U (w.heap.size + 1) g2 #[.int .i64 t.count, .int .i64 t.total, .int .i64 t.depth, .pointer p, .slice A xs.length c] t2 p2 from fun U h => by
    rw [← hP] at h
    exact h)
  have HP0 := Lib.hid (PN.out _ _ hP0 (drew_below w5))
  clear hP hP0 VB
  have HM4 := Lib.hid (HM3.out _ (drew_below w5))
  go_region_held3 (fun U => P U ∧ U.cell? ⟨g2, 0, none⟩ = some (.int .i64 t2.count) ∧ U.cell? ⟨g2, 1, none⟩ = some (.int .i64 t2.total) ∧ U.cell? ⟨g2, 2, none⟩ = some (.int .i64 t2.depth) ∧ U.cell? ⟨g2, 3, none⟩ = some (.pointer p2) ∧ U.cell? ⟨w.heap.size, 4, none⟩ = some (.slice A xs.length c))
    (first
      | with_reducible exact PC.out _ HP0.out
      | with_reducible exact PC.out _ hp1.out
      | with_reducible exact PC.out _ (PS.out _ _ _ _ _ _ hp1.out)
      | (trace_state; fail))
    (first | (go_at_call 39; refine HM4.out.mono ?_; rintro e w7 ⟨A5, out5, c5, rfl, hset3, hrd3, hc3, hfr3, k1⟩; have hp1 := Lib.hid (PN.out _ _ HP0.out k1); have hfar2 : Hid (Far (w.heap.size + 1) A5 out5) := Lib.hid (hfr3 _ (fun _ => hfar.out) (PV.out _ HP0.out).lt); have hall : Hid (∀ g, g < w.heap.size → Far g A5 out5) := Lib.hid (fun g hg => hfr3 g (fun _ => hfara.out g hg) (Nat.lt_of_lt_of_le hg (PV.out _ HP0.out).u.size)); have hset := Lib.hid hset3; have hrd := Lib.hid hrd3; have hcap := Lib.hid hc3; clear hset3 hrd3 hfr3 hc3; obtain ⟨v0, v1, v2, v3, v4, c0, c1, c2, c3, c4, f0, f1, f2, f3, f4⟩ := (PV.out _ hp1.out).rm.open_))
  all_goals (
    go_wp2_with fail
    exact bodyPost_ret (res_ix_err (t := 8) (u := 9) rfl (g := w.heap.size + 1) rfl (heap_set5 (PV.out _ hp1.out).rm)) rfl ((PV.out _ hp1.out).ret HLS.out hset.out hrd.out hfar2.out hcap.out HVR.out hall.out))
theorem in_any {w : World} {r : List (Int × Bool)} {t : T} {p A : Option Addr} {c : Nat} {xs : List S.Sp} (h : Ix w r t p A c xs) {SA : Option Addr} {d : Nat} {s : List Int} (i : Int) (b : Bool) (hs : RdI w w.heap.size SA s) (hsd : s.length ≤ d) (hdm : d ≤ 9223372036854775807) :
    Calls Try.prog 20 #[.agg #[.int .i64 t.count, .int .i64 t.total, .int .i64 t.depth, .pointer p, .slice A xs.length c], .int .i64 i, .slice SA s.length d, .bool b] w (IxE (insI r i s b) w) := by
  unfold insI
  rcases partE_two r.length i 0 with hp | hp
  · rw [if_pos hp]
    obtain ⟨a, m, rfl, hm, ham⟩ := part_nat hp
    have hp' : a ≤ r.length := by omega
    by_cases h3 : 1024 < r.length + s.length
    · rw [if_pos h3]; exact in_lim h a b hp' hs hsd hdm h3
    · rw [if_neg h3]
      by_cases h4 : chk1 s = 0
      · rw [if_pos h4]
        by_cases h5 : joinE (sz r) s = 0
        · rw [if_pos h5]; exact in_ok h a b hp' hs hsd hdm h3 h4 h5
        · rw [if_neg h5]; exact in_over h a b hp' hs hsd hdm h3 h4 h5
      · rw [if_neg h4]; exact in_chk h a b hp' hs hsd hdm h3 h4
  · rw [if_neg (by rw [hp]; decide)]
    refine in_bad h i b ?_
    unfold partE at hp
    split at hp
    · omega
    · cases hp
end Go.Proofs.Ytdejdnkkbpmmlaa
