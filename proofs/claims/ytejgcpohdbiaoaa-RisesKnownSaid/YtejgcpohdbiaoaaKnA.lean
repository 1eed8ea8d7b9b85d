/- The law's known lists: what is known of them, and the rows they lie in. -/
import Derived.Test.YtejgcpohdbiaoaaKnM
import Derived.Test.YtejgcpohdbiaoaaLivW
import Derived.Test.YtejgcpohdbiaoaaLwM
namespace Go.Proofs.Ytejgcpohdbiaoaa
open Go.RowKit

/-- a row that is being filled with f: i places are -/
def fil (f : Nat → Int) (i : Nat) : Nat → Value := fun j => if j < i then .int .i64 (f j) else .int .i64 0
theorem fil_step {w : World} {b n : Nat} {f : Nat → Int} {i : Nat} (h : w.rowIs b 3 n (fil f i)) {x : Int} (hx : x = f i) : (w.setCell ⟨b, i, none⟩ (.int .i64 x)).rowIs b 3 n (fil f (i + 1)) := by
  subst hx
  refine World.rowIs.congr (World.rowIs.set h i _) fun j _ => ?_
  unfold fil
  by_cases e : j = i
  · subst e
    rw [if_pos rfl, if_pos (by omega)]
  · rw [if_neg e]
    by_cases e2 : j < i
    · rw [if_pos e2, if_pos (by omega)]
    · rw [if_neg e2, if_neg (by omega)]
theorem fil_made (w : World) {cs : Array Value} {n : Nat} (f : Nat → Int) (h : madeCells #[.int .i64 0] n = cs) : (w.alloc (.cells cs 3)).rowIs w.heap.size 3 n (fil f 0) := by
  subst h
  exact World.rowIs.congr (World.rowIs_made w (.int .i64 0) n 3) fun j _ => by
    unfold fil
    rw [if_neg (by omega)]
/-- a row that is full is a list -/
theorem fil_list {w : World} {b n : Nat} {f : Nat → Int} (h : w.rowIs b 3 n (fil f n)) (hn : n ≤ 9223372036854775807) : ∃ l : List Int, l.length = n ∧ (∀ k (hk : k < l.length), l[k] = f k) ∧ SlI w (some ⟨b, 0, none⟩) n l := by
  refine ⟨(List.range n).map f, by rw [List.length_map, List.length_range], fun k hk => by rw [List.getElem_map, List.getElem_range], fun k hk => ?_, by rw [List.length_map, List.length_range]; exact Nat.le_refl _, hn, fun h => by cases h⟩
  have hk' : k < n := by rwa [List.length_map, List.length_range] at hk
  refine ⟨b, 0, rfl, World.rowIs.lt h, ?_⟩
  rw [Nat.zero_add, World.rowIs.cell h hk', List.getElem_map, List.getElem_range]
  unfold fil
  rw [if_pos hk']
def upF : Nat → Int := fun k => (k : Int)
def dnF : Nat → Int := fun k => 4097 - (k : Int)
def tuF : Nat → Int := fun k => ((k : Int) + 1000) % 4096
/-- the three rows -/
structure KnI (w wr : World) (g1 g2 g3 : Nat) (i j : Nat) : Prop where
  a : wr.rowIs g1 3 4097 (fil upF i)
  b : wr.rowIs g2 3 4097 (fil dnF i)
  c : wr.rowIs g3 3 4096 (fil tuF j)
  n12 : g1 ≠ g2
  n13 : g1 ≠ g3
  n23 : g2 ≠ g3
  l1 : w.heap.size ≤ g1
  l2 : w.heap.size ≤ g2
  l3 : w.heap.size ≤ g3
  u : Below w.heap.size w wr
theorem KnI.one {w wr : World} {g1 g2 g3 : Nat} {i j : Nat} (h : KnI w wr g1 g2 g3 i j) {x y : Int} (hx : x = i) (hy : y = 4097 - (i : Int)) : KnI w ((wr.setCell ⟨g1, i, none⟩ (.int .i64 x)).setCell ⟨g2, i, none⟩ (.int .i64 y)) g1 g2 g3 (i + 1) j :=
  ⟨World.rowIs.setOther (fil_step h.a hx) h.n12 _, fil_step (World.rowIs.setOther h.b (fun e => h.n12 e.symm) _) hy, World.rowIs.setOther (World.rowIs.setOther h.c (fun e => h.n13 e.symm) _) (fun e => h.n23 e.symm) _,
    h.n12, h.n13, h.n23, h.l1, h.l2, h.l3, (h.u.setCell (by exact h.l1) _).setCell (by exact h.l2) _⟩
theorem KnI.two {w wr : World} {g1 g2 g3 : Nat} {i j : Nat} (h : KnI w wr g1 g2 g3 i j) {x : Int} (hx : x = ((j : Int) + 1000) % 4096) : KnI w (wr.setCell ⟨g3, j, none⟩ (.int .i64 x)) g1 g2 g3 i (j + 1) :=
  ⟨World.rowIs.setOther h.a h.n13 _, World.rowIs.setOther h.b h.n23 _, fil_step h.c hx, h.n12, h.n13, h.n23, h.l1, h.l2, h.l3, h.u.setCell (by exact h.l3) _⟩
theorem kn_start {w V1 V2 V3 : World} {cs1 cs3 : Array Value} {g1 g2 g3 : Nat} (h1 : madeCells #[.int .i64 0] 4097 = cs1) (h3 : madeCells #[.int .i64 0] 4096 = cs3)
    (e1 : w.alloc (.cells cs1 3) = V1) (e2 : V1.alloc (.cells cs1 3) = V2) (e3 : V2.alloc (.cells cs3 3) = V3) (s1 : w.heap.size = g1) (s2 : V1.heap.size = g2) (s3 : V2.heap.size = g3) : KnI w V3 g1 g2 g3 0 0 := by
  have a1 := fil_made w upF h1
  rw [e1, s1] at a1
  have b1 := fil_made V1 dnF h1
  rw [e2, s2] at b1
  have c1 := fil_made V2 tuF h3
  rw [e3, s3] at c1
  have a2 := World.rowIs.alloc a1 (.cells cs1 3)
  rw [e2] at a2
  have a3 := World.rowIs.alloc a2 (.cells cs3 3)
  rw [e3] at a3
  have b2 := World.rowIs.alloc b1 (.cells cs3 3)
  rw [e3] at b2
  have z2 : V1.heap.size = w.heap.size + 1 := by rw [← e1]; simp
  have z3 : V2.heap.size = V1.heap.size + 1 := by rw [← e2]; simp
  have u1 := below_new w (.cells cs1 3)
  rw [e1] at u1
  have u2 := below_new V1 (.cells cs1 3)
  rw [e2] at u2
  have u3 := below_new V2 (.cells cs3 3)
  rw [e3] at u3
  exact ⟨a3, b2, c1, by omega, by omega, by omega, by omega, by omega, by omega, (u1.trans (u2.mono (by omega))).trans (u3.mono (by omega))⟩
/-- what is known of the lists -/
structure Kn (up dn tu U D a c : List Int) (s : List (Int × Int)) : Prop where
  ul : U.length = 4096
  dl : D.length = 4096
  pl : up.length = 4097
  tl : tu.length = 4096
  lU : lonR U = (a, 0)
  al : a.length = 4096
  lD : lonR D = ([0], 0)
  lup : lonR up = ([], 3)
  ck : chk up = 3
  lt : lonR tu = (c, 0)
  cl : c.length = 3096
  c0 : ∀ h : 0 < c.length, c[0] = 0
  mv : movesR U tu = (s, 0)
  sl : s.length = 1000
  s0 : ∀ h : 0 < s.length, s[0] = (999, -1)
  s9 : ∀ h : 999 < s.length, s[999] = (0, 1)
  ca : carryR U s = (tu, 0)
  rU : Rng U
  rt : Rng tu
  rp : Rng up
  rs : RngP s
theorem take_get {l : List Int} {f : Nat → Int} (h : ∀ k (hk : k < l.length), l[k] = f k) (m : Nat) : ∀ k (hk : k < (l.take m).length), (l.take m)[k] = f k := fun k hk => by
  rw [List.getElem_take]
  exact h k _
theorem rng_get {l : List Int} {f : Nat → Int} (h : ∀ k (hk : k < l.length), l[k] = f k) (hl : l.length ≤ 5000) (hf : ∀ k, k < 5000 → I64 (f k)) : Rng l := fun x hx => by
  obtain ⟨i, hi, rfl⟩ := List.getElem_of_mem hx
  rw [h i hi]
  exact hf i (by omega)
theorem known {up dn tu : List Int} (pl : up.length = 4097) (dl : dn.length = 4097) (tl : tu.length = 4096) (hu : ∀ k (hk : k < up.length), up[k] = upF k) (hd : ∀ k (hk : k < dn.length), dn[k] = dnF k) (ht : ∀ k (hk : k < tu.length), tu[k] = tuF k) :
    ∃ a c s, Kn up dn tu (up.take 4096) (dn.take 4096) a c s := by
  obtain ⟨n, hn⟩ : ∃ n, n = 4096 := ⟨_, rfl⟩
  obtain ⟨U, hU⟩ : ∃ U, up.take n = U := ⟨_, rfl⟩
  obtain ⟨D, hD⟩ : ∃ D, dn.take n = D := ⟨_, rfl⟩
  rw [← hn, hU, hD]
  have ul : U.length = 4096 := by rw [← hU, List.length_take]; omega
  have dl' : D.length = 4096 := by rw [← hD, List.length_take]; omega
  have hU2 : ∀ k (hk : k < U.length), U[k] = (k : Int) := by
    rw [← hU]; exact take_get hu n
  have hD2 : ∀ k (hk : k < D.length), D[k] = 4097 - (k : Int) := by
    rw [← hD]; exact take_get hd n
  have ht2 : ∀ k (hk : k < tu.length), tu[k] = ((k : Int) + 1000) % 4096 := ht
  have h1 := up_long hU2
  have h2 := down_long (l := D) (by omega) fun i j hi hj hij => by rw [hD2 i hi, hD2 j hj]; omega
  obtain ⟨m, hm⟩ : ∃ m, m = 3096 := ⟨_, rfl⟩
  have h3 := turned_long (l := tu) (n := 4096) (d := 1000) (m := m) tl (by omega) (by omega) (fun k hk hkm => by rw [ht2 k hk]; omega) (fun k hk hkm => by rw [ht2 k hk]; omega)
  have htr : ∀ x ∈ tu, 0 ≤ x ∧ x < U.length := fun x hx => by
    obtain ⟨i, hi, rfl⟩ := List.getElem_of_mem hx
    rw [ht2 i hi]
    omega
  have h4 : posL U tu = tu := posL_up hU2 htr
  have hK : keptP U tu = List.range m := by unfold keptP; rw [h4, h3]
  have ho : Ord U := up_ord (by omega) hU2
  have hot : tu.Nodup := by
    rw [List.nodup_iff_pairwise_ne, List.pairwise_iff_getElem]
    intro i j hi hj hij
    rw [ht2 i hi, ht2 j hj]
    omega
  have hpt : tu.Perm U := perm_of_sub hot (fun x hx => by
    obtain ⟨g1, g2⟩ := htr x hx
    have hk : x.toNat < U.length := by omega
    have := hU2 _ hk
    rw [show ((x.toNat : Nat) : Int) = x by omega] at this
    rw [← this]
    exact List.getElem_mem hk) (by omega)
  have hOt : Ord tu := ho.perm hpt
  have hml := moves_len U tu
  rw [hK, List.length_range] at hml
  have hmv : movesR U tu = (movesL U tu, 0) := by unfold movesR; rw [if_pos (pairE_zero.2 ⟨ho, hOt, hpt⟩)]
  have hgm : ∀ j, j + 1 + m ≤ tu.length → (movesL U tu)[j]? = some (tu.getD (tu.length - 1 - j) 0, nxt tu (tu.length - 1 - j)) := fun j hj => by
    unfold movesL
    rw [hK]
    exact mvJ_get tu m j hj
  have hrt : Rng tu := rng_get ht2 (by omega) fun k hk => by unfold I64; omega
  refine ⟨nats (longR U), nats (longR tu), movesL U tu, ul, dl', pl, tl, ?_, ?_, ?_, ?_, ?_, ?_, ?_, ?_, hmv, by omega, ?_, ?_, ?_, ?_, hrt, ?_, ?_⟩
  · unfold lonR; rw [if_neg (by omega)]
  · rw [nats_len, h1, List.length_range]; exact ul
  · unfold lonR; rw [if_neg (by omega), h2]; rfl
  · unfold lonR; rw [if_pos (by omega)]
  · unfold chk; rw [if_pos (by omega)]
  · unfold lonR; rw [if_neg (by omega)]
  · rw [nats_len, h3, List.length_range]; exact hm
  · intro h
    have : (nats (longR tu))[0]? = some 0 := by
      unfold nats
      rw [h3, List.getElem?_map, List.getElem?_range (by omega)]
      rfl
    rw [List.getElem?_eq_getElem h] at this
    exact Option.some.inj this
  · intro h
    have h5 := hgm 0 (by omega)
    rw [List.getElem?_eq_getElem h] at h5
    have h6 := Option.some.inj h5
    rw [h6]
    unfold nxt
    rw [tl, List.getD_eq_getElem?_getD, List.getD_eq_getElem?_getD, List.getElem?_eq_getElem (by omega), List.getElem?_eq_none (by omega)]
    simp only [Option.getD_some, Option.getD_none, ht2]
    rfl
  · intro h
    have h5 := hgm 999 (by omega)
    rw [List.getElem?_eq_getElem h] at h5
    have h6 := Option.some.inj h5
    rw [h6]
    unfold nxt
    rw [tl, List.getD_eq_getElem?_getD, List.getD_eq_getElem?_getD, List.getElem?_eq_getElem (by omega), List.getElem?_eq_getElem (by omega)]
    simp only [Option.getD_some, ht2]
    rfl
  · unfold carryR
    rw [if_pos (chk_zero.2 ho), if_neg (by omega)]
    exact moves_carry ho hOt hpt
  · exact rng_get hU2 (by omega) fun k hk => by unfold I64; omega
  · exact rng_get hu (by omega) fun k hk => by unfold I64 upF; omega
  · unfold movesL
    exact mvJ_rng hrt _ _
/-- one number, moved to the end again and again -/
theorem many_known {M : List (Int × Int)} (hl : M.length = 4097) (hM : ∀ k (hk : k < M.length), M[k] = ((1 : Int), (-1 : Int))) :
    carryR [1] M = ([], 3) ∧ carryR [1] (M.take 4096) = ([1], 0) ∧ carryR [1, 1] M = ([], 8) ∧ (M.take 4096).length = 4096 ∧ RngP M ∧ RngP (M.take 4096) := by
  obtain ⟨n, hn⟩ : ∃ n, n = 4096 := ⟨_, rfl⟩
  rw [← hn]
  have h1 : chk [1] = 0 := by decide
  have h2 : chk [1, 1] = 8 := by decide
  have hr : RngP M := fun x hx => by
    obtain ⟨i, hi, rfl⟩ := List.getElem_of_mem hx
    rw [hM i hi]
    unfold I64
    omega
  have hlt : (M.take n).length = n := by rw [List.length_take]; omega
  have h3 : M.take n = List.replicate n (1, -1) := by
    refine List.eq_replicate_iff.2 ⟨hlt, fun x hx => ?_⟩
    obtain ⟨i, hi, rfl⟩ := List.getElem_of_mem (List.mem_of_mem_take hx)
    exact hM i hi
  refine ⟨?_, ?_, ?_, hlt, hr, fun x hx => hr x (List.mem_of_mem_take hx)⟩
  · unfold carryR; rw [if_pos h1, if_pos (by omega)]
  · unfold carryR; rw [if_pos h1, if_neg (by omega), h3]; exact carL_one_end n
  · unfold carryR; rw [h2, if_neg (by decide)]
end Go.Proofs.Ytejgcpohdbiaoaa
