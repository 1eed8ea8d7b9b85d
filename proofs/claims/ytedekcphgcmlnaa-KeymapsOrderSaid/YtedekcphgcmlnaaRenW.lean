/- renew: new slots without tombs. -/
import Derived.Test.YtedekcphgcmlnaaGetW
namespace Go.Proofs.Ytedekcphgcmlnaa
open Go.RowKit

theorem info59 : (Try.prog.info? 59).map (fun i => (i.zero, i.size, i.bytes)) = some (some (.agg #[.int .u8 0, .int .u64 0, .int .i64 0]), 3, 24) := by kernel_rfl
theorem sv_free (n : Nat) : sv (List.replicate n .free) = (List.range (n * 3)).map fun i => (#[.int .u8 0, .int .u64 0, .int .i64 0] : Array Value)[i % 3]! := by
  induction n with
  | zero => rfl
  | succ n ih =>
    have e : List.replicate (n + 1) Sl.free = List.replicate n .free ++ [.free] := List.replicate_succ'
    rw [e, sv_app, ih, Nat.succ_mul, List.range_add, List.map_append, List.map_map]
    congr 1
    simp [sv, c3, Sl.st, Sl.key, Sl.val, List.range_succ, Nat.mul_add_mod_self_right]
theorem made_free (n : Nat) : madeCells #[.int .u8 0, .int .u64 0, .int .i64 0] (n * 3) = (sv (List.replicate n .free)).toArray := by
  rw [sv_free]
  apply Array.ext'
  simp [madeCells]
theorem make_slots (x : Int) (n : Nat) (e : x = n) (h : n ≤ 100000) (w : World) :
    (Instr.makeSlice 52 (.int .i64 x) (.int .i64 x)).run Try.prog w = .ok (.slice (some ⟨w.heap.size, 0, none⟩) n n) (w.alloc (.cells (sv (List.replicate n .free)).toArray 59)) := by
  subst e
  obtain ⟨i, hi, h1⟩ := Option.map_eq_some_iff.1 info59
  simp only [Prod.mk.injEq] at h1
  obtain ⟨hz, hs, hb⟩ := h1
  have := run_make (P := Try.prog) w 52 59 i _ Try.underlying52 hi hz .i64 .i64 n n (by omega) (by omega) (by rw [hb]; omega) (by omega)
  rw [hs] at this
  simp only [Int.toNat_natCast] at this
  rw [← made_free]
  exact this
/-- the new slots, i of the old ones having come in -/
structure RnI (w wr : World) (b s g n i : Nat) (K : Int) (S N : List Sl) : Prop where
  obj : wr.heap[b]? = some (.cells #[.slice (some ⟨g, 0, none⟩) n n, .int .i64 K, .int .i64 0] 54 (0, 0))
  row : Row wr g N
  old : S ≠ [] → Row wr s S
  ren : Renew S N n i
  fr : Fr w wr b b
  gg : w.heap.size ≤ g
theorem RnI.next {w wr w' : World} {b s g n i : Nat} {K : Int} {S N : List Sl} (h : RnI w wr b s g n i K S N) (hb : Below wr.heap.size wr w') : RnI w w' b s g n i K S N :=
  ⟨(hb.block b (heap_lt h.obj)).trans h.obj, h.row.keep (hb.block g h.row.lt), fun e => (h.old e).keep (hb.block s (h.old e).lt), h.ren, h.fr.trans (Fr.of_below hb), h.gg⟩
theorem RnI.keep {w wr : World} {b s g n i : Nat} {K : Int} {S N : List Sl} (h : RnI w wr b s g n i K S N) {x : Sl} (hx : S[i]? = some x) (hp : x.pr = none) : RnI w wr b s g n (i + 1) K S N :=
  ⟨h.obj, h.row, h.old, h.ren.keep hx hp, h.fr, h.gg⟩
theorem RnI.put {w wr : World} {b s g n i j : Nat} {K k v : Int} {S N : List Sl} (h : RnI w wr b s g n i K S N) (hx : S[i]? = some (.taken k v)) (hm : Miss N k j) (hs : s < w.heap.size) (hb : b < w.heap.size) :
    RnI w (((wr.setCell ⟨g, j * 3, none⟩ (.int .u8 1)).setCell ⟨g, j * 3 + 1, none⟩ (.int .u64 k)).setCell ⟨g, j * 3 + 2, none⟩ (.int .i64 v)) b s g n (i + 1) K S (N.set j (.taken k v)) := by
  have hg := h.gg
  have hbg : b ≠ g := by omega
  have hsg : s ≠ g := by omega
  refine ⟨?_, h.row.set hm.lt (.taken k v), fun e => ?_, h.ren.put hx hm, ?_, hg⟩
  · refine (Below.heap_setCell _ _ _ b hbg).trans ?_
    refine (Below.heap_setCell _ _ _ b hbg).trans ?_
    exact (Below.heap_setCell _ _ _ b hbg).trans h.obj
  · refine (h.old e).keep ?_
    refine (Below.heap_setCell _ _ _ s hsg).trans ?_
    refine (Below.heap_setCell _ _ _ s hsg).trans ?_
    exact Below.heap_setCell _ _ _ s hsg
  · have hf := h.fr
    exact ⟨hf.os, hf.tape, hf.output, by simpa [World.setCell] using hf.size, fun i hi h1 h2 => by
      have hig : i ≠ g := by omega
      refine (Below.heap_setCell _ _ _ i hig).trans ?_
      refine (Below.heap_setCell _ _ _ i hig).trans ?_
      exact (Below.heap_setCell _ _ _ i hig).trans (hf.block i hi h1 h2)⟩
theorem ren_start {w : World} {b s n c : Nat} {A : Option Addr} {K T : Int} {S : List Sl} (ho : w.heap[b]? = some (.cells #[.slice A n c, .int .i64 K, .int .i64 T] 54 (0, 0))) (hb : b < w.heap.size) (hs : S ≠ [] → s ≠ b ∧ Row w s S) (N : Nat) :
    ∃ V : World, RnI w V b s w.heap.size N 0 K S (List.replicate N .free) ∧ V = ((w.setCell ⟨b, 0, none⟩ (.slice (some ⟨w.heap.size, 0, none⟩) N N)).setCell ⟨b, 2, none⟩ (.int .i64 0)).alloc (.cells (sv (List.replicate N .free)).toArray 59) := by
  refine ⟨_, ⟨?_, ⟨[], ?_⟩, fun e => ?_, renew_zero S N, ?_, Nat.le_refl _⟩, rfl⟩
  · refine (Below.heap_alloc _ _ b (by simpa [World.setCell] using hb)).trans ?_
    exact set3_2 (set3_0 ho)
  · rw [List.append_nil]
    exact new_at _ (by simp [World.setCell])
  · obtain ⟨h1, h2⟩ := hs e
    refine h2.keep ?_
    refine (Below.heap_alloc _ _ s (by simpa [World.setCell] using h2.lt)).trans ?_
    refine (Below.heap_setCell _ _ _ s h1).trans ?_
    exact Below.heap_setCell _ _ _ s h1
  · exact (((Fr.refl w b b).setCell (.inl rfl) _).setCell (.inl rfl) _).alloc _
theorem ren_q {N q m : Nat} (h : N = 2 ^ q) (h2 : N = 8 ∨ N < 4 * (m + 1)) (hm : m < 4096) : q ≤ 13 := by
  rcases Nat.lt_or_ge 13 q with hc | hc
  · have : 2 ^ 14 ≤ 2 ^ q := Nat.pow_le_pow_right (by decide) hc
    have e : 2 ^ 14 = 16384 := by decide
    omega
  · exact hc
/-- what renew gives -/
def Renewed (S : List Sl) (b s m : Nat) (w : World) (e : Ending) (w' : World) : Prop :=
  e = .returned (.tuple #[]) ∧ ∃ q n g N, 3 ≤ q ∧ n = 2 ^ q ∧ 2 * (m + 1) ≤ n ∧ (n = 8 ∨ n < 4 * (m + 1)) ∧ RnI w w' b s g n S.length m S N
set_option maxRecDepth 100000 in
set_option maxHeartbeats 4000000 in
theorem renew_walk {w : World} {b s M : Nat} {S : List Sl} {L : PL} (h : Mp w b s S) (hg : Good S L M) (hl : L.length < 4096) :
    Calls Try.prog 27 #[.pointer (some ⟨b, 0, none⟩)] w (Renewed S b s L.length w) := by
  obtain ⟨A, c, h0⟩ := h.any
  have hbl := h.lt
  have hA : S ≠ [] → A = some ⟨s, 0, none⟩ ∧ s ≠ b ∧ Row w s S := fun hS => by
    obtain ⟨c', h1, h2, h3, _⟩ := h.full hS
    have := h0.c0.symm.trans h1.c0
    simp only [Option.some.injEq, Value.slice.injEq] at this
    exact ⟨this.1, h3, h2⟩
  have hlen := hg.len
  have hlong := hg.long
  rw [hlen] at h0
  have c0 := h0.c0
  have c1 := h0.c1
  have c2 := h0.c2
  have f0 := h0.frozen 0
  have f2 := h0.frozen 2
  have HA := Lib.hid hA
  have H0 := Lib.hid h0
  have HG := Lib.hid hg
  clear h hg h0 hA hlen
  obtain ⟨m, hm⟩ : ∃ m, L.length = m := ⟨_, rfl⟩
  rw [hm] at hl c1 H0 ⊢
  have HMM := Lib.hid hm
  clear hm
  go_enter Try.func27, Try.ntmps27
  go_wp2_with fail
  go_loopw [2] (fun v wr => ∃ (N q : Nat), v = .int .i64 N ∧ Hid (N = 2 ^ q) ∧ 3 ≤ q ∧ 8 ≤ N ∧ N ≤ 16384 ∧ Hid (N = 8 ∨ N < 4 * (m + 1)) ∧ w = wr) (fun v _ => 16384 - (intOf v).toNat)
  case atStart => exact ⟨8, 3, rfl, Lib.hid (by decide), by omega, by omega, by omega, Lib.hid (.inl rfl), rfl⟩
  case round =>
    obtain ⟨N, q, rfl, HN, hq, hN1, hN2, HN3, rfl⟩ := hrel
    by_cases hlt : N < 2 * (m + 1)
    · have hlt' : (N : Int) < 2 * ((m : Int) + 1) := by omega
      go_wp2_with fail
      go_roundw
      case rel => exact ⟨N * 2, q + 1, by rw [Int.natCast_mul]; rfl, Lib.hid (by rw [HN.out, Nat.pow_succ]), by omega, by omega, by omega, Lib.hid (.inr (by omega)), trivial⟩
      case measure => simp [intOf]; omega
    · have hlt' : ¬ ((N : Int) < 2 * ((m : Int) + 1)) := by omega
      have hmk := make_slots N N rfl (by omega)
      have hq13 : q ≤ 13 := ren_q HN.out HN3.out hl
      have hlN : (prs S).length < N := by rw [HG.out.len, HMM.out]; omega
      go_upto_region 5 with fail
      obtain ⟨V, hV, hVV⟩ := ren_start (s := s) (S := S) H0.out.whole hbl (fun e => ⟨(HA.out e).2.1, (HA.out e).2.2⟩) N
      obtain ⟨g, hgg⟩ : ∃ g : Nat, w.heap.size = g := ⟨_, rfl⟩
      rw [← hVV, hgg]
      rw [hgg] at hV
      have HV := Lib.hid hV
      clear hV hVV hmk c0 c1 c2 f0 f2 H0
      go_wp2_with fail
      go_loopw [32] (fun v wr => ∃ (i : Nat) (T : List Sl), v = .int .i64 i ∧ i ≤ S.length ∧ Hid (RnI w wr b s g N i m S T)) (fun v _ => S.length - (intOf v).toNat)
      case atStart => exact ⟨0, _, rfl, by omega, HV⟩
      case round =>
        clear HV
        obtain ⟨i, T, rfl, hi, HI⟩ := hrel
        by_cases hlt2 : i < S.length
        · have hlt3 : (i : Int) < (S.length : Int) := by omega
          obtain ⟨x, hx⟩ : ∃ x, S[i]? = some x := ⟨_, List.getElem?_eq_getElem hlt2⟩
          have hS : S ≠ [] := fun e => by rw [e] at hlt2; simp at hlt2
          obtain ⟨rfl, hsb, hsr⟩ := HA.out hS
          obtain ⟨d0, d1, d2⟩ := (HI.out.old hS).get hx
          have hsl := hsr.lt
          have HX := Lib.hid hx
          clear hx hsr
          go_upto_region 8 with fail
          obtain ⟨vb, hvb⟩ : ∃ vb : Nat, wr.heap.size = vb := ⟨_, rfl⟩
          obtain ⟨V, hV⟩ : ∃ V : World, V = wr.alloc (.cells #[.int .u8 x.st, .int .u64 x.key, .int .i64 x.val] 59) := ⟨_, rfl⟩
          have hVv : V.heap[vb]? = some (.cells #[.int .u8 x.st, .int .u64 x.key, .int .i64 x.val] 59 (0, 0)) := by rw [hV]; exact new_at _ hvb
          have v0 : V.cell? ⟨vb, 0, none⟩ = some (.int .u8 x.st) := cell_of_row _ _ 0 _ 59 (0, 0) hVv
          have v1 : V.cell? ⟨vb, 1, none⟩ = some (.int .u64 x.key) := cell_of_row _ _ 1 _ 59 (0, 0) hVv
          have HI2 : Hid (RnI w V b s g N i m S T) := Lib.hid (HI.out.next (by rw [hV]; exact (Below.refl _ _).alloc (Nat.le_refl _) _))
          have HVv := Lib.hid hVv
          rw [← hV, hvb]
          clear hV hVv d0 d1 d2 HI hvb
          by_cases ht : ∃ k v, x = .taken k v
          · obtain ⟨k, v, rfl⟩ := ht
            replace v0 : V.cell? ⟨vb, 0, none⟩ = some (.int .u8 1) := v0
            replace v1 : V.cell? ⟨vb, 1, none⟩ = some (.int .u64 k) := v1
            have hTl := HI2.out.ren.len
            have HFd := Lib.hid (find_some (obj3 (hTl ▸ HI2.out.obj)) HI2.out.row HI2.out.ren.path ⟨q, hq, hq13, hTl.trans HN.out⟩ (HI2.out.ren.free hlN) k)
            go_wp2_with fail
            refine HFd.out.mono ?_
            rintro e w2 ⟨at_, f, rfl, ⟨rfl, hh⟩ | ⟨rfl, hh⟩, hb⟩
            · exact (HI2.out.ren.no HG.out.perm HG.out.asc HX.out at_ hh).elim
            · have HI3 := Lib.hid (HI2.out.next hb)
              have HMs := Lib.hid hh
              have e0 := (obj3 HI3.out.obj).c0
              have hat : at_ < N := hTl ▸ hh.lt
              have hh2 := (hb.block vb (heap_lt HVv.out)).trans HVv.out
              have x0 : w2.cell? ⟨vb, 0, none⟩ = some (.int .u8 1) := cell_of_row _ _ 0 _ 59 (0, 0) hh2
              have x1 : w2.cell? ⟨vb, 1, none⟩ = some (.int .u64 k) := cell_of_row _ _ 1 _ 59 (0, 0) hh2
              have x2 : w2.cell? ⟨vb, 2, none⟩ = some (.int .i64 v) := cell_of_row _ _ 2 _ 59 (0, 0) hh2
              have y0 := HI3.out.row.frozen (at_ * 3)
              have y1 := HI3.out.row.frozen (at_ * 3 + 1)
              have y2 := HI3.out.row.frozen (at_ * 3 + 2)
              clear hb hh hh2 v0 v1 HI2 HVv
              obtain ⟨z, hz⟩ : ∃ z, T[at_]? = some z := ⟨_, List.getElem?_eq_getElem HMs.out.lt⟩
              obtain ⟨z0, z1, z2⟩ := HI3.out.row.get hz
              clear hz
              go_upto_region 10 with fail
              go_still_tail 7, (by kernel_rfl)
              change wpList _ _ _ _ _ w2.drew
              go_wp2_with fail
              go_roundw
              case rel => exact ⟨i + 1, _, rfl, by omega, Lib.hid ((HI3.out.put HX.out HMs.out hsl hbl).next (Below.refl _ _).drew)⟩
              case measure => simp [intOf]; omega
          · have hp : x.pr = none := by
              cases x with
              | free => rfl
              | tomb => rfl
              | taken k v => exact absurd ⟨k, v, rfl⟩ ht
            have hne : ¬ (x.st = 1) := by
              cases x with
              | free => decide
              | tomb => decide
              | taken k v => exact absurd ⟨k, v, rfl⟩ ht
            have HK := Lib.hid (HI2.out.keep HX.out hp)
            go_wp2_with fail
            go_roundw
            case rel => exact ⟨i + 1, T, rfl, by omega, HK⟩
            case measure => simp [intOf]; omega
        · have hlt3 : ¬ ((i : Int) < (S.length : Int)) := by omega
          obtain rfl : i = S.length := by omega
          go_wp2_with fail
          refine bodyPost_end (results_none rfl _ _ _) rfl ?_
          exact ⟨rfl, q, N, g, T, hq, HN.out, Nat.le_of_not_lt hlt, HN3.out, HI.out⟩
end Go.Proofs.Ytedekcphgcmlnaa
