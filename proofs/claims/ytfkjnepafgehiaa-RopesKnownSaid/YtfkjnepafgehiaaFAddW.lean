/- Walks of what changes a tree: add and its closure, New, Set. -/
import Derived.Test.YtfkjnepafgehiaaFReadW
import Derived.Test.YtfkjnepafgehiaaFRefW
import Derived.RegionTactic
namespace Go.Proofs.Ytfkjnepafgehiaa
open Go.RowKit

set_option maxHeartbeats 1000000 in
theorem carry_any {w : World} {b S c1 c2 n : Nat} {s : List Int} (k : Nat) (c : Int)
    (hp : w.heap[c1]? = some (.cells #[.pointer (some ⟨b, 0, none⟩)] 37 (0, 0))) (hq : w.heap[c2]? = some (.cells #[.int .i64 c] 2 (0, 0)))
    (hb : w.heap[b]? = some (.cells #[.slice (some ⟨S, 0, none⟩) n n] 71 (0, 0))) (hs : w.heap[S]? = some (.cells (ints s) 2 (0, 0)))
    (hn : s.length = n) (hk : k < s.length) (hl : s.length ≤ 5000) (h1 : -9223372036854775808 ≤ s[k] + c) (h2 : s[k] + c ≤ 9223372036854775807) :
    Calls Try.prog 56 #[.int .i64 k, .pointer (some ⟨c1, 0, none⟩), .pointer (some ⟨c2, 0, none⟩)] w fun e w' => e = .returned (.int .i64 ((k + lowN k : Nat) : Int)) ∧ ∃ m, w' = (w.drewN m).setCell ⟨S, k, none⟩ (.int .i64 (s[k] + c)) := by
  have g1 := cell_of_one hp
  have g2 := cell_of_one hq
  have g3 := cell_of_one hb
  have g4 : w.cell? ⟨S, k, none⟩ = some (.int .i64 s[k]) := by
    rw [cell_of_row w S k (ints s) 2 (0, 0) hs]
    simp [ints, hk]
  have g5 : w.frozen? ⟨S, k, none⟩ = false := by simp [World.frozen?, hs]
  have HL : Hid (∀ W, Calls Try.prog 44 #[.int .i64 (k : Int)] W fun e w' => e = .returned (.int .i64 (lowN k)) ∧ W = w') := Lib.hid (fun W => low_any k W (by omega))
  have hle := lowN_le k
  have a1 : IntKind.i64.wrap (s[k] + c) = s[k] + c := IntWalk.i64_in _ ⟨h1, h2⟩
  have hkn : k < n := by omega
  have hnl : n ≤ 5000 := by omega
  generalize s[k] = v at *
  generalize lowN k = d at *
  clear hp hq hb hs hn hk hl
  go_enter Try.func56, Try.ntmps56
  go_wp2_with fail
  go_still_tail 10, (by kernel_rfl)
  change wpList _ _ _ _ _ w.drew
  go_wp2_with (go_at_call 44; refine (HL.out _).mono ?_; rintro e w' ⟨rfl, rfl⟩)
  go_ret
  exact ⟨ret_int (by omega), 1, rfl⟩

theorem only_refl (w : World) (row : Option Nat) : w.grownBy w row := ⟨rfl, rfl, rfl, Nat.le_refl _, fun _ _ _ => rfl⟩
theorem only_drewN {a w : World} {row : Option Nat} (h : a.grownBy w row) (n : Nat) : a.grownBy (w.drewN n) row := ⟨h.os, h.tape, h.output, h.size, h.block⟩
theorem only_alloc {a w : World} {row : Option Nat} (h : a.grownBy w row) (o : Obj) : a.grownBy (w.alloc o) row :=
  ⟨h.os, h.tape, h.output, Nat.le_trans h.size (by simp), fun i hi hne => (Below.heap_alloc w o i (Nat.lt_of_lt_of_le hi h.size)).trans (h.block i hi hne)⟩
theorem only_setCell {a w : World} {g : Nat} (h : a.grownBy w (some g)) {p : Addr} (hp : p.block = g ∨ a.heap.size ≤ p.block) (u : Value) : a.grownBy (w.setCell p u) (some g) :=
  ⟨h.os, h.tape, h.output, by simpa [World.setCell] using h.size, fun i hi hne => (Below.heap_setCell w p u i (by
    rintro rfl
    rcases hp with hp | hp
    · exact hne (by rw [hp])
    · omega)).trans (h.block i hi hne)⟩
theorem ints_set (s : List Int) (k : Nat) (v : Int) : (ints s).setIfInBounds k (.int .i64 v) = ints (s.set k v) := by
  unfold ints
  apply Array.ext'
  simp [List.map_set]
theorem row_set {w : World} {S : Nat} {s : List Int} (h : w.heap[S]? = some (.cells (ints s) 2 (0, 0))) (n k : Nat) (v : Int) : ((w.drewN n).setCell ⟨S, k, none⟩ (.int .i64 v)).heap[S]? = some (.cells (ints (s.set k v)) 2 (0, 0)) := by
  rw [← ints_set]
  simp [World.setCell, Array.getElem?_modify, h]
theorem far_set {w : World} {S g : Nat} {o : Obj} (h : w.heap[g]? = some o) (hne : g ≠ S) (n k : Nat) (v : Value) : ((w.drewN n).setCell ⟨S, k, none⟩ v).heap[g]? = some o :=
  (Below.heap_setCell (w.drewN n) ⟨S, k, none⟩ v g hne).trans h

theorem Tr.ne {w : World} {b S : Nat} {l s : List Int} (h : Tr w b S l s) : b ≠ S := by
  rintro rfl
  have := h.box.symm.trans h.row
  injection this with this
  injection this with _ h2
  exact absurd h2 (by decide)

/-- what is true ahead of each round of add -/
structure AddI (w : World) (b S : Nat) (l : List Int) (i : Nat) (c : Int) (wr : World) (s : List Int) (m : Nat) : Prop where
  p : wr.heap[w.heap.size]? = some (.cells #[.pointer (some ⟨b, 0, none⟩)] 37 (0, 0))
  q : wr.heap[w.heap.size + 1]? = some (.cells #[.int .i64 c] 2 (0, 0))
  box : wr.heap[b]? = some (.cells #[.slice (some ⟨S, 0, none⟩) (l.length + 1) (l.length + 1)] 71 (0, 0))
  row : wr.heap[S]? = some (.cells (ints s) 2 (0, 0))
  fen : FenP l s i c m
  lo : m - lowN m ≤ i
  hi : i < m
  grown : w.grownBy wr (some S)
  ltS : S < w.heap.size
  ne : b ≠ S
theorem Tr.startI {w : World} {b S : Nat} {l s : List Int} (h : Tr w b S l s) (i : Nat) (c : Int) :
    AddI w b S l i c ((w.alloc (.cells #[.pointer (some ⟨b, 0, none⟩)] 37)).alloc (.cells #[.int .i64 c] 2)) s (i + 1) := by
  have lb : b < w.heap.size := lt_of_block h.box
  have lS : S < w.heap.size := lt_of_block h.row
  have lb2 : b < (w.alloc (.cells #[.pointer (some ⟨b, 0, none⟩)] 37)).heap.size := by simp; omega
  have lS2 : S < (w.alloc (.cells #[.pointer (some ⟨b, 0, none⟩)] 37)).heap.size := by simp; omega
  have hlo := lowN_pos (k := i + 1) (by omega)
  exact { p := (Below.heap_alloc _ _ w.heap.size (by simp)).trans (heap_alloc_new w _)
          q := by
            have := heap_alloc_new (w.alloc (.cells #[.pointer (some ⟨b, 0, none⟩)] 37)) (.cells #[.int .i64 c] 2)
            simpa using this
          box := (Below.heap_alloc _ _ b lb2).trans ((Below.heap_alloc _ _ b lb).trans h.box)
          row := (Below.heap_alloc _ _ S lS2).trans ((Below.heap_alloc _ _ S lS).trans h.row)
          fen := h.fen.start i c
          lo := by omega
          hi := by omega
          grown := only_alloc (only_alloc (only_refl w _) _) _
          ltS := lS
          ne := h.ne }
theorem AddI.next {w : World} {b S : Nat} {l : List Int} {i : Nat} {c : Int} {wr : World} {s : List Int} {m : Nat} (h : AddI w b S l i c wr s m) (hm : m < s.length) (n : Nat) :
    AddI w b S l i c ((wr.drewN n).setCell ⟨S, m, none⟩ (.int .i64 (s[m] + c))) (s.set m (s[m] + c)) (m + lowN m) := by
  have hh := h.fen.next h.lo h.hi hm
  have hS := h.ltS
  exact { p := far_set h.p (by omega) _ _ _
          q := far_set h.q (by omega) _ _ _
          box := far_set h.box h.ne _ _ _
          row := row_set h.row _ _ _
          fen := hh.2.1
          lo := hh.2.2.1
          hi := hh.2.2.2
          grown := only_setCell (only_drewN h.grown n) (.inl rfl) _
          ltS := h.ltS
          ne := h.ne }
theorem AddI.bound {w : World} {b S : Nat} {l : List Int} {i : Nat} {c : Int} {wr : World} {s : List Int} {m : Nat} (h : AddI w b S l i c wr s m) (hm : m < s.length) (hi : i < l.length) (hv : Vd (l.set i (l[i] + c))) :
    -9223372036854775808 ≤ s[m] + c ∧ s[m] + c ≤ 9223372036854775807 := by
  have h1 := (h.fen.next h.lo h.hi hm).1
  have h2 := fen_set hi c m
  rw [if_pos ⟨h.lo, h.hi⟩] at h2
  have := hv.fen m
  omega

def Added (w : World) (b S : Nat) (l : List Int) (e : Ending) (w' : World) : Prop := e = .returned (.tuple #[]) ∧ ∃ s', Tr w' b S l s' ∧ w.grownBy w' (some S)
set_option maxHeartbeats 1000000 in
theorem add_tree {w : World} {b S : Nat} {l s : List Int} (h : Tr w b S l s) (i : Nat) (hi : i < l.length) (c : Int) (hv : Vd (l.set i (l[i] + c))) :
    Calls Try.prog 41 #[.pointer (some ⟨b, 0, none⟩), .int .i64 i, .int .i64 c] w (Added w b S (l.set i (l[i] + c))) := by
  have hn := h.vd.len
  have H0 := Lib.hid (h.startI i c)
  have HV := Lib.hid hv
  clear h hv
  go_enter Try.func41, Try.ntmps41
  go_wp2_with fail
  go_loopw [7] (fun k wr => ∃ (m : Nat) (s : List Int), k = .int .i64 m ∧ Hid (AddI w b S l i c wr s m)) (fun k _ => l.length + 1 - (intOf k).toNat)
  case atStart => exact ⟨i + 1, s, by go_num, H0⟩
  case round =>
    obtain ⟨m, s, rfl, HI⟩ := hrel
    have g1 := cell_of_one HI.out.p
    have g2 := cell_of_one HI.out.box
    by_cases hlt : m < l.length + 1
    · have hs : m < s.length := by rw [HI.out.fen.len]; exact hlt
      have hbd := HI.out.bound hs hi HV.out
      have HC : Hid (Calls Try.prog 56 #[.int .i64 m, .pointer (some ⟨w.heap.size, 0, none⟩), .pointer (some ⟨w.heap.size + 1, 0, none⟩)] wr fun e w' => e = .returned (.int .i64 ((m + lowN m : Nat) : Int)) ∧ ∃ n, w' = (wr.drewN n).setCell ⟨S, m, none⟩ (.int .i64 (s[m] + c))) :=
        Lib.hid (carry_any m c HI.out.p HI.out.q HI.out.box HI.out.row HI.out.fen.len hs (by rw [HI.out.fen.len]; omega) hbd.1 hbd.2)
      have HN := Lib.hid (fun n => HI.out.next hs n)
      have hlo := lowN_pos (k := m) (by have := HI.out.hi; omega)
      clear hbd
      generalize lowN m = d at *
      generalize hv : s[m] + c = v at *
      go_wp2_with fail
      refine HC.out.mono ?_
      rintro e w' ⟨rfl, n, rfl⟩
      have HN' := Lib.hid (HN.out n)
      clear g1 g2
      go_wp2_with fail
      go_roundw
      case rel => exact ⟨m + d, _, rfl, HN'⟩
      case measure => simp [intOf]; omega
    · go_wp2_with fail
      go_end0
      exact ⟨rfl, s, ⟨by simpa using HI.out.box, HI.out.row, HI.out.fen.stop hi (by omega), HV.out⟩, HI.out.grown⟩
end Go.Proofs.Ytfkjnepafgehiaa
