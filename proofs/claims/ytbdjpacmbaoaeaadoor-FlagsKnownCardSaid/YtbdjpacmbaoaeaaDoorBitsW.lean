/- The walk of bits: numbers as a row of bools. -/
import Derived.Maps.AppendAt
import Derived.Test.YtbdjpacmbaoaeaaDoorHelpW
namespace Go.Proofs.YtbdjpacmbaoaeaaDoor
open Go.RowKit S

theorem info4 : (Tryd.prog.info? 4).map (fun i => (i.zero, i.size, i.bytes)) = some (some (.bool false), 1, 1) := by kernel_rfl
/-- bools as cells -/
def bl (l : List Bool) : List Value := l.map Value.bool
/-- nil, or a row of the call's own, with the bools l -/
def OwnB (w : World) (base : Nat) (v : Value) (l : List Bool) : Prop := w.ownsRow base 4 1 v l.length (bl l)
theorem bl_app (l : List Bool) (b : Bool) : bl (l ++ [b]) = bl l ++ [.bool b] := by simp [bl]
theorem bl_len (l : List Bool) : (bl l).length = l.length := by simp [bl]
theorem bl_apps (l m : List Bool) : bl (l ++ m) = bl l ++ bl m := by simp [bl]
theorem bl_one (l : List Bool) : ∀ u ∈ bl l, u.oneCell' = true := by
  intro u hu
  obtain ⟨x, _, rfl⟩ := List.mem_map.1 hu
  rfl
theorem OwnB.app {w : World} {base : Nat} {v : Value} {l : List Bool} {b : Bool} (h : w.ownsRow base 4 1 v (l.length + 1) (bl l ++ [.bool b])) : OwnB w base v (l ++ [b]) := by
  unfold OwnB; rw [bl_app, List.length_append]; exact h
theorem OwnB.apps {w : World} {base : Nat} {v : Value} {l m : List Bool} {n : Nat} (h : w.ownsRow base 4 1 v (l.length + n) (bl l ++ bl m)) (hn : n = m.length) : OwnB w base v (l ++ m) := by
  unfold OwnB; rw [bl_apps, List.length_append, ← hn]; exact h
theorem OwnB.rd {w : World} {base : Nat} {v : Value} {l : List Bool} (h : OwnB w base v l) : ∃ A c, v = .slice A l.length c ∧ l.length ≤ c ∧ RdB w w.heap.size A l := by
  rcases h.2 with ⟨hv, hn⟩ | ⟨g, cap, cur, hv, hb, hg, hnc, hcm, hcs, ht⟩
  · have : l = [] := List.eq_nil_of_length_eq_zero hn
    subst this
    exact ⟨none, 0, hv, Nat.le_refl _, fun k hk => absurd hk (by simp)⟩
  · subst hv
    refine ⟨_, _, rfl, hnc, fun k hk => ⟨g, 0, rfl, (Array.getElem?_eq_some_iff.1 hg).1, ?_⟩⟩
    rw [Nat.zero_add, h.cellAt k (by omega)]
    simp [bl, hk]
/-- the slice at A reads as the integers xs -/
def RdI (w : World) (B : Nat) (A : Option Addr) (xs : List Int) : Prop :=
  ∀ k (h : k < xs.length), ∃ b o, A = some ⟨b, o, none⟩ ∧ b < B ∧ w.cell? ⟨b, o + k, none⟩ = some (.int .i64 xs[k])
theorem RdI.below {w w' : World} {B : Nat} {A : Option Addr} {xs : List Int} (h : RdI w B A xs) (hb : Below B w w') : RdI w' B A xs := fun k hl => by
  obtain ⟨b, o, e, h0, h1⟩ := h k hl
  exact ⟨b, o, e, h0, (hb.cell (p := ⟨b, o + k, none⟩) h0).trans h1⟩
/-- a literal of integers in a new block -/
theorem RdI.lit {w : World} (xs : List Int) : RdI (w.alloc (.cells (xs.map (Value.int .i64)).toArray 3)) (w.heap.size + 1) (some ⟨w.heap.size, 0, none⟩) xs := fun k hk => by
  refine ⟨_, _, rfl, by omega, ?_⟩
  rw [cell_of_row _ _ _ _ 3 (0, 0) (heap_alloc_new _ _)]
  simp [hk]
theorem take_snoc_eq (xs : List Int) (k : Nat) (h : k < xs.length) : ((xs.take (k + 1)).map fun x => x == 1) = ((xs.take k).map fun x => x == 1) ++ [xs[k] == 1] := by
  rw [List.take_succ_eq_append_getElem h, List.map_append]
  rfl
set_option maxHeartbeats 1000000 in
theorem bits_any (A : Option Addr) (c : Nat) (xs : List Int) (w : World) (hr : RdI w w.heap.size A xs) (hl : xs.length ≤ 1000) : Calls Tryd.prog 33 #[.slice A xs.length c] w fun e w' => ∃ B d, e = .returned (.slice B xs.length d) ∧ RdB w' w'.heap.size B (xs.map fun x => x == 1) ∧ Below w.heap.size w w' := by
  obtain ⟨i0, hi0, hz0, hz1, hz2⟩ := info_parts info4
  go_enter Tryd.func33, Tryd.ntmps33
  go_wp2
  go_loopw [3, 4] (fun v i wr => ∃ (k : Nat), k ≤ xs.length ∧ i = .int .i64 k ∧ OwnB wr w.heap.size v ((xs.take k).map fun x => x == 1) ∧ Below w.heap.size w wr) (fun _ i _ => xs.length - (intOf i).toNat)
  case atStart => exact ⟨0, Nat.zero_le _, rfl, World.ownsRow_nil _ _ _ _, Below.refl _ _⟩
  case round =>
    obtain ⟨k, hk, rfl, hown, hb⟩ := hrel
    by_cases hlt : k < xs.length
    · obtain ⟨b, o, hA, hbl, c0⟩ := hr.below hb k hlt
      subst hA
      have HS := Lib.hid (take_snoc_eq xs k hlt)
      have hsz := hb.size
      have hll : ((xs.take k).map fun x => x == 1).length = k := by simp; omega
      generalize ((xs.take k).map fun x => x == 1) = l at *
      obtain ⟨u, hu⟩ : ∃ u : Bool, (xs[k] == 1) = u := ⟨_, rfl⟩
      rw [hu] at HS
      generalize xs[k] = x at *
      unfold OwnB at hown
      go_wp2_with (
        at_builtin
        refine wpList_append_lies _ rfl (.tmp 11) (.tmp 17) _ rfl w.heap.size 4 i0 (.bool false) 1 1 Tryd.underlying22 hi0 hz0 hz1 hz2 rfl (by omega) u3 l.length (bl l) rfl (World.ownsRow.alloc hown _)
          ⟨wr.heap.size, 0, none⟩ 1 1 [.bool u] rfl rfl (World.news_of_block (cs := #[.bool u]) (t := 4) (fr := (0, 0)) (heap_alloc_new wr _)) (by simp [Value.oneCell'])
          (by omega) (by simp [maxLen]; omega) (by omega) (by simp; omega) (wr.heap.size + 1) (by simp) ?_
        intro gg cap w2 hown2 hgrow hat hlt1
        have ho2 := OwnB.app hown2
        have hb3 : Below w.heap.size w w2 := (hb.alloc hsz _).grown hgrow (by simp; omega) (fun j e => (hown.lt j e).1)
        clear hown2 hgrow hat hlt1)
      go_roundw
      case rel => exact ⟨k + 1, by omega, by go_num, by rw [HS.out, ← hll]; exact ho2, hb3⟩
      case measure => simp [intOf]; omega
    · have hkk : k = xs.length := by omega
      subst hkk
      rw [List.take_length] at hown
      obtain ⟨B, d, rfl, hd, hrd⟩ := hown.rd
      have hml : (xs.map fun x => x == 1).length = xs.length := by simp
      rw [hml]
      go_wp2
      go_ret
      exact ⟨B, d, rfl, hrd, hb⟩
end Go.Proofs.YtbdjpacmbaoaeaaDoor
