/- What the law RopesScript needs: changed lists are valid; its memory. -/
import Derived.Test.YtfkjnepafgehiaaOpenS
namespace Go.Proofs.Ytfkjnepafgehiaa
open Go.RowKit

theorem vd_mem {l m : List Int} (h : Ok m) (hs : ∀ x ∈ m, x ∈ l) (hv : Vd l) : Vd m := vd_of h fun x hx => hv.hi1 x (hs x hx)
theorem insR_vd {l s : List Int} (hv : Vd l) (i : Int) : Vd (insR l i s).1 := by
  unfold insR
  split
  · split
    · rename_i h0
      split
      · rename_i hj
        have hs := chk_zero.1 h0
        have ho := ok_of_joinE hv.ok hs.ok hj
        refine vd_of (ho.perm (ins_perm l s i.toNat)) fun x hx => ?_
        rcases List.mem_append.1 ((ins_perm l s i.toNat).subset hx) with hx | hx
        · exact hv.hi1 x hx
        · exact hs.hi1 x hx
      · exact vd_nil
    · exact vd_nil
  · exact vd_nil
theorem remR_vd {l : List Int} (hv : Vd l) (i n : Int) : Vd (remR l i n).1 := by
  unfold remR
  split
  · have hsub : (l.take i.toNat ++ l.drop (i.toNat + n.toNat)).Sublist l := by
      have h := List.Sublist.append (List.Sublist.refl (l.take i.toNat)) (List.drop_sublist_drop_left l (Nat.le_add_right i.toNat n.toNat))
      rwa [List.take_append_drop] at h
    exact vd_sub hv (fun _ hx => hsub.subset hx) hsub.length_le (sum_sub hsub hv.ok.nn)
  · exact vd_nil
theorem movR_vd {l : List Int} (hv : Vd l) (i n x : Int) : Vd (movR l i n x).1 := by
  unfold movR
  split
  · split
    · have hp := mv_perm l i.toNat n.toNat x.toNat
      exact vd_of (hv.ok.perm hp) fun y hy => hv.hi1 y (hp.subset hy)
    · exact vd_nil
  · exact vd_nil
theorem setR_vd {l : List Int} (hv : Vd l) (i x : Int) : Vd (setR l i x).1 := by
  unfold setR
  split
  · rename_i hp
    obtain ⟨j, z, rfl, hz, hj⟩ := partE_cases hp
    have hj' : j < l.length := by omega
    split
    · exact vd_nil
    · rename_i hx
      split
      · exact vd_nil
      · rename_i hs
        have e : (l.set (j : Int).toNat x).sum = l.sum - l.getD j 0 + x := set_sum hj' x
        have hn := hv.ok.nn
        have hm : ∀ y ∈ l.set (j : Int).toNat x, y ∈ l ∨ y = x := fun y hy => List.mem_or_eq_of_mem_set hy
        refine vd_of ⟨fun y hy => ?_, ?_, by rw [List.length_set]; exact hv.len⟩ fun y hy => ?_
        · rcases hm y hy with h | rfl
          · exact hn y h
          · omega
        · rw [e]
          have : (j : Int).toNat = j := rfl
          rw [this] at hs
          omega
        · rcases hm y hy with h | rfl
          · exact hv.hi1 y h
          · omega
  · exact vd_nil
theorem Step.Ok.below {s : Step} {W W' : World} (h : s.Ok W) (kk : Below W.heap.size W W') : s.Ok W' := ⟨h.kind, h.a0, h.a1, h.n0, h.n1, h.x0, h.x1, h.sl.below kk⟩
theorem RdSt.next {W W' : World} {A : Option Addr} {xs : List Step} (h : RdSt W W.heap.size A xs) (kk : Below W.heap.size W W') : RdSt W' W'.heap.size A xs := fun k hk => by
  obtain ⟨b, o, e, hb, h0, h1, h2, h3, h4, h5⟩ := h k hk
  exact ⟨b, o, e, Nat.lt_of_lt_of_le hb kk.size, (kk.cell (p := ⟨b, _, none⟩) hb).trans h0, (kk.cell (p := ⟨b, _, none⟩) hb).trans h1, (kk.cell (p := ⟨b, _, none⟩) hb).trans h2, (kk.cell (p := ⟨b, _, none⟩) hb).trans h3, (kk.cell (p := ⟨b, _, none⟩) hb).trans h4, h5.below kk⟩
end Go.Proofs.Ytfkjnepafgehiaa
