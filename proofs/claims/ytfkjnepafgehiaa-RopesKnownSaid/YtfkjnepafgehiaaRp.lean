/- Ropes in variables; what the law RopesSplit calls. -/
import Derived.Test.YtfkjnepafgehiaaAppI
import Derived.Test.YtfkjnepafgehiaaSplitP
import Derived.Test.YtfkjnepafgehiaaLaw2W
namespace Go.Proofs.Ytfkjnepafgehiaa
open Go.RowKit

/-- a variable that holds a rope with the list l -/
structure Rp (W : World) (g : Nat) (l : List Int) (t : T) (p : Option Addr) : Prop where
  box : W.heap[g]? = some (.cells (rc t.count t.total t.depth p) 27 (0, 0))
  nd : Nd W t p
  ls : Ls l t
theorem Rp.next {W W' : World} {g : Nat} {l : List Int} {t : T} {p : Option Addr} (h : Rp W g l t p) (kk : Below W.heap.size W W') : Rp W' g l t p := ⟨keep_heap kk h.box, h.nd.below kk, h.ls⟩
theorem rp_new {W : World} {l : List Int} {t : T} {p : Option Addr} (hn : Nd W t p) (hs : Ls l t) : Rp (W.alloc (.cells #[.int .i64 t.count, .int .i64 t.total, .int .i64 t.depth, .pointer p] 27)) W.heap.size l t p :=
  ⟨heap_alloc_new W _, hn.below ((Below.refl W.heap.size W).alloc (Nat.le_refl _) _), hs⟩
theorem below_new (W : World) (o : Obj) : Below W.heap.size W (W.alloc o) := (Below.refl W.heap.size W).alloc (Nat.le_refl _) o
theorem Rp.cells {W : World} {g : Nat} {l : List Int} {t : T} {p : Option Addr} (h : Rp W g l t p) :
    W.cell? ⟨g, 0, none⟩ = some (.int .i64 t.count) ∧ W.cell? ⟨g, 1, none⟩ = some (.int .i64 t.total) ∧ W.cell? ⟨g, 2, none⟩ = some (.int .i64 t.depth) ∧ W.cell? ⟨g, 3, none⟩ = some (.pointer p) := rc_cells h.box
theorem Rp.same {W : World} {g n c : Nat} {l : List Int} {t : T} {p A : Option Addr} {f : Int} (h : Rp W g l t p) (hv : Vd l) (hr : RdI W W.heap.size A l) (hl : l.length = n) :
    Calls Try.prog 12 #[.agg #[.int .i64 t.count, .int .i64 t.total, .int .i64 t.depth, .pointer p], .int .i64 f, .slice A n c, .int .i64 f] W fun e w' => e = .returned (.bool true) ∧ Below W.heap.size W w' := same_lit h.nd h.ls hv hr hl
theorem vd_sub {l m : List Int} (h : Vd l) (hs : ∀ x ∈ m, x ∈ l) (hl : m.length ≤ l.length) (hh : m.sum ≤ l.sum) : Vd m := by
  have h1 := h.len
  have h2 := h.ok.sum
  exact vd_of ⟨fun x hx => h.ok.nn x (hs x hx), by omega, by omega⟩ fun x hx => h.hi1 x (hs x hx)
theorem Vd.take {l : List Int} (h : Vd l) (i : Nat) : Vd (l.take i) :=
  vd_sub h (fun _ hx => List.mem_of_mem_take hx) (by rw [List.length_take]; omega) (sum_sub (List.take_sublist _ _) h.ok.nn)
theorem Vd.drop {l : List Int} (h : Vd l) (i : Nat) : Vd (l.drop i) :=
  vd_sub h (fun _ hx => List.mem_of_mem_drop hx) (by rw [List.length_drop]; omega) (sum_sub (List.drop_sublist _ _) h.ok.nn)
theorem RdI.cut {W : World} {B c : Nat} {A : Option Addr} {l : List Int} (h : RdI W B A l) (hc : l.length ≤ c) (i : Nat) : RdI W B (if c = i then A else A.map fun x => x.add i) (l.drop i) := fun k hk => by
  rw [List.length_drop] at hk
  obtain ⟨b, o, e, h1, h2⟩ := h (i + k) (by omega)
  subst e
  rw [if_neg (by omega)]
  refine ⟨b, o + i, ?_, h1, ?_⟩
  · show some ((⟨b, o, none⟩ : Addr).add i) = _
    rw [add_plain]
  · rw [Nat.add_assoc, h2, List.getElem_drop]
theorem joinR_parts {l : List Int} (h : Vd l) (i : Nat) : joinR (l.take i) (l.drop i) = (l, 0) := by
  have hj : joinE (l.take i) (l.drop i) = 0 := joinE_ok (by rw [List.take_append_drop]; exact h.ok)
  unfold joinR
  rw [if_pos hj, List.take_append_drop]
theorem joinR_err (l m : List Int) : (joinR l m).2 = joinE l m := by
  unfold joinR; split
  · rename_i h; exact h.symm
  · rfl
theorem joinR_vd {l m : List Int} (hl : Vd l) (hm : Vd m) : Vd (joinR l m).1 := by
  unfold joinR; split
  · rename_i h
    have ho := ok_of_joinE hl.ok hm.ok h
    refine vd_of ho fun x hx => ?_
    rcases List.mem_append.1 hx with hx | hx
    · exact hl.hi1 x hx
    · exact hm.hi1 x hx
  · exact vd_nil
/-- Split, in the list and outside of it -/
theorem splitP_any {t : T} {p : Option Addr} {w : World} {l : List Int} (i : Int) (hn : Nd w t p) (hs : Ls l t) (hv : Vd l) (hi : i ≤ 9223372036854775807) :
    ∃ (f : Int) (la lb : List Int), ((f = 4 ∧ (i < 0 ∨ (l.length : Int) < i) ∧ la = [] ∧ lb = []) ∨ (f = 0 ∧ ∃ k : Nat, i = k ∧ k ≤ l.length ∧ la = l.take k ∧ lb = l.drop k)) ∧
      Calls Try.prog 23 #[.agg #[.int .i64 t.count, .int .i64 t.total, .int .i64 t.depth, .pointer p], .int .i64 i] w (TwoE (fun a b => Ls la a ∧ Ls lb b) f w) := by
  by_cases h : i < 0 ∨ (l.length : Int) < i
  · refine ⟨4, [], [], .inl ⟨rfl, h, rfl, rfl⟩, (splitP_bad i (ls_ok hs hv) hi (by rw [ls_count hs]; exact h)).mono ?_⟩
    rintro e w' ⟨a, pa, b, pb, ⟨rfl, rfl⟩, hr⟩
    exact ⟨.nil, pa, .nil, pb, ⟨⟨rfl, trivial⟩, ⟨rfl, trivial⟩⟩, hr⟩
  · obtain ⟨k, rfl⟩ : ∃ k : Nat, i = k := ⟨i.toNat, by omega⟩
    have hk : k ≤ l.length := by omega
    refine ⟨0, l.take k, l.drop k, .inr ⟨rfl, k, rfl, hk, rfl, rfl⟩, (splitP_ok hn hs.bal (ls_ok hs hv) (by rw [ls_count hs]; exact hk)).mono ?_⟩
    rintro e w' ⟨a, pa, b, pb, hp, hr⟩
    exact ⟨a, pa, b, pb, ⟨⟨by rw [hp.la, hs.list], hp.ba⟩, ⟨by rw [hp.lb, hs.list], hp.bb⟩⟩, hr⟩
theorem rp_two {W : World} {la lb : List Int} {a b : T} {pa pb : Option Addr} (ha : Nd W a pa) (hb : Nd W b pb) (sa : Ls la a) (sb : Ls lb b) :
    Rp ((W.alloc (.cells #[.int .i64 a.count, .int .i64 a.total, .int .i64 a.depth, .pointer pa] 27)).alloc (.cells #[.int .i64 b.count, .int .i64 b.total, .int .i64 b.depth, .pointer pb] 27)) W.heap.size la a pa ∧
    Rp ((W.alloc (.cells #[.int .i64 a.count, .int .i64 a.total, .int .i64 a.depth, .pointer pa] 27)).alloc (.cells #[.int .i64 b.count, .int .i64 b.total, .int .i64 b.depth, .pointer pb] 27)) (W.heap.size + 1) lb b pb :=
  ⟨(rp_new ha sa).next (below_new _ _), (two_heap W _ _).2, hb.below (below_two W _ _), sb⟩
theorem join_ls {a b : T} {pa pb : Option Addr} {w : World} {l m : List Int} (ha : Nd w a pa) (hb : Nd w b pb) (sa : Ls l a) (sb : Ls m b) (hl : Vd l) (hm : Vd m) :
    Calls Try.prog 24 #[.agg #[.int .i64 a.count, .int .i64 a.total, .int .i64 a.depth, .pointer pa], .agg #[.int .i64 b.count, .int .i64 b.total, .int .i64 b.depth, .pointer pb]] w (GivesE (Ls (joinR l m).1) (joinR l m).2 w) := by
  have := joinP_any ha hb sa.bal sb.bal (ls_ok sa hl) (ls_ok sb hm)
  rwa [sa.list, sb.list] at this
theorem pre_app (l m : List Int) (j : Nat) : pre (l ++ m) (l.length + j) = l.sum + pre m j := by
  unfold pre
  rw [List.take_append, List.take_of_length_le (by omega), show l.length + j - l.length = j by omega, List.sum_append]
end Go.Proofs.Ytfkjnepafgehiaa
