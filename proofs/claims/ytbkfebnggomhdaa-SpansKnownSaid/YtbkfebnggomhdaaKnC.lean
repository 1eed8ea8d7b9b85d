/- The calls of the law SpansKnown. -/
import Derived.Maps.AppendAt
import Derived.Test.YtbkfebnggomhdaaKnAux
import Derived.Test.YtbkfebnggomhdaaShelf
namespace Go.Proofs.Ytbkfebnggomhdaa
open Go.RowKit
theorem Rd.take {w : World} {B : Nat} {A : Option Addr} {xs : List Sp} (h : Rd w B A xs) (m : Nat) : Rd w B A (xs.take m) := fun k hl => by
  have hk : k < xs.length := by rw [List.length_take] at hl; omega
  obtain ⟨b, o, e, h0, h1, h2⟩ := h k hk
  exact ⟨b, o, e, h0, by rw [h1, List.getElem_take], by rw [h2, List.getElem_take]⟩
theorem RdI.take {w : World} {B : Nat} {A : Option Addr} {zs : List Int} (h : RdI w B A zs) (m : Nat) : RdI w B A (zs.take m) := fun k hl => by
  have hk : k < zs.length := by rw [List.length_take] at hl; omega
  obtain ⟨b, o, e, h0, h1⟩ := h k hk
  exact ⟨b, o, e, h0, by rw [h1, List.getElem_take]⟩
theorem Rd.ev {w : World} {B n : Nat} {A : Option Addr} (h : Rd w B A (ev n)) (m : Nat) (hm : m ≤ n) : Rd w B A (Ytbkfebnggomhdaa.ev m) := by rw [← ev_take hm]; exact h.take m
theorem Rd.od {w : World} {B n : Nat} {A : Option Addr} (h : Rd w B A (od n)) (m : Nat) (hm : m ≤ n) : Rd w B A (Ytbkfebnggomhdaa.od m) := by rw [← od_take hm]; exact h.take m
theorem RdI.pl {w : World} {B n : Nat} {A : Option Addr} (h : RdI w B A (pl n)) (m : Nat) (hm : m ≤ n) : RdI w B A (Ytbkfebnggomhdaa.pl m) := by rw [← pl_take hm]; exact h.take m
section
variable {W : World} {A B : Option Addr} {c d : Nat}
theorem kn_or (n j N : Nat) (ha : Rd W W.heap.size A (ev N)) (hb : Rd W W.heap.size B (od N)) (hn : n ≤ N) (hn2 : n ≤ 4096) (hj : j ≤ n) (hc : n ≤ c) (hd : j ≤ d) :
    Calls Try.prog 20 #[.slice A n c, .slice B j d] W fun e w' => OpRes 0 (hasB (mx n j)) e w' ∧ Below W.heap.size W w' := by
  have h := union_any A B c d (ev n) (od j) W (ha.ev n hn) (hb.od j (by omega)) (by rw [ev_len]; omega) (by rw [od_len]; omega) (by rw [ev_len]; exact hc) (by rw [od_len]; exact hd)
  rw [ev_len, od_len, chk2_0 (val_ev n (by omega)).1 (val_od j (by omega)).1 (by rw [ev_len]; omega) (by rw [od_len]; omega)] at h
  refine h.mono fun e w' hh => ⟨?_, hh.2⟩
  have e1 : (fun i => hasB (ev n) i || hasB (od j) i) = hasB (mx n j) := funext fun i => mx_or (by omega) hj i
  have h1 := hh.1
  rw [← e1]; exact h1
theorem kn1 (ha : Rd W W.heap.size A (ev 4097)) (hb : Rd W W.heap.size B (od 4097)) (hc : 4096 ≤ c) (hd : 1 ≤ d) :
    Calls Try.prog 20 #[.slice A 4096 c, .slice B 1 d] W fun e w' => e = .returned (.tuple #[.slice none 0 0, .int .i64 3]) ∧ Below W.heap.size W w' :=
  (kn_or 4096 1 4097 ha hb (by omega) (by omega) (by omega) hc hd).mono fun e w' hh => by
    obtain ⟨v, _, l, _⟩ := mx_all 1 4096 (by omega)
    exact ⟨hh.1.big rfl (mx 4096 1) v (fun _ => rfl) (by rw [l]; omega), hh.2⟩
theorem kn2 (ha : Rd W W.heap.size A (ev 4097)) (hb : Rd W W.heap.size B (od 4097)) (hc : 2048 ≤ c) (hd : 2048 ≤ d) :
    Calls Try.prog 20 #[.slice A 2048 c, .slice B 2048 d] W fun e w' => ∃ D, e = .returned (.tuple #[.slice D 4096 4096, .int .i64 0]) ∧ Below W.heap.size W w' :=
  (kn_or 2048 2048 4097 ha hb (by omega) (by omega) (by omega) hc hd).mono fun e w' hh => by
    obtain ⟨v, _, l, _⟩ := mx_all 2048 2048 (by omega)
    have l2 : (mx 2048 2048).length = 4096 := by rw [l]; omega
    obtain ⟨D, he, _⟩ := hh.1.get rfl (mx 2048 2048) v (fun _ => rfl) (by omega)
    rw [l2] at he
    exact ⟨D, he, hh.2⟩
theorem kn_of (n : Nat) (ha : RdI W W.heap.size A (pl 4097)) (hn : n ≤ 4097) :
    Calls Try.prog 16 #[.slice A n c] W fun e w' => OpRes 0 (hasB (ev n)) e w' ∧ Below W.heap.size W w' := by
  have h := ofF_any sorts_ok A c (pl n) W (ha.pl n hn) (by rw [pl_len]; omega)
  rw [pl_len, ofC_t (pl_in n (by omega))] at h
  refine h.mono fun e w' hh => ⟨?_, hh.2⟩
  have e1 : (fun i => decide (i ∈ pl n)) = hasB (ev n) := funext fun i => by rw [mem_pl, hasB_ev]
  have h1 := hh.1
  rw [← e1]; exact h1
theorem kn3 (ha : RdI W W.heap.size A (pl 4097)) : Calls Try.prog 16 #[.slice A 4097 c] W fun e w' => e = .returned (.tuple #[.slice none 0 0, .int .i64 3]) ∧ Below W.heap.size W w' :=
  (kn_of 4097 ha (by omega)).mono fun e w' hh => ⟨hh.1.big rfl (ev 4097) (val_ev 4097 (by omega)).1 (fun _ => rfl) (by rw [ev_len]; omega), hh.2⟩
theorem kn4 (ha : RdI W W.heap.size A (pl 4097)) : Calls Try.prog 16 #[.slice A 4096 c] W fun e w' => ∃ D, e = .returned (.tuple #[.slice D 4096 4096, .int .i64 0]) ∧ Below W.heap.size W w' :=
  (kn_of 4096 ha (by omega)).mono fun e w' hh => by
    obtain ⟨D, he, _⟩ := hh.1.get rfl (ev 4096) (val_ev 4096 (by omega)).1 (fun _ => rfl) (by rw [ev_len]; omega)
    rw [ev_len] at he
    exact ⟨D, he, hh.2⟩
theorem kn5 {n : Nat} {cs : Array Value} {a m : Int} (xs : List Sp) (hn : xs.length = n) (hcs : (flat xs).toArray = cs) (hl : xs.length ≤ 1000000) (h0 : inC xs a m = 4) :
    Calls Try.prog 25 #[.slice (some ⟨W.heap.size, 0, none⟩) n n, .int .i64 a, .int .i64 m] (W.alloc (.cells cs 28)) fun e w' => e = .returned (.tuple #[.slice none 0 0, .int .i64 4]) ∧ Below W.heap.size W w' := by
  subst hn
  refine (ins_any _ _ xs a m _ (Rd.lit hcs) (by omega)).mono fun e w' h => ?_
  have := h.1.err (by rw [h0]; decide)
  rw [h0] at this
  exact ⟨this, (below_alloc W _).trans (h.2.mono (by simp))⟩
theorem kn6 (ha : Rd W W.heap.size A (ev 4097)) : Calls Try.prog 12 #[.slice A 4097 c] W fun e w' => e = .returned (.int .i64 3) ∧ Below W.heap.size W w' :=
  check_at (ev 4097) ha (ev_len _) (chk_big (by rw [ev_len]; omega)) (by rw [ev_len]; omega)
theorem kn7 (ha : Rd W W.heap.size A (ev 4097)) : Calls Try.prog 12 #[.slice A 4096 c] W fun e w' => e = .returned (.int .i64 0) ∧ Below W.heap.size W w' :=
  check_at (ev 4096) (ha.ev 4096 (by omega)) (ev_len _) (chk_of_val (val_ev 4096 (by omega)).1 (by rw [ev_len]; omega)) (by rw [ev_len]; omega)
theorem kn8 (ha : Rd W W.heap.size A (wd 4095)) : Calls Try.prog 25 #[.slice A 4096 c, .int .i64 16381, .int .i64 1] W fun e w' => e = .returned (.tuple #[.slice none 0 0, .int .i64 3]) ∧ Below W.heap.size W w' := by
  have h := ins_any A c (wd 4095) 16381 1 W ha (by rw [wd_len]; omega)
  have h0 : inC (wd 4095) 16381 1 = 0 := by
    unfold inC
    rw [if_pos (chk_of_val (val_wd 4095 (by omega)) (by rw [wd_len]; omega)), if_pos ⟨okP_t (by omega) (by omega), okP_t (by omega) (by omega)⟩, if_pos (.inr (by rw [end_wd]; omega))]
  rw [wd_len] at h
  exact h.mono fun e w' hh => ⟨hh.1.big h0 (wd2 4095) (val_wd2 4095 (by omega)) (fun i => ins_wd 4095 i) (by rw [wd2_len]; omega), hh.2⟩
end
end Go.Proofs.Ytbkfebnggomhdaa
