/- Mathematics for FlagsKnown: lists of known flags. -/
import Derived.Test.YtbdjpacmbaoaeaaDoorLives
namespace Go.Proofs.YtbdjpacmbaoaeaaDoor
open Go.RowKit S

def fs (a : Nat) : List Bool := List.replicate a false
theorem fs_len (a : Nat) : (fs a).length = a := List.length_replicate
theorem fs_add (a b : Nat) : fs (a + b) = fs a ++ fs b := List.replicate_append_replicate.symm
/-- a false, one true, b false, one true -/
def kL (a b : Nat) : List Bool := fs a ++ true :: (fs b ++ [true])
theorem kL_len (a b : Nat) : (kL a b).length = a + 1 + b + 1 := by simp only [kL, List.length_append, List.length_cons, fs_len, List.length_nil]; omega
theorem kL_set (a b : Nat) : ((fs (a + 1 + b + 1)).set (a + 1 + b) true).set a true = kL a b := by
  have e : fs (a + 1 + b + 1) = fs a ++ false :: (fs b ++ [false]) := by
    rw [show a + 1 + b + 1 = a + (1 + (b + 1)) by omega, fs_add, fs_add, fs_add]
    rfl
  rw [e, List.set_append_right _ _ (by rw [fs_len]; omega), fs_len, show a + 1 + b - a = b + 1 by omega, List.set_cons_succ, List.set_append_right _ _ (by rw [fs_len]; omega), fs_len, Nat.sub_self,
    List.set_append_right _ _ (by rw [fs_len]; omega), fs_len, Nat.sub_self]
  rfl
theorem sel_fs (a k : Nat) (l : List Bool) : sel k (fs a ++ l) = a + sel k l := by
  induction a with
  | zero => simp [fs]
  | succ a ih =>
    have e : fs (a + 1) = false :: fs a := rfl
    rw [e, List.cons_append, sel_false, ih]
    omega
theorem cnt_fs (a : Nat) : cnt (fs a) = 0 := by
  show List.count true (List.replicate a false) = 0
  rw [List.count_replicate]
  rfl
theorem cnt_app (x y : List Bool) : cnt (x ++ y) = cnt x + cnt y := List.count_append
theorem cnt_cons (x : Bool) (y : List Bool) : cnt (x :: y) = x.toNat + cnt y := by
  unfold cnt
  rw [List.count_cons]
  cases x <;> simp [Nat.add_comm]
theorem kL_cnt (a b : Nat) : cnt (kL a b) = 2 := by
  unfold kL
  rw [cnt_app, cnt_cons, cnt_app, cnt_fs, cnt_fs]
  rfl
theorem sel_one (l : List Bool) : sel 1 (true :: l) = 1 + sel 0 l := by
  cases l <;> rfl
theorem kL_sel (a b : Nat) : selAns (kL a b) 1 = (a + 1 + b, 0) := by
  unfold selAns
  rw [if_pos (by rw [kL_cnt]; omega)]
  unfold kL
  rw [sel_fs, sel_one, sel_fs]
  have : sel 0 [true] = 0 := rfl
  rw [this]
  congr 1
  omega
theorem kL_take (a b : Nat) : (kL a b).take (a + 1 + b) = fs a ++ true :: fs b := by
  have e : kL a b = (fs a ++ true :: fs b) ++ [true] := by simp [kL]
  have hl : (fs a ++ true :: fs b).length = a + 1 + b := by simp only [List.length_append, List.length_cons, fs_len]; omega
  rw [e, ← hl, List.take_left]
theorem kL_rank (a b : Nat) : cnt ((kL a b).take (a + 1 + b)) = 1 := by
  rw [kL_take, cnt_app, cnt_cons, cnt_fs, cnt_fs]
  rfl
theorem kL_last (a b : Nat) : (kL a b)[a + 1 + b]? = some true := by
  have e : kL a b = (fs a ++ true :: fs b) ++ [true] := by simp [kL]
  have hl : (fs a ++ true :: fs b).length = a + 1 + b := by simp only [List.length_append, List.length_cons, fs_len]; omega
  rw [e, List.getElem?_append_right (by omega), hl, Nat.sub_self]
  rfl
theorem kL_mid (a b q : Nat) (h1 : a + 1 ≤ q) (h2 : q < a + 1 + b) : (kL a b)[q]? = some false := by
  have e : kL a b = (fs a ++ [true]) ++ (fs b ++ [true]) := by simp [kL]
  have hl : (fs a ++ [true]).length = a + 1 := by simp only [List.length_append, List.length_cons, fs_len, List.length_nil]
  rw [e, List.getElem?_append_right (by omega), hl, List.getElem?_append_left (by rw [fs_len]; omega)]
  unfold fs
  rw [List.getElem?_replicate, if_pos (by omega)]
theorem kL_next (a b : Nat) : IsNx (kL a b) (a + 1) true (some (a + 1 + b)) :=
  ⟨by omega, by rw [kL_len]; omega, kL_last a b, fun q h1 h2 => by rw [kL_mid a b q h1 h2]; decide⟩
theorem kL_none (a b : Nat) : IsNx (kL a b) (a + 1 + b) false none := fun q h1 h2 => by
  rw [kL_len] at h2
  obtain rfl : q = a + 1 + b := by omega
  rw [kL_last]; decide
/-- the last flag put in front -/
def kM (a b : Nat) : List Bool := true :: (fs a ++ true :: fs b)
theorem kM_eq (a b : Nat) : mvd (kL a b) (a + 1 + b) 1 0 = kM a b := by
  have e : kL a b = (fs a ++ true :: fs b) ++ [true] := by simp [kL]
  have hl : (fs a ++ true :: fs b).length = a + 1 + b := by simp only [List.length_append, List.length_cons, fs_len]; omega
  unfold mvd
  rw [kL_take, List.drop_eq_nil_of_le (by rw [kL_len]; omega), List.append_nil, List.take_zero, List.nil_append, List.drop_zero, e, ← hl, List.drop_left]
  rfl
theorem kM_len (a b : Nat) : (kM a b).length = a + 1 + b + 1 := by simp only [kM, List.length_append, List.length_cons, fs_len]; omega
theorem kM_cut (a c d : Nat) : (kM a (c + d)).take 1 ++ (kM a (c + d)).drop (1 + (a + 1 + c)) = true :: fs d := by
  have e : kM a (c + d) = true :: ((fs a ++ true :: fs c) ++ fs d) := by simp [kM, fs_add]
  have hl : (fs a ++ true :: fs c).length = a + 1 + c := by simp only [List.length_append, List.length_cons, fs_len]; omega
  rw [e, Nat.add_comm 1, List.drop_succ_cons, ← hl, List.drop_left]
  rfl
theorem known_ex : ∃ L M N P : List Bool, (((List.replicate 4096 false).set 4095 true).set 64 true = L ∧ L.length = 4096 ∧ selAns L 1 = (4095, 0) ∧ IsNx L 65 true (some 4095) ∧ cnt (L.take 4095) = 1 ∧ IsNx L 4095 false none ∧ mvd L 4095 1 0 = M) ∧
    (M.length = 4096 ∧ M.take 1 ++ M.drop (1 + 4000) = N) ∧ (N.length = 96 ∧ cnt N = 1 ∧ N[0]? = some true ∧ N.take 96 ++ (List.replicate 4000 true ++ N.drop 96) = P) ∧ P.length = 4096 ∧ cnt P = 4001 := by
  have hN : (true :: fs 95).length = 96 := by simp only [List.length_cons, fs_len]
  refine ⟨kL 64 4030, kM 64 4030, true :: fs 95, (true :: fs 95) ++ List.replicate 4000 true, ⟨kL_set 64 4030, kL_len 64 4030, kL_sel 64 4030, kL_next 64 4030, kL_rank 64 4030, kL_none 64 4030, kM_eq 64 4030⟩,
    ⟨kM_len 64 4030, kM_cut 64 3935 95⟩, ⟨hN, by rw [cnt_cons, cnt_fs]; rfl, rfl, ?_⟩, ?_, ?_⟩
  · rw [List.take_of_length_le (by omega), List.drop_eq_nil_of_le (by omega), List.append_nil]
  · rw [List.length_append, hN, List.length_replicate]
  · rw [cnt_app, cnt_cons, cnt_fs]
    have : cnt (List.replicate 4000 true) = 4000 := by exact List.count_replicate_self
    rw [this]
    rfl
end Go.Proofs.YtbdjpacmbaoaeaaDoor
