/-
  What a written cell is read as; what a fall leaves of it.
-/
import Derived.Test.YtmkedanlpapndaaRndP
namespace Go.Proofs.Ytmkedanlpapndaa
set_option linter.unusedVariables false
open Go.RowKit

theorem val_append (a b : List Nat) : val (a ++ b) = val a * 256 ^ b.length + val b := by
  have h : ∀ (b : List Nat) (x : Nat), b.foldl (fun a c => a * 256 + c) x = x * 256 ^ b.length + b.foldl (fun a c => a * 256 + c) 0 := by
    intro b
    induction b with
    | nil => intro x; simp
    | cons c r ih =>
      intro x
      rw [List.foldl_cons, List.foldl_cons, ih, ih (0 * 256 + c), List.length_cons, Nat.pow_succ]
      rw [Nat.zero_mul, Nat.zero_add, Nat.add_mul, Nat.mul_assoc, Nat.mul_comm 256, Nat.add_assoc]
  unfold val
  rw [List.foldl_append, h]
theorem val_be (n v : Nat) : val (be n v) = v % 256 ^ n := by
  induction n with
  | zero => simp [be, val, Nat.mod_one]
  | succ n ih =>
    have e : be (n + 1) v = [v / 256 ^ n % 256] ++ be n v := rfl
    rw [e, val_append, be_length, ih]
    have h1 : val [v / 256 ^ n % 256] = v / 256 ^ n % 256 := by simp [val]
    rw [h1, Nat.pow_succ, Nat.mod_mul, Nat.mul_comm, Nat.add_comm]
theorem zeros_split (a b : Nat) : zeros (a + b) = zeros a ++ zeros b := by simp [zeros, List.replicate_append_replicate]
theorem putAt_zeros (pre d : List Nat) (k : Nat) (h : d.length ≤ k) : putAt (pre ++ zeros k) pre.length d = (pre ++ d) ++ zeros (k - d.length) := by
  unfold putAt
  rw [List.take_left, List.drop_append, List.drop_eq_nil_of_le (by omega), List.nil_append, Nat.add_sub_cancel_left]
  simp [zeros]
theorem cellL_eq (a b c d : Nat) (data : List Nat) (h : data.length ≤ 40) : cellL a b c d data = ((((([0] ++ be 8 a) ++ be 8 b) ++ be 4 c) ++ be 2 d) ++ data) ++ zeros (41 - data.length) := by
  unfold cellL
  have e0 : zeros 64 = [0] ++ zeros 63 := by decide
  rw [e0]
  have e1 := putAt_zeros [0] (be 8 a) 63 (by simp)
  have e2 := putAt_zeros ([0] ++ be 8 a) (be 8 b) 55 (by simp)
  have e3 := putAt_zeros (([0] ++ be 8 a) ++ be 8 b) (be 4 c) 47 (by simp)
  have e4 := putAt_zeros ((([0] ++ be 8 a) ++ be 8 b) ++ be 4 c) (be 2 d) 43 (by simp)
  have e5 := putAt_zeros (((([0] ++ be 8 a) ++ be 8 b) ++ be 4 c) ++ be 2 d) data 41 (by omega)
  simp only [be_length, List.length_append, List.length_cons, List.length_nil] at e1 e2 e3 e4 e5
  rw [e1, e2, e3, e4, e5]
/-- a cell, sealed -/
def sealC (m a b c d : Nat) (data : List Nat) : List Nat := ((((([m] ++ be 8 a) ++ be 8 b) ++ be 4 c) ++ be 2 d) ++ data) ++ zeros (40 - data.length) ++ [m]
theorem seal_eq (a b c d : Nat) (data old : List Nat) (h : data.length ≤ 40) : sealL (cellL a b c d data) old = sealC (mkB (old.getD 63 0)) a b c d data := by
  unfold sealL sealC
  rw [cellL_eq _ _ _ _ _ h]
  generalize mkB (old.getD 63 0) = m
  have e : zeros (41 - data.length) = zeros (40 - data.length) ++ [0] := by
    rw [show 41 - data.length = (40 - data.length) + 1 by omega, zeros_split]
    rfl
  rw [e, ← List.append_assoc]
  have e2 : ((((([0] ++ be 8 a) ++ be 8 b) ++ be 4 c) ++ be 2 d) ++ data) ++ zeros (40 - data.length) = 0 :: (((((be 8 a) ++ be 8 b) ++ be 4 c) ++ be 2 d) ++ data ++ zeros (40 - data.length)) := by simp
  rw [e2]
  rw [List.cons_append, List.set_cons_zero, ← List.cons_append]
  rw [List.set_append_right _ _ (by simp [zeros]; omega)]
  have e3 : 63 - (m :: (be 8 a ++ be 8 b ++ be 4 c ++ be 2 d ++ data ++ zeros (40 - data.length))).length = 0 := by simp [zeros]; omega
  rw [e3]
  simp

theorem midCut (pre x post : List Nat) (lo hi : Nat) (h1 : pre.length = lo) (h2 : hi = lo + x.length) : (((pre ++ x) ++ post).take hi).drop lo = x := by
  subst h2
  subst h1
  rw [← List.length_append, List.take_left, List.drop_left]
theorem sealC_len (m a b c d : Nat) (data : List Nat) (h : data.length ≤ 40) : (sealC m a b c d data).length = 64 := by
  unfold sealC
  simp [zeros]
  omega
theorem sealC_first (m a b c d : Nat) (data : List Nat) : (sealC m a b c d data).getD 0 0 = m := by simp [sealC]
theorem sealC_last (m a b c d : Nat) (data : List Nat) (h : data.length ≤ 40) : (sealC m a b c d data).getD 63 0 = m := by
  unfold sealC
  rw [List.getD_eq_getElem?_getD, List.getElem?_append_right (by simp [zeros]; omega)]
  have e : 63 - (((((([m] ++ be 8 a) ++ be 8 b) ++ be 4 c) ++ be 2 d) ++ data) ++ zeros (40 - data.length)).length = 0 := by simp [zeros]; omega
  rw [e]
  rfl
theorem sealC_whole (m a b c d : Nat) (data : List Nat) (h : data.length ≤ 40) : wholeL (sealC m a b c d data) = true := by
  unfold wholeL
  rw [sealC_first, sealC_last _ _ _ _ _ _ h, sealC_len _ _ _ _ _ _ h]
  simp
theorem sealC_number (m a b c d : Nat) (data : List Nat) : numN (sealC m a b c d data) 1 8 = a % 256 ^ 8 := by
  unfold numN numAt sealC
  have := midCut [m] (be 8 a) (be 8 b ++ (be 4 c ++ (be 2 d ++ (data ++ (zeros (40 - data.length) ++ [m]))))) 1 (1 + 8) rfl (by simp)
  simp only [List.append_assoc] at this ⊢
  rw [this, val_be]
theorem sealC_behind (m a b c d : Nat) (data : List Nat) : numN (sealC m a b c d data) 9 8 = b % 256 ^ 8 := by
  unfold numN numAt sealC
  have := midCut ([m] ++ be 8 a) (be 8 b) (be 4 c ++ (be 2 d ++ (data ++ (zeros (40 - data.length) ++ [m])))) 9 (9 + 8) (by simp) (by simp)
  simp only [List.append_assoc] at this ⊢
  rw [this, val_be]
theorem sealC_size (m a b c d : Nat) (data : List Nat) : numN (sealC m a b c d data) 17 4 = c % 256 ^ 4 := by
  unfold numN numAt sealC
  have := midCut (([m] ++ be 8 a) ++ be 8 b) (be 4 c) (be 2 d ++ (data ++ (zeros (40 - data.length) ++ [m]))) 17 (17 + 4) (by simp) (by simp)
  simp only [List.append_assoc] at this ⊢
  rw [this, val_be]
theorem sealC_part (m a b c d : Nat) (data : List Nat) : numN (sealC m a b c d data) 21 2 = d % 256 ^ 2 := by
  unfold numN numAt sealC
  have := midCut ((([m] ++ be 8 a) ++ be 8 b) ++ be 4 c) (be 2 d) (data ++ (zeros (40 - data.length) ++ [m])) 21 (21 + 2) (by simp) (by simp)
  simp only [List.append_assoc] at this ⊢
  rw [this, val_be]
theorem sealC_data (m a b c d : Nat) (data : List Nat) (h : data.length ≤ 40) : ((sealC m a b c d data).take 63).drop 23 = data ++ zeros (40 - data.length) := by
  unfold sealC
  have := midCut (((([m] ++ be 8 a) ++ be 8 b) ++ be 4 c) ++ be 2 d) (data ++ zeros (40 - data.length)) [m] 23 63 (by simp) (by simp [zeros]; omega)
  simp only [List.append_assoc] at this ⊢
  rw [this]
theorem sealC_ok (m a b c d : Nat) (data : List Nat) (h : data.length ≤ 40) (ha : 0 < a) (ha2 : a < 18446744073709551616) : okCell (sealC m a b c d data) = true := by
  unfold okCell
  rw [sealC_whole _ _ _ _ _ _ h, sealC_number]
  have : a % 256 ^ 8 = a := Nat.mod_eq_of_lt ha2
  simp [this, ha]
/-- what a fall leaves of a cell that was written on a sector of zeros: it is there whole, or it is none -/
theorem torn_cell (m a b c d n : Nat) (data : List Nat) (h : data.length ≤ 40) (hm : m ≠ 0) (hn : n ≤ 64) :
    (sealC m a b c d data).take n ++ (zeros 64).drop n = sealC m a b c d data ∨ okCell ((sealC m a b c d data).take n ++ (zeros 64).drop n) = false := by
  by_cases h64 : n = 64
  · left
    subst h64
    rw [List.take_of_length_le (by rw [sealC_len _ _ _ _ _ _ h]; exact Nat.le_refl _)]
    simp [zeros]
  · right
    by_cases h0 : n = 0
    · subst h0
      simp only [List.take_zero, List.drop_zero, List.nil_append]
      exact ok_zero
    · have hw : wholeL ((sealC m a b c d data).take n ++ (zeros 64).drop n) = false := by
        unfold wholeL
        have e1 : ((sealC m a b c d data).take n ++ (zeros 64).drop n).getD 0 0 = m := by
          rw [List.getD_eq_getElem?_getD, List.getElem?_append_left (by rw [List.length_take, sealC_len _ _ _ _ _ _ h]; omega), List.getElem?_take_of_lt (by omega), ← List.getD_eq_getElem?_getD, sealC_first]
        have e2 : ((sealC m a b c d data).take n ++ (zeros 64).drop n).getD 63 0 = 0 := by
          rw [List.getD_eq_getElem?_getD, List.getElem?_append_right (by rw [List.length_take, sealC_len _ _ _ _ _ _ h]; omega)]
          rw [List.length_take, sealC_len _ _ _ _ _ _ h]
          simp only [zeros, List.getElem?_drop]
          rw [List.getElem?_replicate]
          split <;> rfl
        rw [e1, e2]
        simp [hm]
      unfold okCell
      rw [hw]
      rfl
end Go.Proofs.Ytmkedanlpapndaa
