/-
  Records laid one behind the other on a fresh disk: what is on it, what a flush and a fall make of it.
-/
import Derived.Test.YtmkedanlpapndaaSafeP
namespace Go.Proofs.Ytmkedanlpapndaa
set_option linter.unusedVariables false
open Go.RowKit

def celsOf (d : List Nat) : List (Nat × Nat × List Nat) := (List.range (cellsN d.length)).map fun k => (d.length, k, piece d k)
def flatC (D : List (List Nat)) : List (Nat × Nat × List Nat) := D.flatMap celsOf
def numC (D : List (List Nat)) : Nat := (D.map fun d => cellsN d.length).sum
/-- the j-th cell, as it is written on zeros -/
def cb (j : Nat) (c : Nat × Nat × List Nat) : List Nat := sealC 1 (j + 1) j c.1 c.2.1 c.2.2
def cN (D : List (List Nat)) (j : Nat) : List Nat := cb j ((flatC D).getD j (0, 0, []))
def entsOf : Nat → List (List Nat) → List Ent
  | _, [] => []
  | p, d :: r => ⟨p, p, cellsN d.length, d⟩ :: entsOf (p + cellsN d.length) r
def stD (r : Nat) (D : List (List Nat)) : LgS := ⟨r, 0, 0, 0, 0, entsOf 0 D, numC D, numC D, numC D, numC D + 1⟩

@[simp] theorem celsOf_length (d : List Nat) : (celsOf d).length = cellsN d.length := by simp [celsOf]
theorem flatC_length (D : List (List Nat)) : (flatC D).length = numC D := by
  unfold flatC numC
  rw [List.length_flatMap]
  simp
theorem flatC_append (A B : List (List Nat)) : flatC (A ++ B) = flatC A ++ flatC B := by simp [flatC]
theorem numC_append (A B : List (List Nat)) : numC (A ++ B) = numC A + numC B := by simp [numC]
theorem numC_cons (d : List Nat) (B : List (List Nat)) : numC (d :: B) = cellsN d.length + numC B := by simp [numC]
theorem numC_one (d : List Nat) : numC [d] = cellsN d.length := by simp [numC]
theorem entsOf_append (A B : List (List Nat)) : ∀ p, entsOf p (A ++ B) = entsOf p A ++ entsOf (p + numC A) B := by
  induction A with
  | nil => intro p; simp [entsOf, numC]
  | cons d A ih =>
    intro p
    simp only [List.cons_append, entsOf, ih, numC_cons, Nat.add_assoc]
theorem entsOf_length (D : List (List Nat)) : ∀ p, (entsOf p D).length = D.length := by
  induction D with
  | nil => intro p; rfl
  | cons d D ih => intro p; simp [entsOf, ih]
theorem entsOf_data (D : List (List Nat)) : ∀ p, (entsOf p D).map (·.data) = D := by
  induction D with
  | nil => intro p; rfl
  | cons d D ih => intro p; simp [entsOf, ih]
theorem cN_left (A B : List (List Nat)) (j : Nat) (h : j < numC A) : cN (A ++ B) j = cN A j := by
  unfold cN
  rw [flatC_append, List.getD_eq_getElem?_getD, List.getD_eq_getElem?_getD, List.getElem?_append_left (by rw [flatC_length]; exact h)]
theorem cN_at (A B : List (List Nat)) (d : List Nat) (k : Nat) (h : k < cellsN d.length) : cN (A ++ d :: B) (numC A + k) = sealC 1 (numC A + k + 1) (numC A + k) d.length k (piece d k) := by
  unfold cN
  rw [flatC_append, List.getD_eq_getElem?_getD, List.getElem?_append_right (by rw [flatC_length]; omega), flatC_length, Nat.add_sub_cancel_left]
  have e : flatC (d :: B) = celsOf d ++ flatC B := rfl
  rw [e, List.getElem?_append_left (by simpa using h)]
  simp [celsOf, h, cb]

/-- a disk of r + 2 sectors with the records D, m cells of which are safe -/
structure DskI (r m : Nat) (D : List (List Nat)) (S : List (List Nat)) (W : List (Nat × List Nat)) : Prop where
  len : S.length = r + 2
  head : ∀ a, a < 2 → S.getD a [] = zeros 64
  le : m ≤ numC D
  room : numC D < r
  low : ∀ j, j < m → S.getD (2 + j) [] = cN D j
  zer : ∀ j, m ≤ j → j < r → S.getD (2 + j) [] = zeros 64
  wait : W = (List.range (numC D - m)).map fun i => (2 + (m + i), cN D (m + i))

theorem lastIdx_none (W : List (Nat × List Nat)) (a : Nat) (h : ∀ x ∈ W, x.1 ≠ a) : lastIdx W a = none := by
  unfold lastIdx
  rw [List.getLast?_eq_none_iff, List.filter_eq_nil_iff]
  intro i hi
  have hi2 : i < W.length := List.mem_range.1 hi
  rw [List.getElem?_eq_getElem hi2]
  have := h _ (List.getElem_mem hi2)
  simpa using this
theorem shown_none (S : List (List Nat)) (W : List (Nat × List Nat)) (a : Nat) (h : ∀ x ∈ W, x.1 ≠ a) : shown S W a = S.getD a [] := by
  unfold shown
  rw [lastIdx_none W a h]
theorem seal_zeros (a b c d : Nat) (data : List Nat) (h : data.length ≤ 40) : sealL (cellL a b c d data) (zeros 64) = sealC 1 a b c d data := by
  rw [seal_eq _ _ _ _ _ _ h]
  rfl
theorem appW_eq {r m : Nat} {D : List (List Nat)} {S : List (List Nat)} {W : List (Nat × List Nat)} (h : DskI r m D S W) (d : List Nat) (hr : numC D + cellsN d.length < r) : ∀ k, k ≤ cellsN d.length →
    appW (stD r D) d S W k = W ++ (List.range k).map fun i => (2 + (numC D + i), cN (D ++ [d]) (numC D + i)) := by
  intro k
  induction k with
  | zero => intro _; simp [appW]
  | succ k ih =>
    intro hk
    have ih := ih (by omega)
    have ha : atK (stD r D) k = 2 + (numC D + k) := by
      show 2 + (numC D + k) % r = _
      rw [Nat.mod_eq_of_lt (by omega)]
    have hl : lastK (stD r D) k = numC D + k := by
      cases k with
      | zero => rfl
      | succ k => show numC D + 1 + k = _; omega
    rw [appW, ih, ha, hl, List.range_succ, List.map_append, ← List.append_assoc]
    congr 1
    have hs : shown S (W ++ (List.range k).map fun i => (2 + (numC D + i), cN (D ++ [d]) (numC D + i))) (2 + (numC D + k)) = zeros 64 := by
      rw [shown_none]
      · exact h.zer _ (by have := h.le; omega) (by omega)
      · intro x hx
        have hle := h.le
        rcases List.mem_append.1 hx with hx | hx
        · rw [h.wait] at hx
          obtain ⟨i, hi, rfl⟩ := List.mem_map.1 hx
          have := List.mem_range.1 hi
          simp only
          omega
        · obtain ⟨i, hi, rfl⟩ := List.mem_map.1 hx
          have := List.mem_range.1 hi
          simp only
          omega
    rw [hs, seal_zeros _ _ _ _ _ (piece_le _ _)]
    simp only [List.map_cons, List.map_nil]
    rw [cN_at D [] d k (by omega)]
    show [(_, sealC 1 (numC D + 1 + k) _ _ _ _)] = _
    rw [show numC D + 1 + k = numC D + k + 1 by omega]
theorem appS_eq (r : Nat) (D : List (List Nat)) (d : List Nat) (h : numC D + cellsN d.length < r) : appS (stD r D) d = stD r (D ++ [d]) := by
  have h1 := cellsN_pos d.length
  unfold appS stD
  simp only [LgS.mk.injEq, true_and]
  rw [entsOf_append, numC_append, numC_one]
  refine ⟨by simp [entsOf], Nat.mod_eq_of_lt h, rfl, ?_, by omega⟩
  obtain ⟨m, hm⟩ : ∃ m, cellsN d.length = m + 1 := ⟨cellsN d.length - 1, by omega⟩
  rw [hm]
  show numC D + 1 + m = _
  omega
theorem DskI.app {r m : Nat} {D : List (List Nat)} {S : List (List Nat)} {W : List (Nat × List Nat)} (h : DskI r m D S W) (d : List Nat) (hr : numC D + cellsN d.length < r) :
    DskI r m (D ++ [d]) S (appW (stD r D) d S W (cellsN d.length)) := by
  have hn : numC (D ++ [d]) = numC D + cellsN d.length := by rw [numC_append, numC_one]
  have hle := h.le
  refine ⟨h.len, h.head, by omega, by omega, fun j hj => by rw [h.low j hj, cN_left _ _ _ (by omega)], h.zer, ?_⟩
  rw [appW_eq h d hr _ (Nat.le_refl _), h.wait, hn, show numC D + cellsN d.length - m = (numC D - m) + cellsN d.length by omega, List.range_add, List.map_append, List.map_map]
  congr 1
  · apply List.map_congr_left
    intro i hi
    have := List.mem_range.1 hi
    rw [cN_left _ _ _ (by omega)]
  · apply List.map_congr_left
    intro i hi
    simp only [Function.comp]
    rw [show m + (numC D - m + i) = numC D + i by omega]

/-- what is behind writes to sectors of their own -/
theorem fold_at (Z : List (Nat × List Nat × Nat)) : ∀ (S : List (List Nat)), (Z.map (·.1)).Nodup → (∀ z ∈ Z, z.1 < S.length) → ∀ a,
    (Z.foldl (fun S z => putN S z.1 z.2.2 z.2.1) S).getD a [] = match Z.find? (fun z => z.1 == a) with | some z => z.2.1.take z.2.2 ++ (S.getD a []).drop z.2.2 | none => S.getD a [] := by
  induction Z with
  | nil => intro S _ _ a; rfl
  | cons z Z ih =>
    intro S hnd hlt a
    simp only [List.map_cons, List.nodup_cons] at hnd
    have hz := hlt z (by simp)
    rw [List.foldl_cons, ih (putN S z.1 z.2.2 z.2.1) hnd.2 (fun y hy => by rw [putN_len]; exact hlt y (by simp [hy])) a, List.find?_cons]
    by_cases e : z.1 = a
    · subst e
      simp only [beq_self_eq_true]
      have hf : Z.find? (fun y => y.1 == z.1) = none := by
        rw [List.find?_eq_none]
        intro y hy hc
        exact hnd.1 (List.mem_map.2 ⟨y, hy, by simpa using hc⟩)
      rw [hf]
      simp [putN, List.getD_eq_getElem?_getD, hz]
    · have e2 : (z.1 == a) = false := by simpa using e
      rw [e2]
      have e3 : (putN S z.1 z.2.2 z.2.1).getD a [] = S.getD a [] := by
        simp [putN, List.getD_eq_getElem?_getD, List.getElem?_set_ne e]
      rw [e3]
theorem DskI.nodup {r m : Nat} {D : List (List Nat)} {S : List (List Nat)} {W : List (Nat × List Nat)} (h : DskI r m D S W) : (W.map (·.1)).Nodup ∧ ∀ x ∈ W, x.1 < S.length := by
  have hle := h.le
  have hro := h.room
  have hl := h.len
  rw [h.wait]
  constructor
  · rw [List.map_map]
    rw [List.nodup_iff_pairwise_ne, List.pairwise_map]
    refine List.nodup_range.imp ?_
    intro x y e
    simp only [Function.comp]
    omega
  · intro x hx
    obtain ⟨i, hi, rfl⟩ := List.mem_map.1 hx
    have := List.mem_range.1 hi
    simp only
    omega
theorem find_wait {r m : Nat} {D : List (List Nat)} {S : List (List Nat)} {W : List (Nat × List Nat)} (h : DskI r m D S W) (j : Nat) : (m ≤ j ∧ j < numC D → (2 + j, cN D j) ∈ W) ∧ (¬ (m ≤ j ∧ j < numC D) → ∀ x ∈ W, x.1 ≠ 2 + j) := by
  have hle := h.le
  rw [h.wait]
  constructor
  · intro hj
    exact List.mem_map.2 ⟨j - m, List.mem_range.2 (by omega), by rw [show m + (j - m) = j by omega]⟩
  · intro hj x hx
    obtain ⟨i, hi, rfl⟩ := List.mem_map.1 hx
    have := List.mem_range.1 hi
    simp only
    omega
end Go.Proofs.Ytmkedanlpapndaa
