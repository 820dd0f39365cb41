/-
  What all numbers, and one number, lead to.
-/
import Derived.Test.YtligplnmgoailaaViewA
namespace Go.Proofs.Ytligplnmgoailaa
set_option linter.unusedVariables false
open Go.RowKit

theorem has_all (n top : Int) (h1 : 1 ≤ n) (h2 : n ≤ top) : hasB [(1, 0)] n top = true := by
  have : inB (1, 0) n top = true := inB_of (by omega)
  unfold hasB
  simp [this]; omega
theorem has_one (n x top : Int) (hn : 1 ≤ n) (hx : 1 ≤ x) : hasB [(x, x)] n top = decide (n = x) := by
  unfold hasB
  simp only [List.any_cons, List.any_nil, Bool.or_false]
  rw [decide_eq_true (show 0 < n by omega), Bool.true_and]
  by_cases h : n = x
  · rw [decide_eq_true h]; exact inB_of (by omega)
  · rw [decide_eq_false h]; exact inB_not (by omega)
theorem numK_all (l : List Int) (k : Nat) (hk : k ≤ l.length) : numK [(1, 0)] l k = l.take k := by
  induction k with
  | zero => rfl
  | succ k ih => rw [numK_yes (by omega) (has_all _ _ (by omega) (by omega)), ih (by omega), List.take_succ_eq_append_getElem (by omega)]
theorem numL_all (l : List Int) : numK [(1, 0)] l l.length = l := by rw [numK_all l _ (Nat.le_refl _), List.take_length]
theorem numK_one (l : List Int) (j : Nat) (hj : j < l.length) (k : Nat) (hk : k ≤ l.length) : numK [((j : Int) + 1, (j : Int) + 1)] l k = if j < k then [l[j]] else [] := by
  induction k with
  | zero => simp [numK]
  | succ k ih =>
    by_cases e : k = j
    · subst e
      rw [numK_yes hj (by rw [has_one _ _ _ (by omega) (by omega)]; simp), ih (by omega), if_neg (by omega), if_pos (by omega)]; rfl
    · rw [numK_no (by rw [has_one _ _ _ (by omega) (by omega)]; simp; omega), ih (by omega)]
      by_cases h : j < k
      · rw [if_pos h, if_pos (by omega)]
      · rw [if_neg h, if_neg (by omega)]
theorem numL_one (l : List Int) (j : Nat) (hj : j < l.length) : numK [((j : Int) + 1, (j : Int) + 1)] l l.length = [l[j]] := by
  rw [numK_one l j hj _ (Nat.le_refl _), if_pos hj]
theorem up_mono {l : List Int} (h : Up l) (i j : Nat) (hij : i ≤ j) (hj : j < l.length) : l[i] ≤ l[j] := by
  induction j with
  | zero => have : i = 0 := by omega
            subst this; exact Int.le_refl _
  | succ j ih =>
    by_cases e : i = j + 1
    · subst e; exact Int.le_refl _
    · have := ih (by omega) (by omega)
      have := h.2 j hj
      omega
theorem pickL_all (l : List Int) (h : Up l) (hb : ∀ n ∈ l, 0 ≤ n ∧ n < 4294967296) : pickL [(1, 0)] l = l := by
  unfold pickL
  rw [List.filter_eq_self]
  intro n hn
  obtain ⟨i, hi, rfl⟩ := List.getElem_of_mem hn
  have h0 := h.1 i hi
  have h1 := hb _ hn
  refine has_all _ _ (by omega) ?_
  unfold topOf
  rw [dif_pos (by omega)]
  exact up_mono h i (l.length - 1) (by omega) (by omega)
end Go.Proofs.Ytligplnmgoailaa
