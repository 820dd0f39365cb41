/-
  What up and down do to a row.
-/
import Derived.Test.YthmnbjdmbajhkaaTake
namespace Go.Proofs.Ythmnbjdmbajhkaa
set_option linter.unusedVariables false
open Go.RowKit

theorem swapL_perm {L : List Th} {i j : Nat} (hi : i < L.length) (hj : j < L.length) : (swapL L i j).Perm L := by
  have h := Array.swap_perm (xs := L.toArray) (i := i) (j := j) (by simpa using hi) (by simpa using hj)
  rw [swapL_eq hi hj]
  have h2 := Array.perm_iff_toList_perm.1 h
  simpa [Array.swap] using h2
theorem swapL_out {L : List Th} {i j : Nat} (k : Nat) (h1 : k ≠ i) (h2 : k ≠ j) : (swapL L i j)[k]? = L[k]? := by
  unfold swapL
  split
  · rw [List.getElem?_set_ne (fun e => h2 e.symm), List.getElem?_set_ne (fun e => h1 e.symm)]
  · rfl

theorem downL_keeps (L : List Th) (i n : Nat) (hn : n ≤ L.length) : (downL L i n).1.Perm L ∧ (∀ k, n ≤ k → (downL L i n).1[k]? = L[k]?) ∧ (i < n → (downL L i n).2 < n) := by
  induction L, i using downL.induct (n := n) with
  | case1 L i h ih =>
    rw [downL_go h]
    have hc := childL_lt (L := L) h.1
    have hg := childL_ge L i n
    have ih := ih (by simpa using hn)
    refine ⟨ih.1.trans (swapL_perm (by omega) (by omega)), fun k hk => ?_, fun _ => ih.2.2 hc⟩
    rw [ih.2.1 k hk, swapL_out k (by omega) (by omega)]
  | case2 L i h =>
    rw [downL_stop h]
    exact ⟨.refl _, fun _ _ => rfl, fun h => h⟩
theorem upL_perm (L : List Th) (j : Nat) (hj : j < L.length) : (upL L j).Perm L := by
  induction L, j using upL.induct with
  | case1 L j h ih =>
    rw [upL_go h]
    exact (ih (by simp; omega)).trans (swapL_perm (by omega) hj)
  | case2 L j h =>
    rw [upL_stop h]

/-- what heap.Pop leaves -/
def popL (L : List Th) : List Th := (downL (swapL L 0 (L.length - 1)) 0 (L.length - 1)).1.take (L.length - 1)
theorem popL_parts (x : Th) (L : List Th) : (downL (swapL (x :: L) 0 L.length) 0 L.length).1 = popL (x :: L) ++ [x] ∧ (popL (x :: L)).Perm L ∧ (popL (x :: L)).length = L.length := by
  have h := downL_keeps (swapL (x :: L) 0 L.length) 0 L.length (by simp)
  have hp := h.1.trans (swapL_perm (L := x :: L) (i := 0) (j := L.length) (by simp) (by simp))
  have hlen := hp.length_eq
  have hl := h.2.1 L.length (Nat.le_refl _)
  have hx : (swapL (x :: L) 0 L.length)[L.length]? = some x := by
    rw [List.getElem?_eq_getElem (by simp), swapL_get (by simp) (by simp) _ (by simp)]
    simp
  rw [hx] at hl
  have hq : popL (x :: L) = (downL (swapL (x :: L) 0 L.length) 0 L.length).1.take L.length := by simp [popL]
  generalize (downL (swapL (x :: L) 0 L.length) 0 L.length).1 = M at *
  have e : M = M.take L.length ++ [x] := by
    have h1 := List.take_append_drop L.length M
    have h2 : M.drop L.length = [x] := by
      obtain ⟨h3, h4⟩ := List.getElem?_eq_some_iff.1 hl
      rw [List.drop_eq_getElem_cons h3, h4, List.drop_eq_nil_of_le (by rw [hlen]; simp)]
    rw [h2] at h1
    exact h1.symm
  refine ⟨by rw [hq]; exact e, ?_, ?_⟩
  · rw [hq]
    rw [e] at hp
    have := (List.perm_append_comm (l₁ := [x])).trans hp
    exact List.Perm.cons_inv this
  · rw [hq, List.length_take, hlen]
    simp
/-- what heap.Fix makes of it -/
def fixL (L : List Th) (i : Nat) : List Th := if i < (downL L i L.length).2 then (downL L i L.length).1 else upL (downL L i L.length).1 i
theorem fixL_perm (L : List Th) (i : Nat) (hi : i < L.length) : (fixL L i).Perm L := by
  have h := downL_keeps L i L.length (Nat.le_refl _)
  unfold fixL
  split
  · exact h.1
  · exact (upL_perm _ _ (by rw [h.1.length_eq]; exact hi)).trans h.1
end Go.Proofs.Ythmnbjdmbajhkaa
