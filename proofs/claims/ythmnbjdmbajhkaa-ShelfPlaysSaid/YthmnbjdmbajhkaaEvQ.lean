/-
  What Evict leaves, as facts of the pure function.
-/
import Derived.Test.YthmnbjdmbajhkaaIn
namespace Go.Proofs.Ythmnbjdmbajhkaa
set_option linter.unusedVariables false
open Go.RowKit

theorem evS_facts (b : Int) : ∀ (n : Nat) (E : List (Th × Nat)) (L : List Th), L.length = n → Good E L →
    (sumE (evS b E L).1 ≤ b ∨ (evS b E L).2.1 = []) ∧ (evS b E L).1.length + (evS b E L).2.2.length = E.length ∧ ((evS b E L).2.2 ++ (evS b E L).2.1).Perm L ∧ Good (evS b E L).1 (evS b E L).2.1 ∧ (∀ y ∈ E, y ∈ (evS b E L).1 ∨ y.1 ∈ (evS b E L).2.2) ∧ (∀ y ∈ (evS b E L).1, y ∈ E) := by
  intro n
  induction n with
  | zero =>
    intro E L hL hG
    obtain rfl := List.length_eq_zero_iff.1 hL
    rw [evS_nil]
    exact ⟨.inr rfl, by simp, by simp, hG, fun y hy => .inl hy, fun y hy => hy⟩
  | succ n ih =>
    intro E L hL hG
    by_cases hgt : sumE E > b
    · cases L with
      | nil => simp at hL
      | cons x L2 =>
        obtain ⟨n0, hx0⟩ := hG.sub x (by simp)
        obtain ⟨i, hi⟩ := at_mem hG.ids hx0
        obtain ⟨hil, hix, -⟩ := at_some hi
        obtain ⟨-, hpp, hpl⟩ := popL_parts x L2
        obtain ⟨h1, h2, h3, h4, h5, h6⟩ := ih (E.eraseIdx i) (popL (x :: L2)) (by rw [hpl]; simpa using hL) (hG.pop hi)
        rw [evS_go hgt hi]
        have hel : (E.eraseIdx i).length + 1 = E.length := by rw [List.length_eraseIdx, if_pos hil]; omega
        refine ⟨h1, by simp only [List.length_cons]; omega, (h3.trans hpp).cons x, h4, fun y hy => ?_, fun y hy => (List.eraseIdx_sublist _ _).mem (h6 y hy)⟩
        obtain ⟨k, hk, e⟩ := List.mem_iff_getElem.1 hy
        by_cases hki : k = i
        · subst hki
          right
          rw [← e, hix]
          simp
        · rcases h5 y (List.mem_eraseIdx_iff_getElem.2 ⟨k, hk, hki, e⟩) with h | h
          · exact .inl h
          · exact .inr (List.mem_cons_of_mem _ h)
    · rw [evS_stop hgt]
      exact ⟨.inl (Int.not_lt.1 hgt), by simp, by simp, hG, fun y hy => .inl hy, fun y hy => hy⟩
/-- asked again nothing goes -/
theorem evS_again {b : Int} {E : List (Th × Nat)} {L : List Th} (h : sumE E ≤ b ∨ L = []) : evS b E L = (E, L, []) := by
  rcases h with h | rfl
  · exact evS_stop (by omega)
  · exact evS_nil b E
end Go.Proofs.Ythmnbjdmbajhkaa
