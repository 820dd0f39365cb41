/-
  Evict as a pure function.
-/
import Derived.Test.YthmnbjdmbajhkaaPutAny
namespace Go.Proofs.Ythmnbjdmbajhkaa
set_option linter.unusedVariables false
open Go.RowKit

def sumE (E : List (Th × Nat)) : Int := (E.map fun x => x.1.size).sum
def apart (a b : Th × Nat) : Prop := ¬ (a.1.v = b.1.v ∧ a.1.u = b.1.u)
/-- what holds of the things of a shelf and of those that may go -/
structure Good (E : List (Th × Nat)) (L : List Th) : Prop where
  ids : E.Pairwise apart
  sub : ∀ x ∈ L, ∃ n, (x, n) ∈ E
  nd : L.Nodup
  rng : ∀ x ∈ E, 0 ≤ x.1.size ∧ x.1.size ≤ 1048576
  cnt : E.length ≤ 65536

theorem at_mem {E : List (Th × Nat)} (h : E.Pairwise apart) {x : Th} {n : Nat} (hx : (x, n) ∈ E) : ∃ i, at? E x.v x.u = some (i, x) := by
  induction E with
  | nil => cases hx
  | cons y r ih =>
    obtain ⟨h1, h2⟩ := List.pairwise_cons.1 h
    rcases List.mem_cons.1 hx with e | hx
    · subst e
      exact ⟨0, by simp [at?]⟩
    · obtain ⟨i, hi⟩ := ih h2 hx
      have hne : ¬ (y.1.v = x.v ∧ y.1.u = x.u) := h1 _ hx
      exact ⟨i + 1, by simp [at?, hne, hi]⟩
theorem sumE_erase {E : List (Th × Nat)} {i : Nat} (hi : i < E.length) : sumE (E.eraseIdx i) = sumE E - E[i].1.size := by
  induction E generalizing i with
  | nil => simp at hi
  | cons y r ih =>
    cases i with
    | zero => simp [sumE]; omega
    | succ i =>
      have := ih (i := i) (by simpa using hi)
      simp only [sumE, List.eraseIdx_cons_succ, List.map_cons, List.sum_cons, List.getElem_cons_succ] at this ⊢
      omega
theorem sumE_bound {E : List (Th × Nat)} (h : ∀ x ∈ E, 0 ≤ x.1.size ∧ x.1.size ≤ 1048576) : 0 ≤ sumE E ∧ sumE E ≤ 1048576 * E.length := by
  induction E with
  | nil => simp [sumE]
  | cons y r ih =>
    have h1 := h y (by simp)
    have h2 := ih (fun x hx => h x (by simp [hx]))
    simp only [sumE, List.map_cons, List.sum_cons, List.length_cons] at h2 ⊢
    push_cast
    omega
theorem Good.pop {E : List (Th × Nat)} {x : Th} {L : List Th} {i : Nat} (h : Good E (x :: L)) (hi : at? E x.v x.u = some (i, x)) : Good (E.eraseIdx i) (popL (x :: L)) := by
  have hp := (popL_parts x L).2.1
  obtain ⟨hnx, hnd⟩ := List.nodup_cons.1 h.nd
  obtain ⟨hil, hix, -⟩ := at_some hi
  refine ⟨h.ids.sublist (List.eraseIdx_sublist _ _), fun y hy => ?_, hp.nodup_iff.2 hnd, fun y hy => h.rng y ((List.eraseIdx_sublist _ _).mem hy), ?_⟩
  · have hyL := hp.mem_iff.1 hy
    obtain ⟨n, hn⟩ := h.sub y (List.mem_cons_of_mem _ hyL)
    refine ⟨n, ?_⟩
    obtain ⟨k, hk, e⟩ := List.mem_iff_getElem.1 hn
    refine List.mem_eraseIdx_iff_getElem.2 ⟨k, hk, ?_, e⟩
    rintro rfl
    rw [e] at hix
    exact hnx (by rw [← show y = x from hix]; exact hyL)
  · have := h.cnt
    rw [List.length_eraseIdx]
    split <;> omega

/-- who goes: what stays, the order that stays, who went -/
def evS (b : Int) (E : List (Th × Nat)) (L : List Th) : List (Th × Nat) × List Th × List Th :=
  match L with
  | [] => (E, [], [])
  | x :: L => if sumE E > b then
      let r := evS b (E.eraseIdx (((at? E x.v x.u).map (·.1)).getD 0)) (popL (x :: L))
      (r.1, r.2.1, x :: r.2.2)
    else (E, x :: L, [])
termination_by L.length
decreasing_by
  rw [(popL_parts x L).2.2]
  simp
theorem evS_nil (b : Int) (E : List (Th × Nat)) : evS b E [] = (E, [], []) := by rw [evS]
theorem evS_stop {b : Int} {E : List (Th × Nat)} {L : List Th} (h : ¬ sumE E > b) : evS b E L = (E, L, []) := by
  cases L with
  | nil => exact evS_nil b E
  | cons x L => rw [evS, if_neg h]
theorem evS_go {b : Int} {E : List (Th × Nat)} {x : Th} {L : List Th} {i : Nat} {y : Th} (h : sumE E > b) (hi : at? E x.v x.u = some (i, y)) :
    evS b E (x :: L) = ((evS b (E.eraseIdx i) (popL (x :: L))).1, (evS b (E.eraseIdx i) (popL (x :: L))).2.1, x :: (evS b (E.eraseIdx i) (popL (x :: L))).2.2) := by
  rw [evS, if_pos h, hi]
  rfl
theorem wrapS {n : Int} (h1 : -9223372036854775808 ≤ n) (h2 : n ≤ 9223372036854775807) : IntKind.i64.wrap n = n := by
  simp only [IntKind.wrap, IntKind.bits, IntKind.signed]
  simp
  split <;> omega
end Go.Proofs.Ythmnbjdmbajhkaa
