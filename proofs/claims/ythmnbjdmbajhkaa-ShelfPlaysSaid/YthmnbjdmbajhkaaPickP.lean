/-
  Who goes first, picked out of the law's own list.
-/
import Derived.Test.YthmnbjdmbajhkaaRelM
namespace Go.Proofs.Ythmnbjdmbajhkaa
set_option linter.unusedVariables false
open Go.RowKit

structure Pick (H : List (Th × Bool)) (i : Nat) (k : Option Nat) : Prop where
  non : k = none → ∀ j x, j < i → H[j]? = some x → x.2 = false
  som : ∀ m, k = some m → m < i ∧ ∃ y, H[m]? = some y ∧ y.2 = true ∧ ∀ j x, j < i → H[j]? = some x → x.2 = true → ltB x.1 y.1 = false
theorem pick_start (H : List (Th × Bool)) : Pick H 0 none := ⟨fun _ j x h => by omega, fun m h => by cases h⟩
theorem Pick.skip {H : List (Th × Bool)} {i : Nat} {k : Option Nat} (h : Pick H i k) {x : Th × Bool} (hx : H[i]? = some x) (hq : x.2 = false) : Pick H (i + 1) k := by
  refine ⟨fun hk j y hj hy => ?_, fun m hk => ?_⟩
  · by_cases e : j = i
    · subst e
      rw [hx] at hy
      cases hy
      exact hq
    · exact h.non hk j y (by omega) hy
  · obtain ⟨h1, y, h2, h3, h4⟩ := h.som m hk
    refine ⟨by omega, y, h2, h3, fun j z hj hz hzq => ?_⟩
    by_cases e : j = i
    · subst e
      rw [hx] at hz
      cases hz
      rw [hq] at hzq
      cases hzq
    · exact h4 j z (by omega) hz hzq
theorem ltB_irr (a : Th) : ltB a a = false := by rw [ltB_no]; omega
theorem Pick.first {H : List (Th × Bool)} {i : Nat} (h : Pick H i none) {x : Th × Bool} (hx : H[i]? = some x) (hq : x.2 = true) : Pick H (i + 1) (some i) := by
  refine ⟨(fun hk => nomatch hk), fun m hk => ?_⟩
  cases hk
  refine ⟨by omega, x, hx, hq, fun j z hj hz hzq => ?_⟩
  by_cases e : j = i
  · subst e
    rw [hx] at hz
    cases hz
    exact ltB_irr _
  · have := h.non rfl j z (by omega) hz
    rw [this] at hzq
    cases hzq
theorem Pick.next {H : List (Th × Bool)} {i m : Nat} (h : Pick H i (some m)) {x y : Th × Bool} (hx : H[i]? = some x) (hy : H[m]? = some y) (hq : x.2 = true) (hl : ltB x.1 y.1 = true) : Pick H (i + 1) (some i) := by
  refine ⟨(fun hk => nomatch hk), fun m hk => ?_⟩
  cases hk
  refine ⟨by omega, x, hx, hq, fun j z hj hz hzq => ?_⟩
  by_cases e : j = i
  · subst e
    rw [hx] at hz
    cases hz
    exact ltB_irr _
  · obtain ⟨-, y', hy', -, h4⟩ := h.som m rfl
    rw [hy] at hy'
    cases hy'
    have := h4 j z (by omega) hz hzq
    rw [ltB_no] at this ⊢
    rw [ltB_iff] at hl
    omega
theorem Pick.stay {H : List (Th × Bool)} {i m : Nat} (h : Pick H i (some m)) {x y : Th × Bool} (hx : H[i]? = some x) (hy : H[m]? = some y) (hl : ltB x.1 y.1 = false) : Pick H (i + 1) (some m) := by
  refine ⟨(fun hk => nomatch hk), fun m hk => ?_⟩
  cases hk
  obtain ⟨h1, y', hy', h3, h4⟩ := h.som m rfl
  rw [hy] at hy'
  cases hy'
  refine ⟨by omega, y, hy, h3, fun j z hj hz hzq => ?_⟩
  by_cases e : j = i
  · subst e
    rw [hx] at hz
    cases hz
    exact hl
  · exact h4 j z (by omega) hz hzq
/-- none may go -/
theorem Rel.pick_none {E : List (Th × Nat)} {L : List Th} {H : List (Th × Bool)} (h : Rel E L H) (k : Pick H H.length none) : L = [] := by
  have : goL H = [] := by
    unfold goL
    rw [List.map_eq_nil_iff, List.filter_eq_nil_iff]
    intro x hx hq
    obtain ⟨j, hj, e⟩ := List.mem_iff_getElem.1 hx
    have := k.non rfl j x hj (by rw [List.getElem?_eq_getElem hj, e])
    rw [this] at hq
    cases hq
  have hp := h.pl
  rw [this] at hp
  exact List.length_eq_zero_iff.1 (by simpa using hp.length_eq)
/-- the one that is picked is the first of the order -/
theorem Rel.pick_some {E : List (Th × Nat)} {L : List Th} {H : List (Th × Bool)} (h : Rel E L H) {m : Nat} (k : Pick H H.length (some m)) : ∃ x L2, ∃ hm : m < H.length, L = x :: L2 ∧ H[m].1 = x ∧ at? E x.v x.u = some (m, x) := by
  obtain ⟨hm, y, hy, hq, hmin⟩ := k.som m rfl
  have hym : H[m] = y := by
    rw [List.getElem?_eq_getElem hm] at hy
    exact Option.some.inj hy
  cases L with
  | nil =>
    have := (h.ok m hm).1 (by rw [hym]; exact hq)
    cases this
  | cons x L2 =>
    have hl := h.len
    have hmE : m < E.length := by omega
    obtain ⟨n0, hx0⟩ := h.good.sub x (by simp)
    have hxH : (x, true) ∈ H := mem_goL.1 (h.pl.mem_iff.1 (by simp))
    obtain ⟨j, hj, ej⟩ := List.mem_iff_getElem.1 hxH
    have h1 := hmin j (x, true) hj (by rw [List.getElem?_eq_getElem hj, ej]) rfl
    have hyL : y.1 ∈ x :: L2 := by
      have := (h.ok m hm).1 (by rw [hym]; exact hq)
      rwa [hym] at this
    have h2 := h.heap.head y.1 hyL
    simp only at h1
    rw [ltB_no] at h1 h2
    obtain ⟨n1, hn1⟩ := h.good.sub _ hyL
    have hyx : y.1 = x := h.good.one hn1 hx0 (by omega) (by omega)
    refine ⟨x, L2, hm, rfl, by rw [hym, hyx], ?_⟩
    have := at_idx h.good.ids m hmE
    rw [h.at m hm hmE, hym, hyx] at this
    exact this
end Go.Proofs.Ythmnbjdmbajhkaa
