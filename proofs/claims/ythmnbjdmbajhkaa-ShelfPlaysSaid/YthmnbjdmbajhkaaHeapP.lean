/-
  The order is a heap: what up and down, and so push, pop, fix and remove, keep.
-/
import Derived.Test.YthmnbjdmbajhkaaHRem
namespace Go.Proofs.Ythmnbjdmbajhkaa
set_option linter.unusedVariables false
open Go.RowKit

theorem ltB_iff (a b : Th) : ltB a b = true ↔ a.used < b.used ∨ (a.used = b.used ∧ (a.v < b.v ∨ (a.v = b.v ∧ a.u < b.u))) := by
  unfold ltB orI cmpI
  rw [decide_eq_true_iff]
  repeat' split
  all_goals omega
theorem ltB_no (a b : Th) : ltB a b = false ↔ b.used < a.used ∨ (a.used = b.used ∧ (b.v < a.v ∨ (a.v = b.v ∧ b.u ≤ a.u))) := by
  rw [← Bool.not_eq_true, ltB_iff]
  omega
theorem ltB_asym {a b : Th} (h : ltB a b = true) : ltB b a = false := by
  rw [ltB_iff] at h
  rw [ltB_no]
  omega
/-- what stands at a goes no later than what stands at b -/
def okAt (L : List Th) (a b : Nat) : Prop := ltAt L b a = false
theorem okAt_asym {L : List Th} {a b : Nat} (h : ltAt L a b = true) : okAt L a b := by
  unfold okAt
  unfold ltAt at h ⊢
  split at h
  · rename_i x y hx hy
    rw [hx, hy]
    exact ltB_asym h
  · cases h
theorem okAt_refl (L : List Th) (a : Nat) : okAt L a a := by
  unfold okAt ltAt
  split
  · rename_i x y hx hy
    rw [hx] at hy
    cases hy
    rw [ltB_no]
    omega
  · rfl
theorem okAt_trans {L : List Th} {a b c : Nat} (hb : b < L.length) (h : okAt L a b) (k : okAt L b c) : okAt L a c := by
  unfold okAt ltAt at h k ⊢
  rw [List.getElem?_eq_getElem hb] at h k
  split
  · rename_i x y hx hy
    rw [hy] at h
    rw [hx] at k
    simp only [ltB_no] at h k ⊢
    omega
  · rfl
theorem swapL_get? {L : List Th} {i j : Nat} (hi : i < L.length) (hj : j < L.length) (k : Nat) : (swapL L i j)[k]? = L[if k = i then j else if k = j then i else k]? := by
  by_cases hk : k < L.length
  · rw [List.getElem?_eq_getElem (by simpa using hk), swapL_get hi hj k hk]
    by_cases h2 : k = j
    · subst h2
      by_cases h1 : k = i
      · subst h1; simp [hk]
      · rw [if_pos rfl, if_neg h1, if_pos rfl, List.getElem?_eq_getElem hi]
    · rw [if_neg h2, if_neg h2]
      by_cases h1 : k = i
      · rw [if_pos h1, if_pos h1, List.getElem?_eq_getElem hj]
      · rw [if_neg h1, if_neg h1, List.getElem?_eq_getElem hk]
  · rw [swapL_out k (by omega) (by omega), if_neg (by omega : ¬ k = i), if_neg (by omega : ¬ k = j)]
theorem okAt_swap {L : List Th} {i j : Nat} (hi : i < L.length) (hj : j < L.length) (a b a' b' : Nat) (ha : (if a = i then j else if a = j then i else a) = a') (hb : (if b = i then j else if b = j then i else b) = b') :
    okAt (swapL L i j) a b ↔ okAt L a' b' := by
  unfold okAt ltAt
  rw [swapL_get? hi hj, swapL_get? hi hj, ha, hb]

/-- the first n are a heap -/
def Heap (L : List Th) (n : Nat) : Prop := ∀ k, 0 < k → k < n → okAt L ((k - 1) / 2) k
/-- but for the one at i, against those ahead of it and behind it -/
structure HeapBut (L : List Th) (i n : Nat) : Prop where
  ok : ∀ k, 0 < k → k < n → k ≠ i → (k - 1) / 2 ≠ i → okAt L ((k - 1) / 2) k
  far : ∀ c, 0 < c → c < n → (c - 1) / 2 = i → 0 < i → okAt L ((i - 1) / 2) c
theorem downL_ge (L : List Th) (i n : Nat) : i ≤ (downL L i n).2 := by
  induction L, i using downL.induct (n := n) with
  | case1 L i h ih =>
    rw [downL_go h]
    have := childL_ge L i n
    omega
  | case2 L i h =>
    rw [downL_stop h]
    exact Nat.le_refl _
theorem childL_min {L : List Th} {i n : Nat} (hn : n ≤ L.length) (k : Nat) (hk : k < n) (h0 : 0 < k) (hp : (k - 1) / 2 = i) : okAt L (childL L i n) k := by
  have h2 : k = 2 * i + 1 ∨ k = 2 * i + 1 + 1 := by omega
  unfold childL
  split
  · rename_i h
    rcases h2 with rfl | rfl
    · exact okAt_asym h.2
    · exact okAt_refl _ _
  · rename_i h
    rcases h2 with rfl | rfl
    · exact okAt_refl _ _
    · unfold okAt
      cases hx : ltAt L (2 * i + 1 + 1) (2 * i + 1)
      · rfl
      · exact absurd ⟨hk, hx⟩ h
theorem childL_parent (L : List Th) (i n : Nat) : (childL L i n - 1) / 2 = i := by unfold childL; split <;> omega
theorem down_step {L : List Th} {i n : Nat} (hn : n ≤ L.length) (h : HeapBut L i n) (hg : 2 * i + 1 < n ∧ ltAt L (childL L i n) i = true) :
    HeapBut (swapL L i (childL L i n)) (childL L i n) n ∧ okAt (swapL L i (childL L i n)) ((childL L i n - 1) / 2) (childL L i n) := by
  have hc := childL_lt (L := L) hg.1
  have hgt := childL_ge L i n
  have hpar := childL_parent L i n
  have hmin := fun k => childL_min (L := L) (i := i) hn k
  generalize childL L i n = c at *
  have hi : i < L.length := by omega
  have hcl : c < L.length := by omega
  refine ⟨⟨fun k h0 hk hkc hpc => ?_, fun d h0 hd hpd _ => ?_⟩, ?_⟩
  · by_cases hki : k = i
    · subst hki
      rw [okAt_swap hi hcl _ _ ((k - 1) / 2) c (by rw [if_neg (by omega), if_neg (by omega)]) (by rw [if_pos rfl])]
      exact h.far c (by omega) hc hpar h0
    · by_cases hpi : (k - 1) / 2 = i
      · rw [hpi, okAt_swap hi hcl _ _ c k (by rw [if_pos rfl]) (by rw [if_neg hki, if_neg hkc])]
        exact hmin k hk h0 hpi
      · rw [okAt_swap hi hcl _ _ ((k - 1) / 2) k (by rw [if_neg hpi, if_neg hpc]) (by rw [if_neg hki, if_neg hkc])]
        exact h.ok k h0 hk hki hpi
  · rw [hpar, okAt_swap hi hcl _ _ c d (by rw [if_pos rfl]) (by rw [if_neg (by omega), if_neg (by omega)])]
    have := h.ok d h0 hd (by omega) (by omega)
    rwa [hpd] at this
  · rw [hpar, okAt_swap hi hcl _ _ c i (by rw [if_pos rfl]) (by rw [if_neg (by omega), if_pos rfl])]
    exact okAt_asym hg.2
theorem down_stopped {L : List Th} {i n : Nat} (hn : n ≤ L.length) (h : HeapBut L i n) (hg : ¬ (2 * i + 1 < n ∧ ltAt L (childL L i n) i = true)) (k : Nat) (h0 : 0 < k) (hk : k < n) (hki : k ≠ i) : okAt L ((k - 1) / 2) k := by
  by_cases hpi : (k - 1) / 2 = i
  · have h1 : 2 * i + 1 < n := by omega
    have hc := childL_lt (L := L) h1
    have h2 : okAt L i (childL L i n) := by
      unfold okAt
      cases hx : ltAt L (childL L i n) i
      · rfl
      · exact absurd ⟨h1, hx⟩ hg
    rw [hpi]
    exact okAt_trans (by omega) h2 (childL_min hn k hk h0 hpi)
  · exact h.ok k h0 hk hki hpi
theorem down_heap (L : List Th) (i n : Nat) (hn : n ≤ L.length) (h : HeapBut L i n) (hi : 0 < i → okAt L ((i - 1) / 2) i) : Heap (downL L i n).1 n := by
  induction L, i using downL.induct (n := n) with
  | case1 L i hg ih =>
    rw [downL_go hg]
    obtain ⟨h1, h2⟩ := down_step hn h hg
    exact ih (by simpa using hn) h1 (fun _ => h2)
  | case2 L i hg =>
    rw [downL_stop hg]
    intro k h0 hk
    by_cases hki : k = i
    · subst hki; exact hi h0
    · exact down_stopped hn h hg k h0 hk hki
/-- as down leaves it: a heap, or what up mends -/
structure HeapUp (L : List Th) (j n : Nat) : Prop where
  ok : ∀ k, 0 < k → k < n → k ≠ j → okAt L ((k - 1) / 2) k
  far : ∀ c, 0 < c → c < n → (c - 1) / 2 = j → 0 < j → okAt L ((j - 1) / 2) c
theorem up_heap (L : List Th) (j n : Nat) (hn : n ≤ L.length) (hj : j < n) (h : HeapUp L j n) : Heap (upL L j) n := by
  induction L, j using upL.induct with
  | case1 L j hg ih =>
    rw [upL_go hg]
    have hpl : (j - 1) / 2 < L.length := by omega
    have hjl : j < L.length := by omega
    refine ih (by simpa using hn) (by omega) ⟨fun k h0 hk hkp => ?_, fun c h0 hc hpc hp0 => ?_⟩
    · by_cases hkj : k = j
      · subst hkj
        rw [okAt_swap hpl hjl _ _ k ((k - 1) / 2) (by rw [if_pos rfl]) (by rw [if_neg (by omega), if_pos rfl])]
        exact okAt_asym hg.2
      · by_cases hpk : (k - 1) / 2 = j
        · rw [hpk, okAt_swap hpl hjl _ _ ((j - 1) / 2) k (by rw [if_neg (by omega), if_pos rfl]) (by rw [if_neg hkp, if_neg hkj])]
          exact h.far k h0 hk hpk (by omega)
        · by_cases hpp : (k - 1) / 2 = (j - 1) / 2
          · rw [hpp, okAt_swap hpl hjl _ _ j k (by rw [if_pos rfl]) (by rw [if_neg hkp, if_neg hkj])]
            refine okAt_trans hpl (okAt_asym hg.2) ?_
            have := h.ok k h0 hk hkj
            rwa [hpp] at this
          · rw [okAt_swap hpl hjl _ _ ((k - 1) / 2) k (by rw [if_neg hpp, if_neg hpk]) (by rw [if_neg hkp, if_neg hkj])]
            exact h.ok k h0 hk hkj
    · have hpp := h.ok ((j - 1) / 2) hp0 (by omega) (by omega)
      by_cases hcj : c = j
      · subst hcj
        rw [okAt_swap hpl hjl _ _ (((c - 1) / 2 - 1) / 2) ((c - 1) / 2) (by rw [if_neg (by omega), if_neg (by omega)]) (by rw [if_neg (by omega), if_pos rfl])]
        exact hpp
      · rw [okAt_swap hpl hjl _ _ (((j - 1) / 2 - 1) / 2) c (by rw [if_neg (by omega), if_neg (by omega)]) (by rw [if_neg (by omega), if_neg hcj])]
        refine okAt_trans hpl hpp ?_
        have := h.ok c h0 hc hcj
        rwa [hpc] at this
  | case2 L j hg =>
    rw [upL_stop hg]
    intro k h0 hk
    by_cases hkj : k = j
    · subst hkj
      unfold okAt
      cases hx : ltAt L k ((k - 1) / 2)
      · rfl
      · exact absurd ⟨h0, hx⟩ hg
    · exact h.ok k h0 hk hkj
/-- down, and up if it did not sink -/
theorem mend_heap {L : List Th} {i n : Nat} (hn : n ≤ L.length) (hi : i < n) (h : HeapBut L i n) :
    Heap (if i < (downL L i n).2 then (downL L i n).1 else upL (downL L i n).1 i) n := by
  by_cases hg : 2 * i + 1 < n ∧ ltAt L (childL L i n) i = true
  · have h1 := downL_ge (swapL L i (childL L i n)) (childL L i n) n
    have h2 := childL_ge L i n
    obtain ⟨h3, h4⟩ := down_step hn h hg
    rw [downL_go hg, if_pos (by omega)]
    exact down_heap _ _ n (by simpa using hn) h3 (fun _ => h4)
  · rw [downL_stop hg, if_neg (Nat.lt_irrefl _)]
    exact up_heap L i n hn hi ⟨down_stopped hn h hg, h.far⟩
/-- the first one goes first -/
theorem Heap.root {L : List Th} {n : Nat} (h : Heap L n) (hn : n ≤ L.length) (k : Nat) (hk : k < n) : okAt L 0 k := by
  induction k using Nat.strongRecOn with
  | ind k ih =>
    by_cases h0 : k = 0
    · subst h0; exact okAt_refl _ _
    · exact okAt_trans (by omega) (ih ((k - 1) / 2) (by omega) (by omega)) (h k (by omega) hk)
theorem Heap.head {x : Th} {L : List Th} (h : Heap (x :: L) (x :: L).length) : ∀ y ∈ x :: L, ltB y x = false := by
  intro y hy
  obtain ⟨k, hk, rfl⟩ := List.mem_iff_getElem.1 hy
  have := h.root (Nat.le_refl _) k hk
  unfold okAt at this
  rwa [ltAt_eq hk (by simp)] at this
theorem okAt_take {L : List Th} {m a b : Nat} (ha : a < m) (hb : b < m) : okAt (L.take m) a b ↔ okAt L a b := by
  unfold okAt ltAt
  rw [List.getElem?_take_of_lt ha, List.getElem?_take_of_lt hb]
theorem Heap.take {L : List Th} {n : Nat} (h : Heap L n) : Heap (L.take n) n := fun k h0 hk => (okAt_take (by omega) hk).2 (h k h0 hk)
theorem heap_nil : Heap [] 0 := fun k _ h => by omega
theorem heap_push {L : List Th} (t : Th) (h : Heap L L.length) : Heap (upL (L ++ [t]) L.length) (L.length + 1) := by
  refine up_heap _ _ _ (by simp) (by omega) ⟨fun k h0 hk hkj => ?_, fun c h0 hc hp _ => by omega⟩
  have := h k h0 (by omega)
  unfold okAt ltAt at this ⊢
  rwa [List.getElem?_append_left (by omega), List.getElem?_append_left (by omega)]
theorem heap_swapped {L : List Th} {i n : Nat} (hL : L.length = n + 1) (hi : i ≤ n) (h : Heap L L.length) : HeapBut (swapL L i n) i n := by
  have hil : i < L.length := by omega
  have hnl : n < L.length := by omega
  refine ⟨fun k h0 hk hki hpi => ?_, fun c h0 hc hp hi0 => ?_⟩
  · rw [okAt_swap hil hnl _ _ ((k - 1) / 2) k (by rw [if_neg hpi, if_neg (by omega)]) (by rw [if_neg hki, if_neg (by omega)])]
    exact h k h0 (by omega)
  · rw [okAt_swap hil hnl _ _ ((i - 1) / 2) c (by rw [if_neg (by omega), if_neg (by omega)]) (by rw [if_neg (by omega), if_neg (by omega)])]
    have h1 := h c h0 (by omega)
    rw [hp] at h1
    exact okAt_trans hil (h i hi0 hil) h1
theorem heap_pop {x : Th} {L : List Th} (h : Heap (x :: L) (x :: L).length) : Heap (popL (x :: L)) L.length := by
  unfold popL
  have hk := heap_swapped (L := x :: L) (i := 0) (n := L.length) (by simp) (by omega) h
  have hd := down_heap (swapL (x :: L) 0 L.length) 0 L.length (by simp) hk (fun h => by omega)
  simp only [List.length_cons, Nat.add_sub_cancel]
  exact hd.take
theorem heap_remove {L : List Th} {i : Nat} (hi : i < L.length) (h : Heap L L.length) : Heap (removeL L i) (L.length - 1) := by
  unfold removeL
  refine Heap.take ?_
  unfold rmL
  split
  · exact fun k h0 hk => h k h0 (by omega)
  · rename_i hne
    exact mend_heap (by simp) (by omega) (heap_swapped (by omega) (by omega) h)
theorem heap_fix {L : List Th} {i : Nat} (t : Th) (hi : i < L.length) (h : Heap L L.length) : Heap (fixL (L.set i t) i) L.length := by
  unfold fixL
  have hl : (L.set i t).length = L.length := by simp
  rw [hl]
  refine mend_heap (by simp) hi ⟨fun k h0 hk hki hpi => ?_, fun c h0 hc hp hi0 => ?_⟩
  · have := h k h0 hk
    unfold okAt ltAt at this ⊢
    rwa [List.getElem?_set_ne (fun e => hki e.symm), List.getElem?_set_ne (fun e => hpi e.symm)]
  · have h1 := h c h0 hc
    rw [hp] at h1
    have h2 := okAt_trans hi (h i hi0 hi) h1
    unfold okAt ltAt at h2 ⊢
    rwa [List.getElem?_set_ne (by omega), List.getElem?_set_ne (by omega)]
end Go.Proofs.Ythmnbjdmbajhkaa
