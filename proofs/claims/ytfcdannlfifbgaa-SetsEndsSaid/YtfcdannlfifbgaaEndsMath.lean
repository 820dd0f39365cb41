/-
  Plain facts of SetsEnds: turned ranges, parts of a set, ranges without neighbours.
-/
import Derived.Test.YtfcdannlfifbgaaHas
import Derived.Test.YtfcdannlfifbgaaOf
import Derived.Test.YtfcdannlfifbgaaRises
import Derived.Test.YtfcdannlfifbgaaPick
namespace Go.Proofs.Ytfcdannlfifbgaa
set_option linter.unusedVariables false

def swapL (l : List (Int × Int)) : List (Int × Int) := l.map fun p => (p.2, p.1)
theorem inB_swap (p : Int × Int) (n top : Int) : inB (p.2, p.1) n top = inB p n top := by
  unfold inB
  rw [Int.min_comm, Int.max_comm]
theorem hasB_swap (l : List (Int × Int)) (n top : Int) : hasB (swapL l) n top = hasB l n top := by
  unfold hasB swapL
  rw [List.any_map]
  congr 1
  apply congrArg (fun f => l.any f)
  funext p
  exact inB_swap p n top
theorem hasB_parts (l : List (Int × Int)) (k : Nat) (n top : Int) : hasB l n top = (hasB (l.take k) n top || hasB (l.drop k) n top) := by
  unfold hasB
  conv => lhs; rw [← List.take_append_drop k l]
  rw [List.any_append]
  cases decide (0 < n) <;> simp
theorem swapL_snoc (l : List (Int × Int)) (k : Nat) (h : k < l.length) : swapL (l.take (k + 1)) = swapL (l.take k) ++ [(l[k].2, l[k].1)] := by
  rw [List.take_succ_eq_append_getElem h]; unfold swapL; rw [List.map_append]; rfl

/-- ranges that go up, with room between them; the last one ends at n or ahead of it -/
def Apart (acc : List (Int × Int)) (n : Int) : Prop :=
  (∀ i (h : i < acc.length), acc[i].1 ≤ acc[i].2) ∧ (∀ i (h : i + 1 < acc.length), acc[i].2 + 2 ≤ acc[i + 1].1) ∧ (∀ p, acc.getLast? = some p → p.2 ≤ n)
theorem Apart.nil (n : Int) : Apart [] n := ⟨by simp, by simp, by simp⟩
theorem Apart.step {acc : List (Int × Int)} {m n : Int} (h : Apart acc m) (hn : m < n) : Apart (ofStep acc n) n := by
  obtain ⟨h1, h2, h3⟩ := h
  rcases List.eq_nil_or_concat acc with rfl | ⟨pre, p, rfl⟩
  · rw [ofStep_nil]
    refine ⟨fun i hi => ?_, fun i hi => by simp at hi, fun p hp => by simp at hp; subst hp; exact Int.le_refl _⟩
    obtain rfl : i = 0 := by simpa using hi
    exact Int.le_refl _
  · obtain ⟨f, t⟩ := p
    rw [List.concat_eq_append] at *
    have ht : t ≤ m := h3 (f, t) (by simp)
    have hft : f ≤ t := by
      have := h1 pre.length (by simp)
      simpa using this
    by_cases he : t + 1 = n
    · rw [ofStep_on _ _ _ _ he]
      refine ⟨fun i hi => ?_, fun i hi => ?_, fun p hp => by simp at hp; subst hp; exact Int.le_refl _⟩
      · by_cases e : i < pre.length
        · have := h1 i (by simp; omega)
          rw [List.getElem_append_left e] at this ⊢
          exact this
        · obtain rfl : i = pre.length := by simp at hi; omega
          simp; omega
      · have hi' : i < pre.length := by simp at hi; omega
        have := h2 i (by simp; omega)
        rw [List.getElem_append_left hi'] at this ⊢
        by_cases e : i + 1 < pre.length
        · rw [List.getElem_append_left e] at this ⊢
          exact this
        · have e2 : i + 1 = pre.length := by omega
          rw [List.getElem_append_right (by omega)] at this ⊢
          simp only [e2, Nat.sub_self, List.getElem_cons_zero] at this ⊢
          exact this
    · rw [ofStep_new _ _ _ _ he]
      have hl : (pre ++ [(f, t)]).length = pre.length + 1 := by simp
      refine ⟨fun i hi => ?_, fun i hi => ?_, fun p hp => by simp at hp; subst hp; exact Int.le_refl _⟩
      · by_cases e : i < (pre ++ [(f, t)]).length
        · rw [List.getElem_append_left e]; exact h1 i e
        · have e2 : i = (pre ++ [(f, t)]).length := by simp at hi e ⊢; omega
          rw [List.getElem_append_right (by omega)]
          simp [e2]
      · have hi' : i < (pre ++ [(f, t)]).length := by simp at hi ⊢; omega
        rw [List.getElem_append_left hi']
        by_cases e : i + 1 < (pre ++ [(f, t)]).length
        · rw [List.getElem_append_left e]; exact h2 i e
        · have e2 : i = pre.length := by simp at hi e; omega
          subst e2
          rw [List.getElem_append_right (by omega)]
          simp
          omega
theorem ofL_apart {l : List Int} (h : Up l) : ∀ k, k ≤ l.length → Apart (ofL (l.take k)) (if g : 0 < k ∧ k - 1 < l.length then l[k - 1]'g.2 else 0) ∨ k = 0 := by
  intro k
  induction k with
  | zero => intro _; exact .inr rfl
  | succ k ih =>
    intro hk
    left
    rw [ofL_snoc l k (by omega), dif_pos ⟨by omega, by omega⟩]
    rcases ih (by omega) with g | g
    · by_cases k0 : k = 0
      · subst k0
        show Apart (ofStep (ofL (l.take 0)) l[0]) l[0]
        have : ofL (l.take 0) = [] := by simp [ofL]
        rw [this]
        exact (Apart.nil (l[0] - 1)).step (by omega)
      · rw [dif_pos ⟨by omega, by omega⟩] at g
        have hu := h.2 (k - 1) (by omega)
        have e : k - 1 + 1 = k := by omega
        simp only [e] at hu
        exact g.step hu
    · subst g
      show Apart (ofStep (ofL (l.take 0)) l[0]) l[0]
      have : ofL (l.take 0) = [] := by simp [ofL]
      rw [this]
      exact (Apart.nil (l[0] - 1)).step (by omega)
theorem ofL_gaps {l : List Int} (h : Up l) : (∀ i (h : i < (ofL l).length), (ofL l)[i].1 ≤ (ofL l)[i].2) ∧ (∀ i (h : i + 1 < (ofL l).length), (ofL l)[i].2 + 2 ≤ (ofL l)[i + 1].1) := by
  rcases ofL_apart h l.length (Nat.le_refl _) with g | g
  · rw [List.take_of_length_le (Nat.le_refl _)] at g
    exact ⟨g.1, g.2.1⟩
  · have : l = [] := List.eq_nil_of_length_eq_zero g
    subst this
    exact ⟨fun i hi => by simp [ofL] at hi, fun i hi => by simp [ofL] at hi⟩
theorem pickL_pos {s : List (Int × Int)} {l : List Int} (h : ∀ n ∈ l, 1 ≤ n) : ∀ n ∈ pickL s l, 1 ≤ n := fun n hn => h n (List.mem_filter.1 hn).1
theorem pickL_len (s : List (Int × Int)) (l : List Int) : (pickL s l).length ≤ l.length := List.length_filter_le _ _
theorem ofL_len' (l : List Int) : (ofL l).length ≤ l.length := by
  have := ofL_len l l.length
  rwa [List.take_of_length_le (Nat.le_refl _)] at this
end Go.Proofs.Ytfcdannlfifbgaa
