/-
  Bounds for fields: the lines lie in the text; how many fields there are, and how long.
-/
import Derived.Test.YtlfdcocaedeneaaDoorFldsM
namespace Go.Proofs.YtlfdcocaedeneaaDoor
set_option linter.unusedVariables false
open Go.RowKit Go.Lib

theorem lines_in (n : Nat) : ∀ (k : Nat) (r : List Nat), r.length ≤ n → (linesP k r).length ≤ r.length ∧ ∀ x ∈ linesP k r, k ≤ x.1 ∧ x.1 + x.2.1 ≤ k + r.length ∧ x.2.2 ≤ x.2.1 := by
  induction n with
  | zero =>
    intro k r h
    have : r = [] := List.eq_nil_of_length_eq_zero (by omega)
    subst this
    rw [linesP_nil]
    simp
  | succ n ih =>
    intro k r h
    by_cases hr : r = []
    · subst hr; rw [linesP_nil]; simp
    · rw [linesP_cons k hr]
      have h1 := wholeN_pos hr
      have h2 := wholeN_le r
      have h3 := textN_le r
      obtain ⟨i1, i2⟩ := ih (k + wholeN r) (r.drop (wholeN r)) (by simp; omega)
      simp only [List.length_drop] at i1 i2
      refine ⟨by simp only [List.length_cons]; omega, fun x hx => ?_⟩
      rcases List.mem_cons.1 hx with rfl | hx
      · exact ⟨Nat.le_refl _, by simp only; omega, h3⟩
      · obtain ⟨j1, j2, j3⟩ := i2 x hx
        exact ⟨by omega, by omega, j3⟩

theorem stepF_len (s : List Fd × Option Fd) (wh tx : List Nat) : (stepF s wh tx).1.length + (stepF s wh tx).2.toList.length ≤ s.1.length + s.2.toList.length + 1 := by
  unfold stepF
  split
  · cases s.2 <;> simp
  · cases nameN tx <;> simp <;> omega
theorem runF_len (l : List Nat) (xs : List (Nat × Nat × Nat)) : ∀ s, (runF l s xs).1.length + (runF l s xs).2.toList.length ≤ s.1.length + s.2.toList.length + xs.length := by
  induction xs with
  | nil => intro s; simp [runF]
  | cons x xs ih =>
    intro s
    have h1 := ih (stepF s (lineW l x) (lineT l x))
    have h2 := stepF_len s (lineW l x) (lineT l x)
    have e : runF l s (x :: xs) = runF l (stepF s (lineW l x) (lineT l x)) xs := rfl
    rw [e, List.length_cons]
    omega
theorem fin2_len {W : World} {b E : Nat} : ∀ (fs : List Fd) (gs : List Nat), fin2 W b E fs gs → fs.length = gs.length
  | [], [], _ => rfl
  | f :: fs, g :: gs, k => by rw [List.length_cons, List.length_cons, fin2_len fs gs k.2]
  | [], _ :: _, k => k.elim
  | _ :: _, [], k => k.elim
/-- how long the open field's text and lines are -/
def OpLe (N : Nat) (s : List Fd × Option Fd) : Prop := ∀ f ∈ s.2, f.T.length ≤ N ∧ f.R.length ≤ N
theorem stepF_le {N M : Nat} {s : List Fd × Option Fd} {wh tx : List Nat} (h : OpLe N s) (h1 : wh.length ≤ M) (h2 : tx.length ≤ M) : OpLe (N + M) (stepF s wh tx) := by
  intro f hf
  unfold stepF at hf
  split at hf
  · cases hs : s.2 with
    | none => rw [hs] at hf; simp at hf
    | some f0 =>
      rw [hs] at hf
      simp at hf
      subst hf
      have := h f0 (by rw [hs]; simp)
      simp
      omega
  · cases hn : nameN tx with
    | none => rw [hn] at hf; simp at hf
    | some q =>
      rw [hn] at hf
      simp at hf
      subst hf
      simp
      omega
theorem runF_le' (l : List Nat) (xs : List (Nat × Nat × Nat)) : ∀ (s : List Fd × Option Fd) (N : Nat), OpLe N s → OpLe (N + xs.length * l.length) (runF l s xs) := by
  induction xs with
  | nil => intro s N h; simpa [runF] using h
  | cons x xs ih =>
    intro s N h
    have h1 := ih (stepF s (lineW l x) (lineT l x)) (N + l.length) (stepF_le h (by simp [lineW]; omega) (by simp [lineT]; omega))
    rw [List.length_cons, Nat.add_mul, Nat.one_mul, show N + (xs.length * l.length + l.length) = N + l.length + xs.length * l.length by omega]
    exact h1
theorem runF_le (l : List Nat) (xs : List (Nat × Nat × Nat)) : OpLe (xs.length * l.length) (runF l ([], none) xs) := by
  have := runF_le' l xs ([], none) 0 (by intro f hf; simp at hf)
  rwa [Nat.zero_add] at this
end Go.Proofs.YtlfdcocaedeneaaDoor
