/-
  The header's lines and fields, purely: what a suffix makes of a state; what stands behind the empty line plays no part.
-/
import Derived.Test.YtlfdcocaedeneaaDoorFldsL
namespace Go.Proofs.YtlfdcocaedeneaaDoor
set_option linter.unusedVariables false
open Go.RowKit Go.Lib

theorem aheadN_app (c : Nat) (x r : List Nat) (h : aheadN c x < x.length) : aheadN c (x ++ r) = aheadN c x := by
  unfold aheadN at *
  rw [List.takeWhile_append, if_neg (by omega)]
/-- a whole line -/
def LineP (x : List Nat) : Prop := aheadN 10 x + 1 = x.length
theorem line_ne {x : List Nat} (h : LineP x) : x ≠ [] := by intro e; subst e; simp [LineP] at h
/-- its text -/
def lineX (x : List Nat) : List Nat := x.take (trimN (x.take (aheadN 10 x)))
theorem lineX_len {x : List Nat} (h : LineP x) : (lineX x).length = trimN (x.take (aheadN 10 x)) := by
  have := trimN_le (x.take (aheadN 10 x))
  unfold LineP at h
  simp [lineX] at this ⊢
  omega
theorem wholeN_line {x : List Nat} (h : LineP x) (r : List Nat) : wholeN (x ++ r) = x.length := by
  unfold LineP at h
  unfold wholeN
  rw [aheadN_app 10 x r (by omega), if_pos (by simp; omega), h]
theorem textN_line {x : List Nat} (h : LineP x) (r : List Nat) : textN (x ++ r) = trimN (x.take (aheadN 10 x)) := by
  unfold LineP at h
  unfold textN
  rw [aheadN_app 10 x r (by omega), if_pos (by simp; omega), List.take_append_of_le_length (by omega)]
theorem ahead_take (c : Nat) (r : List Nat) (h : aheadN c r < r.length) : aheadN c (r.take (aheadN c r + 1)) = aheadN c r := by
  induction r with
  | nil => simp at h
  | cons y r ih =>
    by_cases hy : y = c
    · subst hy; simp [aheadN]
    · have e : aheadN c (y :: r) = aheadN c r + 1 := by simp [aheadN, hy]
      rw [e] at h ⊢
      rw [List.take_succ_cons]
      have e2 : ∀ m : List Nat, aheadN c (y :: m) = aheadN c m + 1 := by intro m; simp [aheadN, hy]
      rw [e2, ih (by simpa using h)]
/-- the first line, if it has an end -/
theorem line_first {r : List Nat} (h : aheadN 10 r < r.length) : LineP (r.take (wholeN r)) ∧ wholeN r = (r.take (wholeN r)).length := by
  have e : wholeN r = aheadN 10 r + 1 := by unfold wholeN; rw [if_pos h]
  have el : (r.take (wholeN r)).length = aheadN 10 r + 1 := by rw [e]; simp; omega
  refine ⟨?_, by rw [el, e]⟩
  unfold LineP
  rw [el, e, ahead_take 10 r h]

/-- what the lines of a suffix make of a state -/
def runR (s : List Fd × Option Fd) (r : List Nat) : List Fd × Option Fd :=
  if h : r = [] then s else if textN r = 0 then s else runR (stepF s (r.take (wholeN r)) (r.take (textN r))) (r.drop (wholeN r))
termination_by r.length
decreasing_by
  have := wholeN_pos h
  have := List.length_pos_iff.2 h
  simp
  omega
/-- where the body begins, from a suffix on -/
def splitR (r : List Nat) : Nat :=
  if h : r = [] then 0 else wholeN r + (if textN r = 0 then 0 else splitR (r.drop (wholeN r)))
termination_by r.length
decreasing_by
  have := wholeN_pos h
  have := List.length_pos_iff.2 h
  simp
  omega
theorem splitR_eq (n : Nat) : ∀ (j : Nat) (r : List Nat), r.length ≤ n → splitL (linesP j r) = splitR r := by
  induction n with
  | zero =>
    intro j r h
    obtain rfl : r = [] := List.eq_nil_of_length_eq_zero (by omega)
    rw [linesP_nil, splitR]
    simp [splitL]
  | succ n ih =>
    intro j r h
    by_cases hr : r = []
    · subst hr; rw [linesP_nil, splitR]; simp [splitL]
    · rw [linesP_cons j hr, splitR, dif_neg hr]
      show wholeN r + _ = _
      have := wholeN_pos hr
      rw [ih _ _ (by simp; omega)]
theorem splitS_eq (l : List Nat) : splitS l = splitR l := splitR_eq l.length 0 l (Nat.le_refl _)
theorem runR_eq (n : Nat) : ∀ (l : List Nat) (j : Nat) (s : List Fd × Option Fd), l.length - j ≤ n → runF l s (headF (linesP j (l.drop j))) = runR s (l.drop j) := by
  induction n with
  | zero =>
    intro l j s h
    have : l.drop j = [] := List.drop_eq_nil_of_le (by omega)
    rw [this, linesP_nil, runR]
    simp [headF, runF]
  | succ n ih =>
    intro l j s h
    by_cases hr : l.drop j = []
    · rw [hr, linesP_nil, runR]
      simp [headF, runF]
    · rw [linesP_cons j hr, runR, dif_neg hr]
      have := wholeN_pos hr
      by_cases ht : textN (l.drop j) = 0
      · rw [if_pos ht]
        simp [headF, ht, runF]
      · rw [if_neg ht]
        have e : headF ((j, wholeN (l.drop j), textN (l.drop j)) :: linesP (j + wholeN (l.drop j)) ((l.drop j).drop (wholeN (l.drop j)))) = (j, wholeN (l.drop j), textN (l.drop j)) :: headF (linesP (j + wholeN (l.drop j)) (l.drop (j + wholeN (l.drop j)))) := by
          rw [List.drop_drop]
          simp [headF, ht]
        rw [e]
        show runF l (stepF s _ _) _ = _
        rw [ih l (j + wholeN (l.drop j)) _ (by omega), List.drop_drop]
        rfl
theorem fieldsS_eq (l : List Nat) : fieldsS l = (runR ([], none) l).1 ++ (runR ([], none) l).2.toList := by
  have := runR_eq l.length l 0 ([], none) (by omega)
  simp only [List.drop_zero] at this
  unfold fieldsS
  rw [this]

theorem runR_line {x : List Nat} (h : LineP x) (s : List Fd × Option Fd) (r : List Nat) : runR s (x ++ r) = if lineX x = [] then s else runR (stepF s x (lineX x)) r := by
  have hne : x ++ r ≠ [] := by simp [line_ne h]
  have hl := lineX_len h
  have hle : trimN (x.take (aheadN 10 x)) ≤ x.length := by
    have := trimN_le (x.take (aheadN 10 x))
    simp at this
    omega
  rw [runR, dif_neg hne, wholeN_line h, textN_line h]
  by_cases h0 : trimN (x.take (aheadN 10 x)) = 0
  · rw [if_pos h0, if_pos (List.eq_nil_of_length_eq_zero (by omega))]
  · rw [if_neg h0, if_neg (fun e => h0 (by rw [e] at hl; simpa using hl.symm))]
    rw [List.take_append_of_le_length (Nat.le_refl _), List.take_length, List.take_append_of_le_length hle, List.drop_left]
    rfl
theorem splitR_line {x : List Nat} (h : LineP x) (r : List Nat) : splitR (x ++ r) = x.length + (if lineX x = [] then 0 else splitR r) := by
  have hne : x ++ r ≠ [] := by simp [line_ne h]
  have hl := lineX_len h
  rw [splitR, dif_neg hne, wholeN_line h, textN_line h]
  by_cases h0 : trimN (x.take (aheadN 10 x)) = 0
  · rw [if_pos h0, if_pos (List.eq_nil_of_length_eq_zero (by omega))]
  · rw [if_neg h0, if_neg (fun e => h0 (by rw [e] at hl; simpa using hl.symm)), List.drop_left]
theorem splitR_le (n : Nat) : ∀ r : List Nat, r.length ≤ n → splitR r ≤ r.length := by
  induction n with
  | zero =>
    intro r h
    obtain rfl : r = [] := List.eq_nil_of_length_eq_zero (by omega)
    rw [splitR]
    simp
  | succ n ih =>
    intro r h
    by_cases hr : r = []
    · subst hr; rw [splitR]; simp
    · rw [splitR, dif_neg hr]
      have h1 := wholeN_pos hr
      have h2 := wholeN_le r
      split
      · omega
      · have := ih (r.drop (wholeN r)) (by simp; omega)
        simp at this
        omega
/-- what stands behind the empty line plays no part -/
theorem behind_any (n : Nat) : ∀ (r body : List Nat) (s : List Fd × Option Fd), r.length ≤ n → splitR r < r.length →
    splitR (r.take (splitR r) ++ body) = splitR r ∧ runR s (r.take (splitR r) ++ body) = runR s r := by
  induction n with
  | zero => intro r body s h h2; omega
  | succ n ih =>
    intro r body s h h2
    have hr : r ≠ [] := by intro e; subst e; simp at h2
    have hlf : aheadN 10 r < r.length := by
      rcases Nat.lt_or_ge (aheadN 10 r) r.length with h3 | h3
      · exact h3
      · exfalso
        rw [splitR, dif_neg hr] at h2
        have : wholeN r = r.length := by unfold wholeN; rw [if_neg (by omega)]
        omega
    obtain ⟨hl, hw⟩ := line_first hlf
    obtain ⟨x, hx⟩ : ∃ x, r.take (wholeN r) = x := ⟨_, rfl⟩
    obtain ⟨r', hr'⟩ : ∃ r', r.drop (wholeN r) = r' := ⟨_, rfl⟩
    have e : r = x ++ r' := by rw [← hx, ← hr', List.take_append_drop]
    rw [hx] at hl hw
    have hxp : 0 < x.length := List.length_pos_iff.2 (line_ne hl)
    clear hx hr' hw hlf
    subst e
    rw [splitR_line hl] at h2 ⊢
    rw [runR_line hl]
    by_cases h0 : lineX x = []
    · rw [if_pos h0] at h2 ⊢
      rw [if_pos h0]
      simp only [Nat.add_zero] at h2 ⊢
      rw [List.take_append_of_le_length (Nat.le_refl _), List.take_length]
      exact ⟨by rw [splitR_line hl, if_pos h0]; rfl, by rw [runR_line hl, if_pos h0]⟩
    · rw [if_neg h0] at h2 ⊢
      rw [if_neg h0]
      have h3 : splitR r' < r'.length := by simp at h2; exact h2
      obtain ⟨i1, i2⟩ := ih r' body (stepF s x (lineX x)) (by simp at h; omega) h3
      rw [List.take_length_add_append, List.append_assoc]
      exact ⟨by rw [splitR_line hl, if_neg h0, i1], by rw [runR_line hl, if_neg h0, i2]⟩
theorem splitS_le (l : List Nat) : splitS l ≤ l.length := by rw [splitS_eq]; exact splitR_le _ l (Nat.le_refl _)
theorem splitS_cut (l body : List Nat) (h : splitS l < l.length) : splitS (l.take (splitS l) ++ body) = splitS l := by
  rw [splitS_eq l] at h ⊢
  rw [splitS_eq]
  exact (behind_any l.length l body ([], none) (Nat.le_refl _) h).1
theorem fieldsS_cut (l body : List Nat) (h : splitS l < l.length) : fieldsS (l.take (splitS l) ++ body) = fieldsS l := by
  rw [splitS_eq l] at h ⊢
  rw [fieldsS_eq, fieldsS_eq, (behind_any l.length l body ([], none) (Nat.le_refl _) h).2]
end Go.Proofs.YtlfdcocaedeneaaDoor
