/-
  Two lines with a blank between: the tokens of both.
-/
import Derived.Test.YtghibofnfjnfcaaGreatDoorLexP
namespace Go.Proofs.YtghibofnfjnfcaaGreatDoor
set_option linter.unusedVariables false

/-- tokens told ahead -/
def onto (O : List Tk) (s : LS) : LS := { s with out := O ++ s.out }
theorem onto_m (O : List Tk) (s : LS) : (onto O s).m = s.m := rfl
theorem step_onto (O : List Tk) (s : LS) (c : Nat) : stepL (onto O s) c = (onto O (stepL s c).1, (stepL s c).2) := by
  unfold stepL
  rw [onto_m]
  have hb : ∀ u : LS, betS (onto O u) c = (onto O (betS u c).1, (betS u c).2) := by
    intro u
    unfold betS
    by_cases h1 : singleN c ≠ 0
    · rw [if_pos h1, if_pos h1]; simp [tellS, onto]
    rw [if_neg h1, if_neg h1]
    by_cases h2 : c = 34
    · rw [if_pos h2, if_pos h2]; rfl
    rw [if_neg h2, if_neg h2]
    by_cases h3 : c = 123
    · rw [if_pos h3, if_pos h3]; rfl
    rw [if_neg h3, if_neg h3]
    by_cases h4 : inAtomN c = true
    · rw [if_pos h4, if_pos h4]; rfl
    rw [if_neg h4, if_neg h4]
  have ht : ∀ (u : LS) (k : Nat), tellS (onto O u) k = onto O (tellS u k) := by intro u k; simp [tellS, onto]
  cases s.m
  · exact hb s
  · show atomS (onto O s) c = (onto O (atomS s c).1, (atomS s c).2)
    unfold atomS
    by_cases h : inAtomN c = true
    · rw [if_pos h, if_pos h]; rfl
    · rw [if_neg h, if_neg h, ht, hb]
  · show quoS (onto O s) c = (onto O (quoS s c).1, (quoS s c).2)
    unfold quoS
    by_cases h1 : c = 34
    · rw [if_pos h1, if_pos h1, ht]
    rw [if_neg h1, if_neg h1]
    by_cases h2 : c = 92
    · rw [if_pos h2, if_pos h2]; rfl
    rw [if_neg h2, if_neg h2]
    by_cases h3 : inQuoN c = true
    · rw [if_pos h3, if_pos h3]; rfl
    rw [if_neg h3, if_neg h3]
  · show escS (onto O s) c = (onto O (escS s c).1, (escS s c).2)
    unfold escS
    by_cases h : c ≠ 34 ∧ c ≠ 92
    · rw [if_pos h, if_pos h]
    · rw [if_neg h, if_neg h]; rfl
  · show sizS (onto O s) c = (onto O (sizS s c).1, (sizS s c).2)
    unfold sizS
    by_cases h1 : 48 ≤ c ∧ c ≤ 57 ∧ s.text ≠ [48]
    · rw [if_pos h1, if_pos (show 48 ≤ c ∧ c ≤ 57 ∧ (onto O s).text ≠ [48] from h1)]; rfl
    rw [if_neg h1, if_neg (show ¬ (48 ≤ c ∧ c ≤ 57 ∧ (onto O s).text ≠ [48]) from h1)]
    by_cases h2 : c = 125 ∧ s.text ≠ []
    · rw [if_pos h2, if_pos (show c = 125 ∧ (onto O s).text ≠ [] from h2)]; rfl
    rw [if_neg h2, if_neg (show ¬ (c = 125 ∧ (onto O s).text ≠ []) from h2)]
  · show carS (onto O s) c = (onto O (carS s c).1, (carS s c).2)
    unfold carS
    by_cases h : c ≠ 13
    · rw [if_pos h, if_pos h]
    · rw [if_neg h, if_neg h]; rfl
  · show feeS (onto O s) c = (onto O (feeS s c).1, (feeS s c).2)
    unfold feeS
    rw [show valN (onto O s).text = valN s.text from rfl]
    by_cases h1 : c ≠ 10
    · rw [if_pos h1, if_pos h1]
    rw [if_neg h1, if_neg h1]
    by_cases h2 : 16384 < valN s.text
    · rw [if_pos h2, if_pos h2]
    rw [if_neg h2, if_neg h2]
    by_cases h3 : valN s.text = 0
    · rw [if_pos h3, if_pos h3]; simp [tellS, onto]
    · rw [if_neg h3, if_neg h3]; rfl
  · show litS (onto O s) c = (onto O (litS s c).1, (litS s c).2)
    unfold litS
    rw [show (onto O s).left = s.left from rfl]
    by_cases h1 : c = 0
    · rw [if_pos h1, if_pos h1]
    rw [if_neg h1, if_neg h1]
    by_cases h2 : s.left - 1 = 0
    · rw [if_pos h2, if_pos h2]; simp [tellS, onto, pushT]
    · rw [if_neg h2, if_neg h2]; rfl
theorem run_cons (s : LS) (c : Nat) (r : List Nat) : runL s (c :: r) = if (stepL s c).2 = 0 then runL (stepL s c).1 r else stepL s c := rfl
theorem run_onto (O : List Tk) (l : List Nat) : ∀ s, runL (onto O s) l = (onto O (runL s l).1, (runL s l).2) := by
  induction l with
  | nil => intro s; rfl
  | cons c l ih =>
    intro s
    unfold runL
    rw [step_onto]
    by_cases h : (stepL s c).2 = 0
    · rw [if_pos h, if_pos h, ih]
    · rw [if_neg h, if_neg h]
theorem run_two (l m : List Nat) : ∀ s, (runL s l).2 = 0 → runL s (l ++ m) = runL (runL s l).1 m := by
  induction l with
  | nil => intro s _; rfl
  | cons c l ih =>
    intro s h
    rw [List.cons_append, run_cons]
    rw [run_cons] at h
    rw [run_cons]
    by_cases h0 : (stepL s c).2 = 0
    · rw [if_pos h0] at h
      rw [if_pos h0, if_pos h0]
      exact ih _ h
    · rw [if_neg h0] at h
      exact absurd h h0
theorem lex_yes {l : List Nat} {x : List Tk} (hl : ∀ n ∈ l, n < 256) (h : lexS l = (0, x)) : (runL ls0 l).2 = 0 ∧ (runL ls0 l).1.op = false ∧ x = (if (runL ls0 l).1.text = [] then (runL ls0 l).1.out else (runL ls0 l).1.out ++ [(1, (runL ls0 l).1.text)]) := by
  unfold lexS at h
  by_cases h0 : (runL ls0 l).2 = 0
  · rw [if_pos h0] at h
    refine ⟨h0, ?_⟩
    unfold finL at h
    cases hop : (runL ls0 l).1.op
    · rw [hop, if_neg (by decide)] at h
      refine ⟨rfl, ?_⟩
      split at h
      · rename_i ht; rw [if_pos ht]; exact (Prod.mk.inj h).2.symm
      · rename_i ht; rw [if_neg ht]; exact (Prod.mk.inj h).2.symm
    · rw [hop, if_pos rfl] at h
      exact absurd (Prod.mk.inj h).1 (by decide)
  · rw [if_neg h0] at h
    exact absurd (Prod.mk.inj h).1 h0
/-- the blank between -/
theorem run_blank (s : LS) (k : Fit s) (hop : s.op = false) : stepL s 32 = (onto ((if s.text = [] then s.out else s.out ++ [(1, s.text)]) ++ [(6, [])]) { ls0 with left := s.left }, 0) := by
  have hm : s.m = .btw ∨ s.m = .atom := by
    by_cases h1 : s.m = .btw
    · exact .inl h1
    · by_cases h2 : s.m = .atom
      · exact .inr h2
      · have := k.op h1 h2; rw [hop] at this; cases this
  rcases hm with hm | hm
  · have ht := (k.bt hm).1
    rw [if_pos ht]
    unfold stepL
    rw [hm]
    show (tellS s 6, 0) = _
    unfold tellS onto ls0
    rw [ht]
    simp
  · have ht := (k.at_ hm).1
    rw [if_neg ht]
    unfold stepL
    rw [hm]
    show (tellS (tellS s 1) 6, 0) = _
    unfold tellS onto ls0
    simp
/-- what a literal had left plays no part in a line's beginning -/
structure Like (s u : LS) : Prop where
  m : s.m = u.m
  out : s.out = u.out
  text : s.text = u.text
  op : s.op = u.op
  lf : s.m = .lit → s.left = u.left
theorem like_step {s u : LS} (k : Like s u) (c : Nat) : Like (stepL s c).1 (stepL u c).1 ∧ (stepL s c).2 = (stepL u c).2 := by
  obtain ⟨h1, h2, h3, h4, h5⟩ := k
  unfold stepL
  rw [← h1]
  cases hm : s.m <;> simp only [atomS, quoS, escS, sizS, carS, feeS, litS, betS, tellS, pushT, ← h2, ← h3, ← h4]
  all_goals
    try rw [← h5 hm]
    repeat' split
    all_goals
      refine ⟨⟨?_, ?_, ?_, ?_, ?_⟩, ?_⟩
      all_goals first
        | rfl
        | (simp only; assumption)
        | (simp only; exact h1)
        | (intro h; simp_all)
        | simp_all
theorem like_run (l : List Nat) : ∀ {s u : LS}, Like s u → Like (runL s l).1 (runL u l).1 ∧ (runL s l).2 = (runL u l).2 := by
  induction l with
  | nil => intro s u k; exact ⟨k, rfl⟩
  | cons c l ih =>
    intro s u k
    obtain ⟨k1, e1⟩ := like_step k c
    unfold runL
    rw [← e1]
    by_cases h : (stepL s c).2 = 0
    · rw [if_pos h, if_pos h]; exact ih k1
    · rw [if_neg h, if_neg h]; exact ⟨k1, e1⟩
theorem join_law {a b : List Nat} {x y : List Tk} (ha : ∀ n ∈ a, n < 256) (hb : ∀ n ∈ b, n < 256) (h1 : lexS a = (0, x)) (h2 : lexS b = (0, y)) : lexS (a ++ [32] ++ b) = (0, x ++ [(6, [])] ++ y) := by
  obtain ⟨p1, p2, p3⟩ := lex_yes ha h1
  obtain ⟨q1, q2, q3⟩ := lex_yes hb h2
  have fa := fit_run fit0 a ha p1
  have e1 : runL ls0 (a ++ [32]) = (onto (x ++ [(6, [])]) { ls0 with left := (runL ls0 a).1.left }, 0) := by
    rw [run_two a [32] ls0 p1]
    rw [run_cons, run_blank _ fa p2, if_pos rfl, ← p3]
    rfl
  have lk : Like { ls0 with left := (runL ls0 a).1.left } ls0 := ⟨rfl, rfl, rfl, rfl, fun h => by cases h⟩
  obtain ⟨k2, e2⟩ := like_run b lk
  have e3 : runL ls0 (a ++ [32] ++ b) = (onto (x ++ [(6, [])]) (runL { ls0 with left := (runL ls0 a).1.left } b).1, 0) := by
    rw [run_two (a ++ [32]) b ls0 (by rw [e1]), e1]
    simp only
    rw [run_onto, e2, q1]
  unfold lexS
  rw [e3, if_pos rfl]
  unfold finL
  have o1 : (onto (x ++ [(6, [])]) (runL { ls0 with left := (runL ls0 a).1.left } b).1).op = false := k2.op.trans q2
  have o2 : (onto (x ++ [(6, [])]) (runL { ls0 with left := (runL ls0 a).1.left } b).1).text = (runL ls0 b).1.text := k2.text
  have o3 : (onto (x ++ [(6, [])]) (runL { ls0 with left := (runL ls0 a).1.left } b).1).out = x ++ [(6, [])] ++ (runL ls0 b).1.out := by
    show (x ++ [(6, [])]) ++ (runL { ls0 with left := (runL ls0 a).1.left } b).1.out = _
    rw [k2.out]
  rw [o1, if_neg (by decide), o2, o3, q3]
  split
  · rfl
  · simp
end Go.Proofs.YtghibofnfjnfcaaGreatDoor
