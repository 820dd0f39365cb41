/-
  The lexer as a plain machine against the reference's way: atoms, quoted texts and literals at once.
-/
import Derived.Test.YtghibofnfjnfcaaGreatDoorJoin
namespace Go.Proofs.YtghibofnfjnfcaaGreatDoor
set_option linter.unusedVariables false

def outL (s : LS) (r : List Nat) : Nat × List Tk := if (runL s r).2 = 0 then finL (runL s r).1 else ((runL s r).2, [])
def stS (O : List Tk) : LS := { ls0 with out := O }
theorem outL_nil (s : LS) : outL s [] = finL s := rfl
theorem outL_cons (s : LS) (c : Nat) (r : List Nat) : outL s (c :: r) = if (stepL s c).2 = 0 then outL (stepL s c).1 r else ((stepL s c).2, []) := by
  unfold outL
  rw [run_cons]
  by_cases h : (stepL s c).2 = 0
  · rw [if_pos h, if_pos h]
  · rw [if_neg h, if_neg h, if_neg h]
theorem outL_like {s u : LS} (k : Like s u) (r : List Nat) : outL s r = outL u r := by
  obtain ⟨k1, e1⟩ := like_run r k
  unfold outL
  rw [e1]
  by_cases h : (runL u r).2 = 0
  · rw [if_pos h, if_pos h]
    unfold finL
    rw [k1.op, k1.text, k1.out]
  · rw [if_neg h, if_neg h]
theorem lexS_out (l : List Nat) : lexS l = outL (stS []) l := rfl
/-- what a literal had left plays no part -/
theorem out_st (O : List Tk) (n : Nat) (r : List Nat) : outL ⟨.btw, O, [], n, false⟩ r = outL (stS O) r := outL_like (show Like ⟨.btw, O, [], n, false⟩ (stS O) from ⟨rfl, rfl, rfl, rfl, fun h => nomatch h⟩) r

/-- a sign that stands alone -/
theorem out_alone (O : List Tk) (c : Nat) (r : List Nat) (h : singleN c ≠ 0) : outL (stS O) (c :: r) = outL (stS (O ++ [(singleN c, [])])) r := by
  have e : stepL (stS O) c = (tellS (stS O) (singleN c), 0) := by
    show betS (stS O) c = _
    unfold betS
    rw [if_pos h]
  rw [outL_cons, e, if_pos rfl]
  rfl
theorem atom_not {c : Nat} (h : inAtomN c = true) : singleN c = 0 ∧ c ≠ 34 ∧ c ≠ 123 := by
  unfold inAtomN at h
  simp at h
  exact ⟨h.2.2.1, h.2.2.2.2, h.2.2.2.1⟩
theorem out_atoms (O : List Tk) (n : Nat) (w : List Nat) : ∀ (acc r : List Nat), (∀ x ∈ w, inAtomN x = true) → outL ⟨.atom, O, acc, n, false⟩ (w ++ r) = outL ⟨.atom, O, acc ++ w, n, false⟩ r := by
  induction w with
  | nil => intro acc r _; simp
  | cons c w ih =>
    intro acc r h
    have hc := h c (by simp)
    have e : stepL ⟨.atom, O, acc, n, false⟩ c = (⟨.atom, O, acc ++ [c], n, false⟩, 0) := by
      show atomS _ c = _
      unfold atomS
      rw [if_pos hc]
      rfl
    rw [List.cons_append, outL_cons, e, if_pos rfl, ih _ _ (fun x hx => h x (by simp [hx]))]
    simp
/-- an atom's end -/
theorem out_atom_end (O : List Tk) (n : Nat) (t r : List Nat) (ht : t ≠ []) (hr : r = [] ∨ ∃ c r', r = c :: r' ∧ inAtomN c = false) : outL ⟨.atom, O, t, n, false⟩ r = outL (stS (O ++ [(1, t)])) r := by
  rcases hr with rfl | ⟨c, r', rfl, hc⟩
  · rw [outL_nil, outL_nil]
    simp [finL, stS, ls0, ht]
  · have e : stepL ⟨.atom, O, t, n, false⟩ c = stepL ⟨.btw, O ++ [(1, t)], [], n, false⟩ c := by
      show atomS _ c = betS _ c
      unfold atomS
      rw [hc, if_neg (by decide)]
      rfl
    rw [← out_st (O ++ [(1, t)]) n, outL_cons, outL_cons, e]
theorem ref_atom (O : List Tk) (l : List Nat) (i j : Nat) (hij : i < j) (hj : j ≤ l.length) (hall : ∀ x ∈ (l.drop i).take (j - i), inAtomN x = true) (hend : j = l.length ∨ ∃ h : j < l.length, inAtomN l[j] = false) :
    outL (stS O) (l.drop i) = outL (stS (O ++ [(1, (l.drop i).take (j - i))])) (l.drop j) := by
  obtain ⟨w, hw⟩ : ∃ w, (l.drop i).take (j - i) = w := ⟨_, rfl⟩
  have hwl : w.length = j - i := by rw [← hw]; simp; omega
  have hl : l.drop i = w ++ l.drop j := by
    rw [← hw]
    conv => lhs; rw [← List.take_append_drop (j - i) (l.drop i)]
    rw [List.drop_drop, show i + (j - i) = j by omega]
  rw [hw] at hall ⊢
  rw [hl]
  cases w with
  | nil => simp at hwl; omega
  | cons c w =>
    have hc := hall c (by simp)
    obtain ⟨h1, h2, h3⟩ := atom_not hc
    have e : stepL (stS O) c = (⟨.atom, O, [c], 0, false⟩, 0) := by
      show betS (stS O) c = _
      unfold betS
      rw [if_neg (by rw [h1]; decide), if_neg h2, if_neg h3, if_pos hc]
      rfl
    rw [List.cons_append, outL_cons, e, if_pos rfl, out_atoms O 0 w [c] (l.drop j) (fun x hx => hall x (by simp [hx]))]
    refine out_atom_end O 0 _ _ (by simp) ?_
    rcases hend with h | ⟨h, ha⟩
    · left; rw [h]; simp
    · right; exact ⟨l[j], l.drop (j + 1), List.drop_eq_getElem_cons h, ha⟩

/-- a quoted text, from behind the quote -/
def quoF : List Nat → Nat → List Nat → Nat × List Nat × Nat
  | _, _, [] => (8, [], 0)
  | acc, n, [c] => if c = 34 then (0, acc, n + 1) else if c = 92 then (8, [], 0) else if inQuoN c then (8, [], 0) else (9, [], 0)
  | acc, n, c :: d :: r => if c = 34 then (0, acc, n + 1) else if c = 92 then (if d ≠ 34 ∧ d ≠ 92 then (9, [], 0) else quoF (acc ++ [d]) (n + 2) r) else if inQuoN c then quoF (acc ++ [c]) (n + 1) (d :: r) else (9, [], 0)
theorem quo_34 (O : List Tk) (m : Nat) (acc r : List Nat) : outL ⟨.quo, O, acc, m, true⟩ (34 :: r) = outL (stS (O ++ [(2, acc)])) r := by
  rw [outL_cons, show stepL ⟨.quo, O, acc, m, true⟩ 34 = (⟨.btw, O ++ [(2, acc)], [], m, false⟩, 0) from rfl, if_pos rfl, out_st]
theorem quo_push (O : List Tk) (m c : Nat) (acc r : List Nat) (h1 : c ≠ 34) (h2 : c ≠ 92) (h3 : inQuoN c = true) : outL ⟨.quo, O, acc, m, true⟩ (c :: r) = outL ⟨.quo, O, acc ++ [c], m, true⟩ r := by
  have e : stepL ⟨.quo, O, acc, m, true⟩ c = (⟨.quo, O, acc ++ [c], m, true⟩, 0) := by
    show quoS _ c = _
    unfold quoS
    rw [if_neg h1, if_neg h2, if_pos h3]
    rfl
  rw [outL_cons, e, if_pos rfl]
theorem quo_bad (O : List Tk) (m c : Nat) (acc r : List Nat) (h1 : c ≠ 34) (h2 : c ≠ 92) (h3 : inQuoN c = false) : outL ⟨.quo, O, acc, m, true⟩ (c :: r) = (9, []) := by
  have e : (stepL ⟨.quo, O, acc, m, true⟩ c).2 = 9 := by
    show (quoS _ c).2 = _
    unfold quoS
    rw [if_neg h1, if_neg h2, h3, if_neg (by decide)]
  rw [outL_cons, if_neg (by rw [e]; decide), e]
theorem quo_esc (O : List Tk) (m : Nat) (acc r : List Nat) : outL ⟨.quo, O, acc, m, true⟩ (92 :: r) = outL ⟨.esc, O, acc, m, true⟩ r := by
  rw [outL_cons, show stepL ⟨.quo, O, acc, m, true⟩ 92 = (⟨.esc, O, acc, m, true⟩, 0) from rfl, if_pos rfl]
theorem esc_step (O : List Tk) (m d : Nat) (acc r : List Nat) : outL ⟨.esc, O, acc, m, true⟩ (d :: r) = if d ≠ 34 ∧ d ≠ 92 then (9, []) else outL ⟨.quo, O, acc ++ [d], m, true⟩ r := by
  by_cases h : d ≠ 34 ∧ d ≠ 92
  · have e : (stepL ⟨.esc, O, acc, m, true⟩ d).2 = 9 := by
      show (escS _ d).2 = _
      unfold escS
      rw [if_pos h]
    rw [outL_cons, if_neg (by rw [e]; decide), e, if_pos h]
  · have e : stepL ⟨.esc, O, acc, m, true⟩ d = (⟨.quo, O, acc ++ [d], m, true⟩, 0) := by
      show escS _ d = _
      unfold escS
      rw [if_neg h]
      rfl
    rw [outL_cons, e, if_pos rfl, if_neg h]
/-- what is told of a quoted text -/
def tellQ (O : List Tk) (k : Nat) (r : List Nat) (n : Nat) (q : Nat × List Nat × Nat) : Nat × List Tk := if q.1 = 0 then outL (stS (O ++ [(k, q.2.1)])) (r.drop (q.2.2 - n)) else (q.1, [])
theorem quo_out (O : List Tk) (m : Nat) : ∀ (k : Nat) (r : List Nat), r.length ≤ k → ∀ acc n, outL ⟨.quo, O, acc, m, true⟩ r = tellQ O 2 r n (quoF acc n r) ∧ ((quoF acc n r).1 = 0 → n ≤ (quoF acc n r).2.2 ∧ (quoF acc n r).2.2 ≤ n + r.length) := by
  intro k
  induction k with
  | zero =>
    intro r hr acc n
    obtain rfl : r = [] := List.eq_nil_of_length_eq_zero (by omega)
    exact ⟨rfl, fun h => by cases h⟩
  | succ k ih =>
    intro r hr acc n
    match r with
    | [] => exact ⟨rfl, fun h => by cases h⟩
    | [c] =>
      unfold quoF
      by_cases h1 : c = 34
      · subst h1
        rw [if_pos rfl, quo_34]
        exact ⟨by simp [tellQ], fun _ => by simp⟩
      rw [if_neg h1]
      by_cases h2 : c = 92
      · subst h2
        rw [if_pos rfl, quo_esc]
        exact ⟨rfl, fun h => by cases h⟩
      rw [if_neg h2]
      cases h3 : inQuoN c
      · rw [if_neg (by decide), quo_bad O m c acc [] h1 h2 h3]
        exact ⟨rfl, fun h => by cases h⟩
      · rw [if_pos rfl, quo_push O m c acc [] h1 h2 h3]
        exact ⟨rfl, fun h => by cases h⟩
    | c :: d :: r =>
      unfold quoF
      by_cases h1 : c = 34
      · subst h1
        rw [if_pos rfl, quo_34]
        exact ⟨by simp [tellQ], fun _ => by simp⟩
      rw [if_neg h1]
      by_cases h2 : c = 92
      · subst h2
        rw [if_pos rfl, quo_esc, esc_step]
        by_cases h3 : d ≠ 34 ∧ d ≠ 92
        · rw [if_pos h3, if_pos h3]
          exact ⟨rfl, fun h => by cases h⟩
        · rw [if_neg h3, if_neg h3]
          obtain ⟨e1, e2⟩ := ih r (by simp at hr; omega) (acc ++ [d]) (n + 2)
          refine ⟨?_, fun h => by have := e2 h; simp; omega⟩
          rw [e1]
          unfold tellQ
          by_cases h4 : (quoF (acc ++ [d]) (n + 2) r).1 = 0
          · rw [if_pos h4, if_pos h4]
            have := e2 h4
            rw [show (quoF (acc ++ [d]) (n + 2) r).2.2 - n = ((quoF (acc ++ [d]) (n + 2) r).2.2 - (n + 2)) + 2 by omega]
            rfl
          · rw [if_neg h4, if_neg h4]
      rw [if_neg h2]
      cases h3 : inQuoN c
      · rw [if_neg (by decide), quo_bad O m c acc _ h1 h2 h3]
        exact ⟨rfl, fun h => by cases h⟩
      · rw [if_pos rfl, quo_push O m c acc _ h1 h2 h3]
        obtain ⟨e1, e2⟩ := ih (d :: r) (by simp at hr ⊢; omega) (acc ++ [c]) (n + 1)
        refine ⟨?_, fun h => by have := e2 h; simp at this ⊢; omega⟩
        rw [e1]
        unfold tellQ
        by_cases h4 : (quoF (acc ++ [c]) (n + 1) (d :: r)).1 = 0
        · rw [if_pos h4, if_pos h4]
          have := e2 h4
          rw [show (quoF (acc ++ [c]) (n + 1) (d :: r)).2.2 - n = ((quoF (acc ++ [c]) (n + 1) (d :: r)).2.2 - (n + 1)) + 1 by omega]
          rfl
        · rw [if_neg h4, if_neg h4]
theorem out_quote (O : List Tk) (r : List Nat) : outL (stS O) (34 :: r) = tellQ O 2 r 0 (quoF [] 0 r) := by
  rw [outL_cons, show stepL (stS O) 34 = (⟨.quo, O, [], 0, true⟩, 0) from rfl, if_pos rfl]
  exact (quo_out O 0 r.length r (Nat.le_refl _) [] 0).1
end Go.Proofs.YtghibofnfjnfcaaGreatDoor
