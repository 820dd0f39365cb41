/-
  The lexer as a plain machine against the reference's way: a literal.
-/
import Derived.Test.YtghibofnfjnfcaaGreatDoorRefP
namespace Go.Proofs.YtghibofnfjnfcaaGreatDoor
set_option linter.unusedVariables false

def digB (c : Nat) : Bool := decide (48 ≤ c) && decide (c ≤ 57)
theorem digB_iff {c : Nat} : digB c = true ↔ 48 ≤ c ∧ c ≤ 57 := by unfold digB; simp
def cntB (k n : Nat) (r : List Nat) : Nat × List Nat × Nat := if (r.take n).any (· == 0) then (9, [], 0) else if r.length < n then (8, [], 0) else (0, r.take n, k + 3 + n)
def cnt3 (ds r3 : List Nat) : Nat × List Nat × Nat := if 16384 < valN ds then (10, [], 0) else cntB ds.length (valN ds) r3
def cnt2 (ds : List Nat) : List Nat → Nat × List Nat × Nat
  | [] => (8, [], 0)
  | d :: r => if d ≠ 10 then (9, [], 0) else cnt3 ds r
def cnt1 (ds : List Nat) : List Nat → Nat × List Nat × Nat
  | [] => (8, [], 0)
  | d :: r => if d ≠ 13 then (9, [], 0) else cnt2 ds r
def cntA (ds : List Nat) : List Nat → Nat × List Nat × Nat
  | [] => (8, [], 0)
  | d :: r => if d ≠ 125 ∨ ds = [] then (9, [], 0) else cnt1 ds r
theorem cntA_cons (ds : List Nat) (d : Nat) (r : List Nat) : cntA ds (d :: r) = if d ≠ 125 ∨ ds = [] then (9, [], 0) else cnt1 ds r := rfl
theorem cnt1_cons (ds : List Nat) (d : Nat) (r : List Nat) : cnt1 ds (d :: r) = if d ≠ 13 then (9, [], 0) else cnt2 ds r := rfl
theorem cnt2_cons (ds : List Nat) (d : Nat) (r : List Nat) : cnt2 ds (d :: r) = if d ≠ 10 then (9, [], 0) else cnt3 ds r := rfl
def cntR (r : List Nat) : Nat × List Nat × Nat := if 1 < (r.takeWhile digB).length ∧ r.head? = some 48 then (9, [], 0) else cntA (r.takeWhile digB) (r.drop (r.takeWhile digB).length)

theorem siz_dig (O : List Tk) (m c : Nat) (acc r : List Nat) (hc : digB c = true) (ha : acc ≠ [48]) : outL ⟨.siz, O, acc, m, true⟩ (c :: r) = outL ⟨.siz, O, acc ++ [c], m, true⟩ r := by
  have hd := digB_iff.1 hc
  have e : stepL ⟨.siz, O, acc, m, true⟩ c = (⟨.siz, O, acc ++ [c], m, true⟩, 0) := by
    show sizS _ c = _
    unfold sizS
    rw [if_pos ⟨hd.1, hd.2, ha⟩]
    rfl
  rw [outL_cons, e, if_pos rfl]
theorem siz_many (O : List Tk) (m h : Nat) (hh : h ≠ 48) (w : List Nat) : ∀ (acc r : List Nat), (∀ x ∈ w, digB x = true) → outL ⟨.siz, O, h :: acc, m, true⟩ (w ++ r) = outL ⟨.siz, O, h :: acc ++ w, m, true⟩ r := by
  induction w with
  | nil => intro acc r _; simp
  | cons c w ih =>
    intro acc r hw
    rw [List.cons_append, siz_dig O m c (h :: acc) _ (hw c (by simp)) (by intro e; simp at e; exact hh e.1), List.cons_append, ih (acc ++ [c]) r (fun x hx => hw x (by simp [hx]))]
    simp
theorem siz_zero (O : List Tk) (m c : Nat) (r : List Nat) (hc : digB c = true) : outL ⟨.siz, O, [48], m, true⟩ (c :: r) = (9, []) := by
  have hd := digB_iff.1 hc
  have e : (stepL ⟨.siz, O, [48], m, true⟩ c).2 = 9 := by
    show (sizS _ c).2 = _
    unfold sizS
    rw [if_neg (fun h => h.2.2 rfl), if_neg (fun h => by omega)]
  rw [outL_cons, if_neg (by rw [e]; decide), e]
theorem lit_out (O : List Tk) : ∀ (r : List Nat) (n : Nat) (acc : List Nat), 0 < n → outL ⟨.lit, O, acc, n, true⟩ r = if (r.take n).any (· == 0) then (9, []) else if r.length < n then (8, []) else outL (stS (O ++ [(3, acc ++ r.take n)])) (r.drop n) := by
  intro r
  induction r with
  | nil =>
    intro n acc hn
    rw [List.take_nil, if_neg (by simp), if_pos (by simpa using hn)]
    rfl
  | cons c r ih =>
    intro n acc hn
    obtain ⟨k, rfl⟩ : ∃ k, n = k + 1 := ⟨n - 1, by omega⟩
    rw [List.take_succ_cons, List.any_cons]
    by_cases hc : c = 0
    · subst hc
      rw [outL_cons, if_neg (by show ¬ (9 : Nat) = 0; decide), if_pos (by simp)]
      rfl
    · have hcb : (c == 0) = false := by simpa using hc
      rw [hcb, Bool.false_or]
      by_cases hk : k = 0
      · subst hk
        have e : stepL ⟨.lit, O, acc, 0 + 1, true⟩ c = (⟨.btw, O ++ [(3, acc ++ [c])], [], 0, false⟩, 0) := by
          show litS _ c = _
          simp [litS, hc, tellS, pushT]
        rw [outL_cons, e, if_pos rfl, out_st]
        simp
      · have e : stepL ⟨.lit, O, acc, k + 1, true⟩ c = (⟨.lit, O, acc ++ [c], k, true⟩, 0) := by
          show litS _ c = _
          simp [litS, hc, hk, pushT]
        rw [outL_cons, e, if_pos rfl, ih k (acc ++ [c]) (by omega)]
        simp
/-- the size is read -/
theorem siz_end (O : List Tk) (ds r : List Nat) (hr : r = [] ∨ ∃ c r', r = c :: r' ∧ digB c = false) : outL ⟨.siz, O, ds, 0, true⟩ r = tellQ O 3 r ds.length (cntA ds r) := by
  rcases hr with rfl | ⟨d, r1, rfl, hd⟩
  · rfl
  · have hnd : ¬ (48 ≤ d ∧ d ≤ 57) := by intro h; rw [digB_iff.2 h] at hd; cases hd
    by_cases h1 : d ≠ 125 ∨ ds = []
    · have e : (stepL ⟨.siz, O, ds, 0, true⟩ d).2 = 9 := by
        show (sizS _ d).2 = _
        unfold sizS
        rw [if_neg (fun h => hnd ⟨h.1, h.2.1⟩), if_neg (by rintro ⟨h2, h3⟩; rcases h1 with h | h; exact h h2; exact h3 h)]
      rw [cntA_cons, outL_cons, if_neg (by rw [e]; decide), e, if_pos h1]
      rfl
    · have h125 : d = 125 := by by_cases h : d = 125; exact h; exact absurd (.inl h) h1
      have hne : ds ≠ [] := fun h => h1 (.inr h)
      subst h125
      have e : stepL ⟨.siz, O, ds, 0, true⟩ 125 = (⟨.car, O, ds, 0, true⟩, 0) := by
        show sizS _ 125 = _
        unfold sizS
        rw [if_neg (fun h => by omega), if_pos ⟨rfl, hne⟩]
      rw [outL_cons, e, if_pos rfl]
      rw [cntA_cons, if_neg h1]
      cases r1 with
      | nil => rfl
      | cons d2 r2 =>
        rw [cnt1_cons]
        by_cases h2 : d2 ≠ 13
        · have e : (stepL ⟨.car, O, ds, 0, true⟩ d2).2 = 9 := by
            show (carS _ d2).2 = _
            unfold carS
            rw [if_pos h2]
          rw [outL_cons, if_neg (by rw [e]; decide), e, if_pos h2]
          rfl
        · obtain rfl : d2 = 13 := by by_cases h : d2 = 13; exact h; exact absurd h h2
          rw [outL_cons, show stepL ⟨.car, O, ds, 0, true⟩ 13 = (⟨.fee, O, ds, 0, true⟩, 0) from rfl, if_pos rfl, if_neg h2]
          cases r2 with
          | nil => rfl
          | cons d3 r3 =>
            rw [cnt2_cons]
            by_cases h3 : d3 ≠ 10
            · have e : (stepL ⟨.fee, O, ds, 0, true⟩ d3).2 = 9 := by
                show (feeS _ d3).2 = _
                unfold feeS
                rw [if_pos h3]
              rw [outL_cons, if_neg (by rw [e]; decide), e, if_pos h3]
              rfl
            · obtain rfl : d3 = 10 := by by_cases h : d3 = 10; exact h; exact absurd h h3
              rw [if_neg h3]
              unfold cnt3
              by_cases h4 : 16384 < valN ds
              · have e : (stepL ⟨.fee, O, ds, 0, true⟩ 10).2 = 10 := by
                  show (feeS _ 10).2 = _
                  unfold feeS
                  rw [if_neg (by decide), if_pos h4]
                rw [outL_cons, if_neg (by rw [e]; decide), e, if_pos h4]
                rfl
              · rw [if_neg h4]
                by_cases h5 : valN ds = 0
                · have e : stepL ⟨.fee, O, ds, 0, true⟩ 10 = (⟨.btw, O ++ [(3, [])], [], 0, false⟩, 0) := by
                    show feeS _ 10 = _
                    unfold feeS
                    rw [if_neg (by decide), if_neg h4, if_pos h5]
                    rfl
                  rw [outL_cons, e, if_pos rfl, out_st, h5]
                  unfold cntB
                  rw [List.take_zero, if_neg (by simp), if_neg (by omega)]
                  unfold tellQ
                  rw [if_pos rfl]
                  simp only
                  rw [show ds.length + 3 + 0 - ds.length = 3 by omega]
                  rfl
                · have e : stepL ⟨.fee, O, ds, 0, true⟩ 10 = (⟨.lit, O, [], valN ds, true⟩, 0) := by
                    show feeS _ 10 = _
                    unfold feeS
                    rw [if_neg (by decide), if_neg h4, if_neg h5]
                  rw [outL_cons, e, if_pos rfl, lit_out O r3 (valN ds) [] (by omega)]
                  unfold cntB
                  by_cases h6 : ((r3.take (valN ds)).any (· == 0)) = true
                  · rw [if_pos h6, if_pos h6]; rfl
                  rw [if_neg h6, if_neg h6]
                  by_cases h7 : r3.length < valN ds
                  · rw [if_pos h7, if_pos h7]; rfl
                  rw [if_neg h7, if_neg h7]
                  unfold tellQ
                  rw [if_pos rfl]
                  simp only [List.nil_append]
                  rw [show ds.length + 3 + valN ds - ds.length = valN ds + 1 + 1 + 1 by omega]
                  rfl
theorem cntA_pos (ds r : List Nat) (h : (cntA ds r).1 = 0) : ds.length ≤ (cntA ds r).2.2 ∧ (cntA ds r).2.2 ≤ ds.length + r.length := by
  cases r with
  | nil => cases h
  | cons d r1 =>
    rw [cntA_cons] at h ⊢
    by_cases h1 : d ≠ 125 ∨ ds = []
    · rw [if_pos h1] at h; cases h
    rw [if_neg h1] at h ⊢
    cases r1 with
    | nil => cases h
    | cons d2 r2 =>
      rw [cnt1_cons] at h ⊢
      by_cases h2 : d2 ≠ 13
      · rw [if_pos h2] at h; cases h
      rw [if_neg h2] at h ⊢
      cases r2 with
      | nil => cases h
      | cons d3 r3 =>
        rw [cnt2_cons] at h ⊢
        by_cases h3 : d3 ≠ 10
        · rw [if_pos h3] at h; cases h
        rw [if_neg h3] at h ⊢
        unfold cnt3 at h ⊢
        by_cases h4 : 16384 < valN ds
        · rw [if_pos h4] at h; cases h
        rw [if_neg h4] at h ⊢
        unfold cntB at h ⊢
        by_cases h5 : ((r3.take (valN ds)).any (· == 0)) = true
        · rw [if_pos h5] at h; cases h
        rw [if_neg h5] at h ⊢
        by_cases h6 : r3.length < valN ds
        · rw [if_pos h6] at h; cases h
        rw [if_neg h6]
        simp only [List.length_cons]
        omega
theorem takeWhile_split (r : List Nat) : r = r.takeWhile digB ++ r.drop (r.takeWhile digB).length ∧ (∀ x ∈ r.takeWhile digB, digB x = true) ∧ (r.drop (r.takeWhile digB).length = [] ∨ ∃ c r', r.drop (r.takeWhile digB).length = c :: r' ∧ digB c = false) := by
  induction r with
  | nil => exact ⟨rfl, by simp, .inl rfl⟩
  | cons c r ih =>
    cases h : digB c
    · rw [List.takeWhile_cons, h]
      exact ⟨rfl, by simp, .inr ⟨c, r, rfl, h⟩⟩
    · rw [List.takeWhile_cons, h]
      obtain ⟨h1, h2, h3⟩ := ih
      refine ⟨?_, ?_, h3⟩
      · simp only [if_true, List.length_cons, List.drop_succ_cons, List.cons_append]
        rw [← h1]
      · intro x hx
        simp at hx
        rcases hx with rfl | hx
        · exact h
        · exact h2 x hx
theorem out_brace (O : List Tk) (r : List Nat) : outL (stS O) (123 :: r) = tellQ O 3 r 0 (cntR r) := by
  rw [outL_cons, show stepL (stS O) 123 = (⟨.siz, O, [], 0, true⟩, 0) from rfl, if_pos rfl]
  obtain ⟨h1, h2, h3⟩ := takeWhile_split r
  unfold cntR
  generalize r.takeWhile digB = ds at *
  generalize hq : r.drop ds.length = q at *
  have key : ∀ (he : ¬ (1 < ds.length ∧ r.head? = some 48)), outL ⟨.siz, O, [], 0, true⟩ r = outL ⟨.siz, O, ds, 0, true⟩ q := by
    intro he
    rw [h1]
    cases ds with
    | nil => rfl
    | cons c w =>
      have hc := h2 c (by simp)
      rw [List.cons_append, siz_dig O 0 c [] _ hc (by decide), List.nil_append]
      cases w with
      | nil => rfl
      | cons d w =>
        have h48 : c ≠ 48 := fun e => he ⟨by simp, by rw [h1, e]; rfl⟩
        exact siz_many O 0 c h48 (d :: w) [] q (fun x hx => h2 x (by simp at hx ⊢; right; exact hx))
  by_cases he : 1 < ds.length ∧ r.head? = some 48
  · rw [if_pos he]
    rw [h1] at he ⊢
    match ds, h2, he with
    | c :: d :: w, h2, he =>
      have : c = 48 := by have := he.2; simpa using this
      subst this
      have e1 := siz_dig O 0 48 [] (d :: w ++ q) (by decide) (by decide)
      rw [List.cons_append, e1, List.nil_append, List.cons_append, siz_zero O 0 d _ (h2 d (by simp))]
      rfl
    | [c], h2, he => exact absurd he.1 (by simp)
    | [], h2, he => exact absurd he.1 (by simp)
  · rw [if_neg he, key he, siz_end O ds q h3]
    unfold tellQ
    by_cases h0 : (cntA ds q).1 = 0
    · rw [if_pos h0, if_pos h0]
      have h4 := (cntA_pos ds q h0).1
      have hgen : ∀ X, ds.length ≤ X → q.drop (X - ds.length) = r.drop (X - 0) := by
        intro X hX
        rw [← hq, List.drop_drop]
        congr 1
        omega
      have e := hgen _ h4
      rw [e]
    · rw [if_neg h0, if_neg h0]
end Go.Proofs.YtghibofnfjnfcaaGreatDoor
