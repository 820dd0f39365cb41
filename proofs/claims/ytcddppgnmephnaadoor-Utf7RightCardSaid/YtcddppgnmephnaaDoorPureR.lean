/-
  Plain laws: which signs no name has, by runes and by bytes.
-/
import Derived.Test.YtcddppgnmephnaaDoorPure
import Derived.Test.YtcddppgnmephnaaDoorRight
namespace Go.Proofs.YtcddppgnmephnaaDoor
set_option linter.unusedVariables false
open Go.Lib

def badB : Nat → List UInt8 → Bool
  | _, [] => false
  | b, c :: cs => badC b c.toNat || badB c.toNat cs

theorem badC_high (a r : Nat) (h : 128 ≤ r) : badC a r = false := by
  simp [badC]
  omega
theorem badC_ahead (a b r : Nat) (h : a = 47 ↔ b = 47) : badC a r = badC b r := by
  have : (a == 47) = (b == 47) := by rw [Bool.eq_iff_iff, beq_iff_eq, beq_iff_eq]; exact h
  simp [badC, this]
/-- bytes from 128 on are passed over -/
theorem badB_high : ∀ (k : Nat) (b : Nat) (l : List UInt8), 0 < k → k ≤ l.length → (∀ i, i < k → 128 ≤ (l.getD i 0).toNat) → ∃ x, 128 ≤ x ∧ badB b l = badB x (l.drop k)
  | 0, _, _, h, _, _ => absurd h (by omega)
  | k + 1, b, [], _, h, _ => absurd h (by simp)
  | k + 1, b, c :: cs, _, h, hb => by
    have h0 : 128 ≤ c.toNat := hb 0 (by omega)
    have e : badB b (c :: cs) = badB c.toNat cs := by simp [badB, badC_high b c.toNat h0]
    rw [e]
    by_cases hk : k = 0
    · subst hk
      exact ⟨c.toNat, h0, rfl⟩
    · obtain ⟨x, hx, ex⟩ := badB_high k c.toNat cs (by omega) (by simp at h; omega) (fun i hi => hb (i + 1) (by omega))
      exact ⟨x, hx, by rw [ex]; rfl⟩

theorem bad_same : ∀ (n : Nat) (a b : Nat) (l : List UInt8), l.length ≤ n → validD l = true → (a = 47 ↔ b = 47) → badR a (runesD l) = badB b l
  | 0, a, b, l, h, _, _ => by
    obtain rfl : l = [] := List.eq_nil_of_length_eq_zero (by omega)
    rfl
  | n + 1, a, b, l, h, hv, hab => by
    by_cases hne : l = []
    · subst hne; rfl
    · obtain ⟨c, cs, rfl⟩ := List.exists_cons_of_ne_nil hne
      by_cases hc : c.toNat < 128
      · rw [runesD_step _ hne, decodeL_ascii c cs hc]
        rw [validD_cons c cs hc] at hv
        simp only [badR, badB]
        rw [badC_ahead a b c.toNat hab]
        congr 1
        exact bad_same n c.toNat c.toNat cs (by simp at h; omega) hv Iff.rfl
      · have hw := decodeL_width (c :: cs)
        have hle := decodeL_le (c :: cs) hne
        rw [validD_step _ hne] at hv
        have hbad : ¬ ((decodeL (c :: cs)).1 = 65533 ∧ (decodeL (c :: cs)).2 = 1) := fun e => by rw [if_pos e] at hv; cases hv
        rw [if_neg hbad] at hv
        rw [runesD_step _ hne]
        have hN := decodeL_N (c :: cs)
        have h0 : ((c :: cs).getD 0 0) = c := rfl
        have key : 128 ≤ (decodeL (c :: cs)).1 ∧ ∀ i, i < (decodeL (c :: cs)).2 → 128 ≤ ((c :: cs).getD i 0).toNat := by
          rw [hN] at hbad ⊢
          rcases decodeN_shape (c :: cs).length ((c :: cs).getD 0 0).toNat ((c :: cs).getD 1 0).toNat ((c :: cs).getD 2 0).toNat ((c :: cs).getD 3 0).toNat with ⟨c1, e⟩ | ⟨c1, c2, c3, cv, e⟩ | ⟨c1, c2, c3, c4, cv, cs', e⟩ | ⟨c1, c2, c3, c4, c5, cv, cw, e⟩ | e
          · rw [h0] at c1; omega
          · rw [e]
            refine ⟨cv, fun i hi => ?_⟩
            simp only at hi
            match i, hi with
            | 0, _ => omega
            | 1, _ => omega
          · rw [e]
            refine ⟨by show 128 ≤ _; simp only; omega, fun i hi => ?_⟩
            simp only at hi
            match i, hi with
            | 0, _ => omega
            | 1, _ => omega
            | 2, _ => omega
          · rw [e]
            refine ⟨by show 128 ≤ _; simp only; omega, fun i hi => ?_⟩
            simp only at hi
            match i, hi with
            | 0, _ => omega
            | 1, _ => omega
            | 2, _ => omega
            | 3, _ => omega
          · rw [e] at hbad
            exact absurd ⟨rfl, rfl⟩ hbad
        obtain ⟨x, hx, ex⟩ := badB_high (decodeL (c :: cs)).2 b (c :: cs) (by omega) hle key.2
        rw [ex]
        simp only [badR, badC_high a _ key.1, Bool.false_or]
        exact bad_same n _ x ((c :: cs).drop (decodeL (c :: cs)).2) (by rw [List.length_drop]; omega) hv ⟨fun e => by omega, fun e => by omega⟩
end Go.Proofs.YtcddppgnmephnaaDoor
