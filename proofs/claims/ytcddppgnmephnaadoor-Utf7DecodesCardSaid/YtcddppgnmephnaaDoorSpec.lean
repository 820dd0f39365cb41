/-
  Modified UTF-7, plain: no model's run in this text: the runes of a text, and the encoding of a text.
-/
import Derived.Test.YtcddppgnmephnaaDoorWr
import Derived.Lib.ValidLaws
import Derived.Lib.RuneBytes
namespace Go.Proofs.YtcddppgnmephnaaDoor
set_option linter.unusedVariables false
open Go.Lib

/-! ### the runes of a text -/
def runesF : Nat → List UInt8 → List Nat
  | 0, _ => []
  | f + 1, l => if l = [] then [] else (decodeL l).1 :: runesF f (l.drop (decodeL l).2)
def runesD (l : List UInt8) : List Nat := runesF l.length l

theorem runesF_nil : ∀ f, runesF f [] = []
  | 0 => rfl
  | f + 1 => by simp [runesF]
theorem runesF_fuel : ∀ (n m : Nat) (l : List UInt8), l.length ≤ n → l.length ≤ m → runesF n l = runesF m l
  | 0, m, l, hn, _ => by
    obtain rfl : l = [] := List.eq_nil_of_length_eq_zero (by omega)
    rw [runesF_nil, runesF_nil]
  | n + 1, 0, l, _, hm => by
    obtain rfl : l = [] := List.eq_nil_of_length_eq_zero (by omega)
    rw [runesF_nil, runesF_nil]
  | n + 1, m + 1, l, hn, hm => by
    unfold runesF
    by_cases hne : l = []
    · simp [hne]
    · have hw := decodeL_width l
      have hl : 0 < l.length := List.length_pos_iff.2 hne
      rw [if_neg hne, if_neg hne, runesF_fuel n m (l.drop (decodeL l).2) (by rw [List.length_drop]; omega) (by rw [List.length_drop]; omega)]
theorem runesD_nil : runesD [] = [] := rfl
theorem runesD_step (l : List UInt8) (hne : l ≠ []) : runesD l = (decodeL l).1 :: runesD (l.drop (decodeL l).2) := by
  have hl : 0 < l.length := List.length_pos_iff.2 hne
  have hw := decodeL_width l
  obtain ⟨n, hn⟩ : ∃ n, l.length = n + 1 := ⟨l.length - 1, by omega⟩
  unfold runesD
  rw [hn]
  show (if l = [] then [] else _) = _
  rw [if_neg hne, runesF_fuel n (l.drop (decodeL l).2).length _ (by rw [List.length_drop]; omega) (Nat.le_refl _)]
theorem runesF_length : ∀ (f : Nat) (l : List UInt8), (runesF f l).length ≤ f
  | 0, _ => by simp [runesF]
  | f + 1, l => by
    unfold runesF
    split
    · simp
    · have := runesF_length f (l.drop (decodeL l).2)
      simp
      omega
theorem runesF_lt : ∀ (f : Nat) (l : List UInt8), ∀ r ∈ runesF f l, r ≤ 1114111
  | 0, _ => by simp [runesF]
  | f + 1, l => by
    unfold runesF
    split
    · simp
    · intro r hr
      rcases List.mem_cons.1 hr with rfl | h
      · exact decodeL_rune l
      · exact runesF_lt f _ r h

def encS (l : List UInt8) : List UInt8 := (endS ((runesD l).foldl signS w0)).out

theorem encS_length (l : List UInt8) : (encS l).length ≤ 8 * l.length + 2 := by
  obtain ⟨a, b⟩ := fold_good (runesD l) w0 good0 (runesF_lt _ _)
  obtain ⟨_, _, c⟩ := endS_good a
  have := runesF_length l.length l
  have e : w0.out.length = 0 := rfl
  unfold encS
  have h2 : (runesD l).length ≤ l.length := this
  omega
end Go.Proofs.YtcddppgnmephnaaDoor
