/-
  Plain laws: texts side by side; the runes' own bytes.
-/
import Derived.Test.YtcddppgnmephnaaDoorSpec
namespace Go.Proofs.YtcddppgnmephnaaDoor
set_option linter.unusedVariables false
open Go.Lib

theorem getD_left (l m : List UInt8) (i : Nat) (h : i < l.length) : (l ++ m).getD i 0 = l.getD i 0 := by
  simp [List.getD, List.getElem?_append_left h]

/-- a rune that is right is the same whatever stands behind. -/
theorem decodeL_append (l m : List UInt8) (hne : l ≠ []) (hv : ¬ ((decodeL l).1 = 65533 ∧ (decodeL l).2 = 1)) : decodeL (l ++ m) = decodeL l := by
  have hl : 0 < l.length := List.length_pos_iff.2 hne
  have g0 := getD_left l m 0 hl
  rw [decodeL_N] at hv
  rw [decodeL_N, decodeL_N, List.length_append]
  have sh := decodeN_shape l.length (l.getD 0 0).toNat (l.getD 1 0).toNat (l.getD 2 0).toNat (l.getD 3 0).toNat
  rw [g0]
  rcases sh with ⟨c, e⟩ | ⟨c1, c2, c3, cv, e⟩ | ⟨c1, c2, c3, c4, cv, cs, e⟩ | ⟨c1, c2, c3, c4, c5, cv, cw, e⟩ | e
  · rw [e]
    unfold decodeN
    rw [if_pos c]
  · rw [getD_left l m 1 c2, e]
    unfold decodeN
    rw [if_neg (by omega), if_pos ⟨c1, by omega, c3⟩, if_pos cv]
  · rw [getD_left l m 1 (by omega), getD_left l m 2 c2, e]
    unfold decodeN
    rw [if_neg (by omega), if_neg (by omega), if_pos ⟨c1, ⟨by omega, c3⟩, by omega, c4⟩, if_pos (by omega)]
  · rw [getD_left l m 1 (by omega), getD_left l m 2 (by omega), getD_left l m 3 c2, e]
    unfold decodeN
    rw [if_neg (by omega), if_neg (by omega), if_neg (by omega), if_pos ⟨c1, ⟨by omega, c3⟩, ⟨by omega, c4⟩, by omega, c5⟩, if_pos (by omega)]
  · rw [e] at hv
    exact absurd ⟨rfl, rfl⟩ hv

theorem append_runes : ∀ (n : Nat) (l m : List UInt8), l.length ≤ n → validD l = true → runesD (l ++ m) = runesD l ++ runesD m ∧ validD (l ++ m) = validD m
  | 0, l, m, h, _ => by
    obtain rfl : l = [] := List.eq_nil_of_length_eq_zero (by omega)
    exact ⟨rfl, rfl⟩
  | n + 1, l, m, h, hv => by
    by_cases hne : l = []
    · subst hne
      exact ⟨rfl, rfl⟩
    · have hw := decodeL_width l
      have hle := decodeL_le l hne
      rw [validD_step l hne] at hv
      have hbad : ¬ ((decodeL l).1 = 65533 ∧ (decodeL l).2 = 1) := fun e => by rw [if_pos e] at hv; cases hv
      rw [if_neg hbad] at hv
      have happ := decodeL_append l m hne hbad
      have hne2 : l ++ m ≠ [] := by simp [hne]
      obtain ⟨i1, i2⟩ := append_runes n (l.drop (decodeL l).2) m (by rw [List.length_drop]; omega) hv
      have hd : (l ++ m).drop (decodeL l).2 = l.drop (decodeL l).2 ++ m := List.drop_append_of_le_length hle
      refine ⟨?_, ?_⟩
      · rw [runesD_step _ hne2, happ, hd, i1, runesD_step l hne]
        rfl
      · rw [validD_step _ hne2, happ, if_neg hbad, hd, i2]

/-- the runes of a right text that ends with a sign below 128 -/
theorem runes_last (c : UInt8) (hc : c.toNat < 128) : ∀ (n : Nat) (a : List UInt8), a.length ≤ n → validD (a ++ [c]) = true → ∃ rs, runesD (a ++ [c]) = rs ++ [c.toNat]
  | 0, a, h, hv => by
    obtain rfl : a = [] := List.eq_nil_of_length_eq_zero (by omega)
    refine ⟨[], ?_⟩
    show runesD [c] = [c.toNat]
    rw [runesD_step _ (by simp), decodeL_ascii c [] hc]
    rfl
  | n + 1, a, h, hv => by
    by_cases hne : a = []
    · subst hne
      refine ⟨[], ?_⟩
      show runesD [c] = [c.toNat]
      rw [runesD_step _ (by simp), decodeL_ascii c [] hc]
      rfl
    · have hne2 : a ++ [c] ≠ [] := by simp
      have hl : 0 < a.length := List.length_pos_iff.2 hne
      have hw := decodeL_width (a ++ [c])
      have hle := decodeL_le (a ++ [c]) hne2
      rw [validD_step _ hne2] at hv
      have hbad : ¬ ((decodeL (a ++ [c])).1 = 65533 ∧ (decodeL (a ++ [c])).2 = 1) := fun e => by rw [if_pos e] at hv; cases hv
      rw [if_neg hbad] at hv
      have hend : (a ++ [c]).getD a.length 0 = c := by simp [List.getD]
      have hk : (decodeL (a ++ [c])).2 ≤ a.length := by
        rw [decodeL_N]
        have hlen : (a ++ [c]).length = a.length + 1 := by simp
        rcases decodeN_shape (a ++ [c]).length ((a ++ [c]).getD 0 0).toNat ((a ++ [c]).getD 1 0).toNat ((a ++ [c]).getD 2 0).toNat ((a ++ [c]).getD 3 0).toNat with ⟨_, e⟩ | ⟨c1, c2, c3, cv, e⟩ | ⟨c1, c2, c3, c4, cv, cs, e⟩ | ⟨c1, c2, c3, c4, c5, cv, cw, e⟩ | e
        · rw [e]; exact hl
        · rw [e]
          rcases Nat.lt_or_ge 1 a.length with h1 | h1
          · exact h1
          · have : a.length = 1 := by omega
            rw [this] at hend
            rw [hend] at c3
            omega
        · rw [e]
          rcases Nat.lt_or_ge 2 a.length with h1 | h1
          · exact h1
          · have : a.length = 2 := by omega
            rw [this] at hend
            rw [hend] at c4
            omega
        · rw [e]
          rcases Nat.lt_or_ge 3 a.length with h1 | h1
          · exact h1
          · have : a.length = 3 := by omega
            rw [this] at hend
            rw [hend] at c5
            omega
        · rw [e]; exact hl
      have hd : (a ++ [c]).drop (decodeL (a ++ [c])).2 = a.drop (decodeL (a ++ [c])).2 ++ [c] := List.drop_append_of_le_length hk
      rw [hd] at hv
      obtain ⟨rs, hrs⟩ := runes_last c hc n (a.drop (decodeL (a ++ [c])).2) (by rw [List.length_drop]; omega) hv
      refine ⟨(decodeL (a ++ [c])).1 :: rs, ?_⟩
      rw [runesD_step _ hne2, hd, hrs]
      rfl

/-! ### the writer with something ahead -/
def addO (o : List UInt8) (w : Wr) : Wr := { w with out := o ++ w.out }
theorem putS_add (o : List UInt8) (w : Wr) (u : Nat) : putS (addO o w) u = addO o (putS w u) := by simp [putS, addO]
theorem openS_add (o : List UInt8) (w : Wr) : openS (addO o w) = addO o (openS w) := by
  cases h : w.inn <;> simp [openS, addO, h]
theorem endS_add (o : List UInt8) (w : Wr) : endS (addO o w) = addO o (endS w) := by
  cases h : w.inn <;> simp [endS, addO, h]
theorem farS_add (o : List UInt8) (w : Wr) (r : Nat) : farS (addO o w) r = addO o (farS w r) := by
  unfold farS
  rw [openS_add]
  split
  · rw [putS_add]
  · rw [putS_add, putS_add]
theorem signS_add (o : List UInt8) (w : Wr) (r : Nat) : signS (addO o w) r = addO o (signS w r) := by
  unfold signS
  rw [endS_add, farS_add]
  split
  · simp [addO]
  · rfl
theorem fold_add (o : List UInt8) : ∀ (rs : List Nat) (w : Wr), rs.foldl signS (addO o w) = addO o (rs.foldl signS w)
  | [], _ => rfl
  | r :: rs, w => by
    simp only [List.foldl_cons]
    rw [signS_add, fold_add o rs]

/-- behind a sign that stands for itself the writer is as it was at first, but for what it wrote -/
theorem sign_shut (w : Wr) (hg : w.Good) (r : Nat) (hp : plainR r = true) : ∃ o, signS w r = addO o w0 := by
  have e : endS w = addO (endS w).out w0 := by
    unfold endS
    by_cases hi : w.inn
    · rw [if_pos hi]
      simp [addO, w0]
    · rw [if_neg hi]
      have hi' : w.inn = false := by simpa using hi
      obtain ⟨z1, z2⟩ := hg.zero hi'
      obtain ⟨o, a, b, i⟩ := w
      simp only at z1 z2 hi'
      subst z1 z2 hi'
      simp [addO, w0]
  refine ⟨(endS w).out ++ (if r = 38 then [r.toUInt8, 45] else [r.toUInt8]), ?_⟩
  unfold signS
  rw [if_pos hp, e]
  simp [addO, w0]

theorem encS_parts (a m : List UInt8) (hv : validD (a ++ [47]) = true) : encS ((a ++ [47]) ++ m) = encS (a ++ [47]) ++ encS m := by
  obtain ⟨h1, _⟩ := append_runes (a ++ [47]).length (a ++ [47]) m (Nat.le_refl _) hv
  obtain ⟨rs, hrs⟩ := runes_last 47 (by decide) a.length a (Nat.le_refl _) hv
  unfold encS
  rw [h1, hrs, List.foldl_append, List.foldl_append]
  have hlt : ∀ r ∈ rs, r ≤ 1114111 := fun r hr => by
    have := runesF_lt (a ++ [47]).length (a ++ [47]) r
    apply this
    show r ∈ runesD (a ++ [47])
    rw [hrs]
    simp [hr]
  obtain ⟨hg, _⟩ := fold_good rs w0 good0 hlt
  obtain ⟨o, ho⟩ := sign_shut (rs.foldl signS w0) hg 47 (by decide)
  have hs : List.foldl signS (List.foldl signS w0 rs) [(47 : UInt8).toNat] = addO o w0 := by
    simp only [List.foldl_cons, List.foldl_nil]
    exact ho
  rw [hs, fold_add, endS_add, endS_add]
  simp [addO, w0, endS]
end Go.Proofs.YtcddppgnmephnaaDoor
