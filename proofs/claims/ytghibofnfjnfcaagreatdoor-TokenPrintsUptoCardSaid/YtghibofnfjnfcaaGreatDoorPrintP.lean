/-
  What Print makes of tokens, as a plain function; it is taken back by the lexer, and what the lexer takes is printed as itself.
-/
import Derived.Test.YtghibofnfjnfcaaGreatDoorCntP
namespace Go.Proofs.YtghibofnfjnfcaaGreatDoor
set_option linter.unusedVariables false

def escL (t : List Nat) : List Nat := t.flatMap fun c => if c = 34 ∨ c = 92 then [92, c] else [c]
def decL (n : Nat) : List Nat := if h : n < 10 then [48 + n] else decL (n / 10) ++ [48 + n % 10]
theorem decL_lt {n : Nat} (h : n < 10) : decL n = [48 + n] := by rw [decL, dif_pos h]
theorem decL_ge {n : Nat} (h : ¬ n < 10) : decL n = decL (n / 10) ++ [48 + n % 10] := by rw [decL, dif_neg h]
theorem decL_dig (n : Nat) : ∀ x ∈ decL n, 48 ≤ x ∧ x ≤ 57 := by
  induction n using Nat.strongRecOn with
  | _ n ih =>
    by_cases h : n < 10
    · rw [decL_lt h]; intro x hx; simp at hx; omega
    · rw [decL_ge h]
      intro x hx
      rcases List.mem_append.1 hx with hx | hx
      · exact ih (n / 10) (by omega) x hx
      · simp at hx; omega
theorem decL_ne (n : Nat) : decL n ≠ [] := by
  by_cases h : n < 10
  · rw [decL_lt h]; simp
  · rw [decL_ge h]; simp
theorem valN_snoc (l : List Nat) (d : Nat) : valN (l ++ [d]) = valN l * 10 + (d - 48) := by unfold valN; rw [List.foldl_append]; rfl
theorem valN_dec (n : Nat) : valN (decL n) = n := by
  induction n using Nat.strongRecOn with
  | _ n ih =>
    by_cases h : n < 10
    · rw [decL_lt h]; simp [valN]
    · rw [decL_ge h, valN_snoc, ih (n / 10) (by omega)]; omega
/-- digits without a 0 ahead -/
def NoZero (l : List Nat) : Prop := l = [48] ∨ l.head? ≠ some 48
theorem head_snoc {l : List Nat} (h : l ≠ []) (d : Nat) : (l ++ [d]).head? = l.head? := by
  cases l with
  | nil => exact absurd rfl h
  | cons a r => rfl
theorem decL_head {n : Nat} (h : 0 < n) : (decL n).head? ≠ some 48 := by
  induction n using Nat.strongRecOn with
  | _ n ih =>
    by_cases h10 : n < 10
    · rw [decL_lt h10]; simp; omega
    · rw [decL_ge h10, head_snoc (decL_ne _)]
      exact ih (n / 10) (by omega) (by omega)
theorem dec_valN {l : List Nat} (h0 : l ≠ []) (hd : ∀ x ∈ l, 48 ≤ x ∧ x ≤ 57) (hz : NoZero l) : decL (valN l) = l := by
  have key : ∀ k (l : List Nat), l.length ≤ k → l ≠ [] → (∀ x ∈ l, 48 ≤ x ∧ x ≤ 57) → l.head? ≠ some 48 → 0 < valN l ∧ decL (valN l) = l := by
    intro k
    induction k with
    | zero => intro l hl h0; exact absurd (List.length_eq_zero_iff.1 (by omega)) h0
    | succ k ih =>
      intro l hl h0 hd hz
      rcases List.eq_nil_or_concat l with rfl | ⟨m, d, rfl⟩
      · exact absurd rfl h0
      · rw [List.concat_eq_append] at *
        have hdd := hd d (by simp)
        by_cases hm : m = []
        · subst hm
          simp only [List.nil_append, List.head?_cons, ne_eq, Option.some.injEq] at hz
          have : valN ([] ++ [d]) = d - 48 := by simp [valN]
          rw [this]
          refine ⟨by omega, ?_⟩
          rw [decL_lt (by omega)]
          simp; omega
        · rw [head_snoc hm] at hz
          obtain ⟨h1, h2⟩ := ih m (by simp at hl; omega) hm (fun x hx => hd x (by simp [hx])) hz
          rw [valN_snoc]
          refine ⟨by omega, ?_⟩
          rw [decL_ge (by omega), show (valN m * 10 + (d - 48)) / 10 = valN m by omega, h2, show (valN m * 10 + (d - 48)) % 10 = d - 48 by omega, show 48 + (d - 48) = d by omega]
  rcases hz with rfl | hz
  · rw [show valN [48] = 0 by rfl]; exact decL_lt (by omega)
  · exact (key l.length l (Nat.le_refl _) h0 hd hz).2

def showT (t : Tk) : List Nat :=
  if t.1 = 2 then 34 :: escL t.2 ++ [34] else if t.1 = 3 then 123 :: decL t.2.length ++ [125, 13, 10] ++ t.2
  else if t.1 = 4 then [40] else if t.1 = 5 then [41] else if t.1 = 6 then [32] else if t.1 = 7 then [91] else if t.1 = 8 then [93] else t.2
def atomL (t : List Nat) : Bool := t.all inAtomN && !t.isEmpty
def quoL (t : List Nat) : Bool := t.all inQuoN
def litL (t : List Nat) : Bool := decide (t.length ≤ 16384) && t.all (· != 0)
def rightT (t : Tk) : Bool :=
  if t.1 = 1 then atomL t.2 else if t.1 = 2 then quoL t.2 else if t.1 = 3 then litL t.2
  else if 4 ≤ t.1 ∧ t.1 ≤ 8 then t.2.isEmpty else false
/-- no two atoms side by side; p: one is ahead -/
def apartL : Bool → List Tk → Bool
  | _, [] => true
  | p, t :: r => (!(p && t.1 == 1)) && apartL (t.1 == 1) r
/-- what is printed so far: the first fault ends it -/
def printL (l : List Tk) : Option (List Nat) := if l.all rightT && apartL false l then some (l.flatMap showT) else none

theorem esc_out (O : List Tk) (m : Nat) (r : List Nat) : ∀ (t acc : List Nat), (∀ c ∈ t, inQuoN c = true) → outL ⟨.quo, O, acc, m, true⟩ (escL t ++ 34 :: r) = outL (stS (O ++ [(2, acc ++ t)])) r := by
  intro t
  induction t with
  | nil => intro acc _; rw [List.append_nil]; exact quo_34 O m acc r
  | cons c t ih =>
    intro acc h
    have hc := h c (by simp)
    have ht := ih (acc ++ [c]) (fun x hx => h x (by simp [hx]))
    rw [List.append_assoc] at ht
    unfold escL at ht ⊢
    rw [List.flatMap_cons]
    by_cases h2 : c = 34 ∨ c = 92
    · rw [if_pos h2]
      simp only [List.cons_append, List.nil_append]
      rw [quo_esc, esc_step, if_neg (by omega)]
      exact ht
    · rw [if_neg h2]
      simp only [List.cons_append, List.nil_append]
      rw [quo_push O m c acc _ (fun e => h2 (.inl e)) (fun e => h2 (.inr e)) hc]
      exact ht
theorem siz_close (O : List Tk) (acc r : List Nat) (h0 : acc ≠ []) (hv : valN acc ≤ 16384) : outL ⟨.siz, O, acc, 0, true⟩ (125 :: 13 :: 10 :: r) = if valN acc = 0 then outL (stS (O ++ [(3, [])])) r else outL ⟨.lit, O, [], valN acc, true⟩ r := by
  rw [outL_cons, show stepL ⟨.siz, O, acc, 0, true⟩ 125 = (⟨.car, O, acc, 0, true⟩, 0) by simp [stepL, sizS, h0]]
  simp only [if_true]
  rw [outL_cons, show stepL ⟨.car, O, acc, 0, true⟩ 13 = (⟨.fee, O, acc, 0, true⟩, 0) by simp [stepL, carS]]
  simp only [if_true]
  rw [outL_cons]
  by_cases hz : valN acc = 0
  · rw [show stepL ⟨.fee, O, acc, 0, true⟩ 10 = (⟨.btw, O ++ [(3, [])], [], 0, false⟩, 0) by simp [stepL, feeS, hz, tellS], if_pos hz]
    simp only [if_true]
    exact out_st _ _ _
  · rw [show stepL ⟨.fee, O, acc, 0, true⟩ 10 = (⟨.lit, O, [], valN acc, true⟩, 0) by simp [stepL, feeS, hz]; omega, if_neg hz]
    simp only [if_true]
/-- one token that is printed is taken back -/
theorem show_out (O : List Tk) (t : Tk) (r : List Nat) (h : rightT t = true) (ha : t.1 = 1 → r = [] ∨ ∃ c r', r = c :: r' ∧ inAtomN c = false) : outL (stS O) (showT t ++ r) = outL (stS (O ++ [t])) r := by
  obtain ⟨k, t⟩ := t
  unfold rightT at h
  unfold showT
  simp only at h ha ⊢
  by_cases h1 : k = 1
  · subst h1
    simp only [if_true] at h
    simp only [Nat.reduceEqDiff, if_false]
    unfold atomL at h
    simp only [Bool.and_eq_true, List.all_eq_true, Bool.not_eq_true', List.isEmpty_eq_false_iff] at h
    obtain ⟨c, t', rfl⟩ := List.exists_cons_of_ne_nil h.2
    have hc := h.1 c (by simp)
    obtain ⟨n1, n2, n3⟩ := atom_not hc
    rw [List.cons_append, outL_cons, show stepL (stS O) c = (⟨.atom, O, [c], 0, false⟩, 0) by simp [stepL, stS, ls0, betS, n1, n2, n3, hc, pushT]]
    simp only [if_true]
    rw [out_atoms O 0 t' [c] r (fun x hx => h.1 x (by simp [hx]))]
    exact out_atom_end O 0 _ r (by simp) (ha rfl)
  · by_cases h2 : k = 2
    · subst h2
      simp only [Nat.reduceEqDiff, if_false, if_true] at h ⊢
      unfold quoL at h
      rw [List.all_eq_true] at h
      rw [show (34 :: escL t ++ [34]) ++ r = 34 :: (escL t ++ 34 :: r) by simp, outL_cons, show stepL (stS O) 34 = (⟨.quo, O, [], 0, true⟩, 0) by rfl]
      simp only [if_true]
      rw [esc_out O 0 r t [] h, List.nil_append]
    · by_cases h3 : k = 3
      · subst h3
        simp only [Nat.reduceEqDiff, if_false, if_true] at h ⊢
        unfold litL at h
        simp only [Bool.and_eq_true, decide_eq_true_eq, List.all_eq_true, bne_iff_ne, ne_eq] at h
        rw [show (123 :: decL t.length ++ [125, 13, 10] ++ t) ++ r = 123 :: (decL t.length ++ 125 :: 13 :: 10 :: (t ++ r)) by simp, outL_cons, show stepL (stS O) 123 = (⟨.siz, O, [], 0, true⟩, 0) by rfl]
        simp only [if_true]
        have hdig := decL_dig t.length
        have hsz : outL ⟨.siz, O, [], 0, true⟩ (decL t.length ++ 125 :: 13 :: 10 :: (t ++ r)) = outL ⟨.siz, O, decL t.length, 0, true⟩ (125 :: 13 :: 10 :: (t ++ r)) := by
          obtain ⟨a, q, hq⟩ := List.exists_cons_of_ne_nil (decL_ne t.length)
          rw [hq] at hdig ⊢
          have hda := hdig a (by simp)
          rw [List.cons_append, siz_dig O 0 a [] _ (digB_iff.2 hda) (by simp), List.nil_append]
          by_cases hz : t.length = 0
          · have : decL t.length = [48] := by rw [hz]; exact decL_lt (by omega)
            rw [this] at hq
            simp only [List.cons.injEq] at hq
            obtain ⟨rfl, rfl⟩ := hq
            rfl
          · have hne := decL_head (n := t.length) (by omega)
            rw [hq] at hne
            simp only [List.head?_cons, ne_eq, Option.some.injEq] at hne
            exact siz_many O 0 a hne q [] _ (fun x hx => digB_iff.2 (hdig x (by simp [hx])))
        rw [hsz, siz_close O _ _ (decL_ne _) (by rw [valN_dec]; exact h.1), valN_dec]
        by_cases hz : t.length = 0
        · rw [if_pos hz]
          have := List.length_eq_zero_iff.1 hz
          subst this
          rfl
        · rw [if_neg hz, lit_out O (t ++ r) t.length [] (by omega), List.take_left, List.drop_left]
          rw [if_neg (by
            intro e
            rw [List.any_eq_true] at e
            obtain ⟨x, hx, e0⟩ := e
            exact h.2 x hx (by simpa using e0)), if_neg (by simp), List.nil_append]
      · rw [if_neg h1, if_neg h2, if_neg h3] at h
        rw [if_neg h2, if_neg h3]
        split at h
        · rename_i hk
          have ht : t = [] := List.isEmpty_iff.1 h
          subst ht
          have hk2 : k = 4 ∨ k = 5 ∨ k = 6 ∨ k = 7 ∨ k = 8 := by omega
          rcases hk2 with rfl | rfl | rfl | rfl | rfl <;> simp only [Nat.reduceEqDiff, if_false, if_true] <;> exact out_alone O _ r (by decide)
        · cases h
theorem show_first {t : Tk} (h : rightT t = true) (h1 : t.1 ≠ 1) : ∃ c r, showT t = c :: r ∧ inAtomN c = false := by
  obtain ⟨k, t⟩ := t
  unfold rightT at h
  unfold showT
  simp only at h h1 ⊢
  rw [if_neg h1] at h
  by_cases h2 : k = 2
  · subst h2; exact ⟨34, _, rfl, rfl⟩
  · by_cases h3 : k = 3
    · subst h3; exact ⟨123, _, rfl, rfl⟩
    · rw [if_neg h2, if_neg h3] at h
      rw [if_neg h2, if_neg h3]
      split at h
      · rename_i hk
        have hk2 : k = 4 ∨ k = 5 ∨ k = 6 ∨ k = 7 ∨ k = 8 := by omega
        rcases hk2 with rfl | rfl | rfl | rfl | rfl
        · exact ⟨40, [], rfl, rfl⟩
        · exact ⟨41, [], rfl, rfl⟩
        · exact ⟨32, [], rfl, rfl⟩
        · exact ⟨91, [], rfl, rfl⟩
        · exact ⟨93, [], rfl, rfl⟩
      · cases h
theorem back_out (l : List Tk) : ∀ (p : Bool) (O : List Tk), l.all rightT = true → apartL p l = true → outL (stS O) (l.flatMap showT) = (0, O ++ l) := by
  induction l with
  | nil => intro p O _ _; rw [List.flatMap_nil, outL_nil, List.append_nil]; simp [finL, stS, ls0]
  | cons t r ih =>
    intro p O h1 h2
    rw [List.all_cons, Bool.and_eq_true] at h1
    unfold apartL at h2
    rw [Bool.and_eq_true] at h2
    rw [List.flatMap_cons, show_out O t _ h1.1 ?_, ih _ _ h1.2 h2.2, List.append_assoc]
    · rfl
    · intro hk
      cases r with
      | nil => exact .inl rfl
      | cons u r' =>
        right
        have hu : rightT u = true := by have := h1.2; rw [List.all_cons, Bool.and_eq_true] at this; exact this.1
        have hn : u.1 ≠ 1 := by
          have := h2.2
          unfold apartL at this
          rw [Bool.and_eq_true] at this
          intro e
          rw [hk, e] at this
          exact absurd this.1 (by decide)
        obtain ⟨c, q, hq, hc⟩ := show_first hu hn
        exact ⟨c, q ++ r'.flatMap showT, by rw [List.flatMap_cons, hq, List.cons_append], hc⟩
/-- what is printed is taken back -/
theorem print_back {l : List Tk} {x : List Nat} (h : printL l = some x) : lexS x = (0, l) := by
  unfold printL at h
  split at h
  · rename_i hr
    rw [Bool.and_eq_true] at hr
    cases h
    rw [lexS_out, back_out l false [] hr.1 hr.2, List.nil_append]
  · cases h
end Go.Proofs.YtghibofnfjnfcaaGreatDoor
