/-
  What a feed's machine makes of lines, and of a literal.
-/
import Derived.Test.YtgafalobbhoaoaaRAnn
namespace Go.Proofs.Ytgafalobbhoaoaa
set_option linter.unusedVariables false

/-- a state with more bytes of a line -/
def pushL (s : St) (u : List Nat) : St := { s with H := s.H ++ u, len := s.len + u.length, ahead := u.foldl (fun _ x => x) s.ahead }
theorem run_push (u : List Nat) (R : List Nat) (s : St) (hm : s.m = .line) (hu : ∀ x ∈ u, x ≠ 10) (hl : s.len + u.length ≤ 4096) : runS s (u ++ R) = runS (pushL s u) R := by
  induction u generalizing s with
  | nil => simp [pushL]
  | cons x u ih =>
    have hx := hu x (by simp)
    have hst : stepS s x = (pushS s x, 0) := by
      unfold stepS
      rw [hm]
      simp only
      unfold lineS
      simp only [List.length_cons] at hl
      rw [if_neg (by omega), if_pos (by unfold endsB; simp [hx])]
    rw [List.cons_append]
    conv => lhs; unfold runS
    rw [hst]
    simp only [if_true]
    have := ih (pushS s x) hm (fun y hy => hu y (by simp [hy])) (by simp only [List.length_cons] at hl; show s.len + 1 + u.length ≤ 4096; omega)
    rw [this]
    congr 1
    unfold pushL pushS
    simp [List.append_assoc]
    omega

/-- a whole line, behind whatever stands ahead in the command -/
theorem run_line (u : List Nat) (R : List Nat) (s : St) (hm : s.m = .line) (hseg : s.seg = s.H.length) (hu : ∀ x ∈ u, x ≠ 10) (hl : s.len + u.length + 2 ≤ 4096) :
    runS s (u ++ 13 :: 10 :: R) = match annP u with
      | none => (st0, R, 1, s.H ++ u)
      | some n => if 16384 < n ∨ s.lits = 8 then (st0, R, 3, []) else (nextS { s with H := s.H ++ u ++ [13, 10], len := s.len + u.length + 2, ahead := 10, lits := s.lits + 1, left := n }, R, 2, []) := by
  have h1 : u ++ 13 :: 10 :: R = (u ++ [13]) ++ 10 :: R := by simp
  rw [h1, run_push (u ++ [13]) _ s hm (fun x hx => by
    rcases List.mem_append.1 hx with h | h
    · exact hu x h
    · simp at h; omega) (by simp; omega)]
  obtain ⟨t, ht⟩ : ∃ t, t = pushL s (u ++ [13]) := ⟨_, rfl⟩
  rw [← ht]
  have tm : t.m = .line := by rw [ht]; exact hm
  have tH : t.H = s.H ++ u ++ [13] := by rw [ht]; simp [pushL]
  have tl : t.len = s.len + u.length + 1 := by rw [ht]; simp [pushL]; omega
  have ta : t.ahead = 13 := by rw [ht]; simp [pushL, List.foldl_append]
  have tg : t.seg = s.H.length := by rw [ht]; exact hseg
  have tli : t.lits = s.lits := by rw [ht]; rfl
  have tp : partS (pushS t 10) = u := by
    unfold partS pushS
    simp only [tH, tg]
    have e0 : s.H ++ u ++ [13] ++ [10] = s.H ++ (u ++ [13, 10]) := by simp
    have e : (s.H ++ (u ++ [13, 10])).length - 2 - s.H.length = u.length := by simp; omega
    rw [e0, e, List.drop_left, List.take_left]
  have hst : stepS t 10 = (match annP u with
      | none => (pushS t 10, 1)
      | some n => if 16384 < n ∨ s.lits = 8 then (st0, 3) else (nextS { pushS t 10 with lits := s.lits + 1, left := n }, 2)) := by
    unfold stepS
    rw [tm]
    simp only
    unfold lineS
    rw [if_neg (by omega), if_neg (by unfold endsB; simp [ta]), tp, tli]
    rfl
  conv => lhs; unfold runS
  rw [hst]
  cases hA : annP u with
  | none =>
    simp only
    rw [if_neg (by decide), if_pos trivial]
    have : (pushS t 10).H.take ((pushS t 10).H.length - 2) = s.H ++ u := by
      unfold pushS
      simp only [tH]
      have e : (s.H ++ u ++ [13] ++ [10]) = (s.H ++ u) ++ [13, 10] := by simp
      rw [e]
      have e2 : ((s.H ++ u) ++ [13, 10]).length - 2 = (s.H ++ u).length := by simp; omega
      rw [e2, List.take_left]
    rw [this]
  | some n =>
    simp only
    by_cases hb : 16384 < n ∨ s.lits = 8
    · rw [if_pos hb, if_pos hb]
      rfl
    · rw [if_neg hb, if_neg hb]
      simp only
      rw [if_neg (by decide), if_neg (by decide)]
      congr 2
      unfold pushS
      rw [tH, tl, ht]
      simp [pushL]

theorem run_lit (b : List Nat) (R : List Nat) (s : St) (hm : s.m = .lit) (hb : 0 < b.length) (hl : s.left = b.length) : runS s (b ++ R) = runS { s with m := .line, H := s.H ++ b, left := 0, seg := (s.H ++ b).length, ahead := 0 } R := by
  induction b generalizing s with
  | nil => simp at hb
  | cons x b ih =>
    have hst : stepS s x = (nextS { s with H := s.H ++ [x], left := b.length }, 0) := by
      unfold stepS
      rw [hm]
      simp only
      unfold litS
      rw [hl]
      simp [hm]
    rw [List.cons_append]
    conv => lhs; unfold runS
    rw [hst]
    simp only [if_true]
    by_cases h0 : b.length = 0
    · obtain rfl := List.eq_nil_of_length_eq_zero h0
      unfold nextS
      simp
    · have hn : nextS { s with H := s.H ++ [x], left := b.length } = { s with H := s.H ++ [x], left := b.length, m := .lit } := by unfold nextS; rw [if_neg h0]
      rw [hn, ih _ rfl (by omega) rfl]
      simp [List.append_assoc]

/-- decimal digits -/
def decL (n : Nat) : List Nat := if h : n < 10 then [48 + n] else decL (n / 10) ++ [48 + n % 10]
theorem decL_lt {n : Nat} (h : n < 10) : decL n = [48 + n] := by rw [decL, dif_pos h]
theorem decL_ge {n : Nat} (h : ¬ n < 10) : decL n = decL (n / 10) ++ [48 + n % 10] := by rw [decL, dif_neg h]
theorem decL_dig (n : Nat) : ∀ x ∈ decL n, 48 ≤ x ∧ x ≤ 57 := by
  induction n using Nat.strongRecOn with
  | _ n ih =>
    by_cases h : n < 10
    · rw [decL_lt h]; intro x hx; simp at hx; omega
    · rw [decL_ge h]
      intro x hx
      rcases List.mem_append.1 hx with h1 | h1
      · exact ih _ (by omega) x h1
      · simp at h1; omega
theorem decL_len (n : Nat) : ∀ k, n < 10 ^ (k + 1) → 1 ≤ (decL n).length ∧ (decL n).length ≤ k + 1 := by
  induction n using Nat.strongRecOn with
  | _ n ih =>
    intro k hk
    by_cases h : n < 10
    · rw [decL_lt h]; simp
    · rw [decL_ge h]
      cases k with
      | zero => simp at hk; omega
      | succ k =>
        have := ih (n / 10) (by omega) k (by rw [Nat.pow_succ] at hk; omega)
        simp
        omega
theorem decL_num (n : Nat) : numv (decL n) = n := by
  induction n using Nat.strongRecOn with
  | _ n ih =>
    by_cases h : n < 10
    · rw [decL_lt h]; simp [numv]
    · rw [decL_ge h, numv_snoc, ih _ (by omega)]; omega
theorem decL_head (n : Nat) (h : 0 < n) : hd0 (decL n) ≠ 48 := by
  induction n using Nat.strongRecOn with
  | _ n ih =>
    by_cases h10 : n < 10
    · rw [decL_lt h10]; simp [hd0]; omega
    · rw [decL_ge h10]
      have h1 := ih (n / 10) (by omega) (by omega)
      have hlen : 0 < (decL (n / 10)).length := by
        by_cases g : n / 10 < 10
        · rw [decL_lt g]; simp
        · rw [decL_ge g]; simp
      unfold hd0 at h1 ⊢
      simp only [List.getD, List.getElem?_append_left hlen] at h1 ⊢
      exact h1
theorem lastI_of_none {c : Nat} {l : List Nat} (h : ∀ x ∈ l, x ≠ c) : lastI c l = none := by
  induction l with
  | nil => rfl
  | cons x l ih =>
    unfold lastI
    rw [ih (fun y hy => h y (by simp [hy]))]
    simp [h x (by simp)]
/-- the line that announces n bytes -/
def headL (n : Nat) : List Nat := [120, 32, 123] ++ decL n ++ [125]
theorem ann_head (n : Nat) (hn : n ≤ 16384) : annP (headL n) = some n := by
  have hd := decL_dig n
  have hl := decL_len n 4 (by omega)
  have hnone : lastI 123 (decL n ++ [125]) = none := lastI_of_none (fun x hx => by
    rcases List.mem_append.1 hx with h | h
    · have := hd x h; omega
    · simp at h; omega)
  have hlast : lastI 123 (headL n) = some 2 := by
    unfold headL
    simp only [List.cons_append, List.nil_append, lastI, hnone]
    rfl
  unfold annP
  rw [hlast]
  simp only
  have h125 : (headL n).getD ((headL n).length - 1) 0 = 125 := by
    unfold headL
    simp [List.getD]
  rw [if_pos h125]
  have hD : ((headL n).drop (2 + 1)).take ((headL n).length - 1 - (2 + 1)) = decL n := by
    unfold headL
    simp
  rw [hD]
  unfold annD
  have hnum := decL_num n
  have hcap := capv_numv (decL n)
  rw [if_pos]
  · congr 1
    omega
  · refine ⟨?_, ?_⟩
    · unfold fitB
      refine decide_eq_true ⟨by omega, by omega, ?_⟩
      rintro ⟨h1, h2⟩
      by_cases h0 : n = 0
      · subst h0
        rw [decL_lt (by decide)] at h2
        simp at h2
      · exact decL_head n (by omega) h1
    · rw [List.all_eq_true]
      intro x hx
      have := hd x hx
      simp [isD]
      omega
end Go.Proofs.Ytgafalobbhoaoaa
