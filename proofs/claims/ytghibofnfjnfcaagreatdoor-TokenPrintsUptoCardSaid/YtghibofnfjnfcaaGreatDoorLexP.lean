/-
  The lexer as a plain machine.
-/
import Derived.Test.YtghibofnfjnfcaaGreatDoorMem
namespace Go.Proofs.YtghibofnfjnfcaaGreatDoor
set_option linter.unusedVariables false

inductive Md | btw | atom | quo | esc | siz | car | fee | lit
  deriving DecidableEq

abbrev Tk := Nat × List Nat

structure LS where
  m : Md
  out : List Tk
  text : List Nat
  left : Nat
  op : Bool

def ls0 : LS := ⟨.btw, [], [], 0, false⟩

def singleN (c : Nat) : Nat := if c = 40 then 4 else if c = 41 then 5 else if c = 91 then 7 else if c = 93 then 8 else if c = 32 then 6 else 0
def inAtomN (c : Nat) : Bool := decide (32 < c) && (decide (c ≤ 126) && (singleN c == 0 && (c != 123 && c != 34)))
def inQuoN (c : Nat) : Bool := decide (0 < c) && (decide (c ≤ 127) && (c != 13 && c != 10))
/-- what digits say -/
def valN (l : List Nat) : Nat := l.foldl (fun a d => a * 10 + (d - 48)) 0

def tellS (s : LS) (k : Nat) : LS := { s with m := .btw, out := s.out ++ [(k, s.text)], text := [], op := false }
def pushT (s : LS) (m : Md) (c : Nat) : LS := { s with m := m, text := s.text ++ [c] }
def betS (s : LS) (c : Nat) : LS × Nat :=
  if singleN c ≠ 0 then (tellS s (singleN c), 0)
  else if c = 34 then ({ s with m := .quo, op := true }, 0)
  else if c = 123 then ({ s with m := .siz, op := true }, 0)
  else if inAtomN c then (pushT s .atom c, 0)
  else (s, 9)
def atomS (s : LS) (c : Nat) : LS × Nat := if inAtomN c then (pushT s .atom c, 0) else betS (tellS s 1) c
def quoS (s : LS) (c : Nat) : LS × Nat :=
  if c = 34 then (tellS s 2, 0) else if c = 92 then ({ s with m := .esc }, 0) else if inQuoN c then (pushT s .quo c, 0) else (s, 9)
def escS (s : LS) (c : Nat) : LS × Nat := if c ≠ 34 ∧ c ≠ 92 then (s, 9) else (pushT s .quo c, 0)
def sizS (s : LS) (c : Nat) : LS × Nat :=
  if 48 ≤ c ∧ c ≤ 57 ∧ s.text ≠ [48] then (pushT s .siz c, 0) else if c = 125 ∧ s.text ≠ [] then ({ s with m := .car }, 0) else (s, 9)
def carS (s : LS) (c : Nat) : LS × Nat := if c ≠ 13 then (s, 9) else ({ s with m := .fee }, 0)
def feeS (s : LS) (c : Nat) : LS × Nat :=
  if c ≠ 10 then (s, 9) else if 16384 < valN s.text then (s, 10)
  else if valN s.text = 0 then (tellS { s with text := [], left := 0 } 3, 0) else ({ s with m := .lit, text := [], left := valN s.text }, 0)
def litS (s : LS) (c : Nat) : LS × Nat :=
  if c = 0 then (s, 9) else if s.left - 1 = 0 then (tellS { pushT s .lit c with left := s.left - 1 } 3, 0) else ({ pushT s .lit c with left := s.left - 1 }, 0)
def stepL (s : LS) (c : Nat) : LS × Nat :=
  match s.m with
  | .btw => betS s c
  | .atom => atomS s c
  | .quo => quoS s c
  | .esc => escS s c
  | .siz => sizS s c
  | .car => carS s c
  | .fee => feeS s c
  | .lit => litS s c
def runL : LS → List Nat → LS × Nat
  | s, [] => (s, 0)
  | s, c :: r => if (stepL s c).2 = 0 then runL (stepL s c).1 r else stepL s c
def finL (s : LS) : Nat × List Tk := if s.op then (8, []) else if s.text = [] then (0, s.out) else (0, s.out ++ [(1, s.text)])
def lexS (l : List Nat) : Nat × List Tk := if (runL ls0 l).2 = 0 then finL (runL ls0 l).1 else ((runL ls0 l).2, [])

/-- what holds of a lexer between two bytes -/
structure Fit (s : LS) : Prop where
  tb : ∀ n ∈ s.text, n < 256
  bt : s.m = .btw → s.text = [] ∧ s.op = false
  at_ : s.m = .atom → s.text ≠ [] ∧ s.op = false
  op : s.m ≠ .btw → s.m ≠ .atom → s.op = true
  dg : s.m = .siz ∨ s.m = .car ∨ s.m = .fee → ∀ n ∈ s.text, 48 ≤ n ∧ n ≤ 57
  ne : s.m = .car ∨ s.m = .fee → s.text ≠ []
  lt : s.m = .lit → 0 < s.left

theorem fit0 : Fit ls0 := ⟨by simp [ls0], fun _ => ⟨rfl, rfl⟩, (fun h => by cases h), (fun h => absurd rfl h), (fun h => by rcases h with h | h | h <;> cases h), (fun h => by rcases h with h | h <;> cases h), (fun h => by cases h)⟩
theorem fit_tell {s : LS} (k : Nat) : Fit (tellS s k) := ⟨by simp [tellS], fun _ => ⟨rfl, rfl⟩, (fun h => by cases h), (fun h => absurd rfl h), (fun h => by rcases h with h | h | h <;> cases h), (fun h => by rcases h with h | h <;> cases h), (fun h => by cases h)⟩
theorem mem_snocN {l : List Nat} {c : Nat} {P : Nat → Prop} (hl : ∀ n ∈ l, P n) (hc : P c) : ∀ n ∈ l ++ [c], P n := by
  intro n hn
  rcases List.mem_append.1 hn with h | h
  · exact hl n h
  · simp at h; subst h; exact hc

theorem fit_bet {s : LS} (k : Fit s) (hm : s.m = .btw) (c : Nat) (hc : c < 256) (h0 : (betS s c).2 = 0) : Fit (betS s c).1 := by
  obtain ⟨ht, ho⟩ := k.bt hm
  unfold betS at h0 ⊢
  split
  · exact fit_tell _
  · split
    · exact ⟨k.tb, (fun h => by cases h), (fun h => by cases h), fun _ _ => rfl, (fun h => by rcases h with h | h | h <;> cases h), (fun h => by rcases h with h | h <;> cases h), (fun h => by cases h)⟩
    · split
      · exact ⟨k.tb, (fun h => by cases h), (fun h => by cases h), fun _ _ => rfl, (fun _ => by simp [ht]), (fun h => by rcases h with h | h <;> cases h), (fun h => by cases h)⟩
      · split
        · exact ⟨mem_snocN k.tb hc, (fun h => by cases h), (fun _ => ⟨by simp [pushT], ho⟩), (fun _ h => absurd rfl h), (fun h => by rcases h with h | h | h <;> cases h), (fun h => by rcases h with h | h <;> cases h), (fun h => by cases h)⟩
        · rename_i a b cc d
          rw [if_neg a, if_neg b, if_neg cc, if_neg d] at h0
          cases h0

theorem fit_step {s : LS} (k : Fit s) (c : Nat) (hc : c < 256) (h0 : (stepL s c).2 = 0) : Fit (stepL s c).1 := by
  unfold stepL at h0 ⊢
  cases hm : s.m
  · rw [hm] at h0
    exact fit_bet k hm c hc h0
  · rw [hm] at h0
    simp only at h0 ⊢
    unfold atomS at h0 ⊢
    split
    · exact ⟨mem_snocN k.tb hc, (fun h => by cases h), (fun _ => ⟨by simp [pushT], (k.at_ hm).2⟩), (fun _ h => absurd rfl h), (fun h => by rcases h with h | h | h <;> cases h), (fun h => by rcases h with h | h <;> cases h), (fun h => by cases h)⟩
    · rename_i a
      rw [if_neg a] at h0
      exact fit_bet (fit_tell 1) rfl c hc h0
  · rw [hm] at h0
    have ho := k.op (by rw [hm]; decide) (by rw [hm]; decide)
    simp only at h0 ⊢
    unfold quoS at h0 ⊢
    split
    · exact fit_tell _
    · split
      · exact ⟨k.tb, (fun h => by cases h), (fun h => by cases h), fun _ _ => ho, (fun h => by rcases h with h | h | h <;> cases h), (fun h => by rcases h with h | h <;> cases h), (fun h => by cases h)⟩
      · split
        · exact ⟨mem_snocN k.tb hc, (fun h => by cases h), (fun h => by cases h), fun _ _ => ho, (fun h => by rcases h with h | h | h <;> cases h), (fun h => by rcases h with h | h <;> cases h), (fun h => by cases h)⟩
        · rename_i a b cc
          rw [if_neg a, if_neg b, if_neg cc] at h0
          cases h0
  · rw [hm] at h0
    have ho := k.op (by rw [hm]; decide) (by rw [hm]; decide)
    simp only at h0 ⊢
    unfold escS at h0 ⊢
    split
    · rename_i a
      rw [if_pos a] at h0
      cases h0
    · exact ⟨mem_snocN k.tb hc, (fun h => by cases h), (fun h => by cases h), fun _ _ => ho, (fun h => by rcases h with h | h | h <;> cases h), (fun h => by rcases h with h | h <;> cases h), (fun h => by cases h)⟩
  · rw [hm] at h0
    have ho := k.op (by rw [hm]; decide) (by rw [hm]; decide)
    have hd := k.dg (.inl hm)
    simp only at h0 ⊢
    unfold sizS at h0 ⊢
    split
    · rename_i a
      exact ⟨mem_snocN k.tb hc, (fun h => by cases h), (fun h => by cases h), fun _ _ => ho, (fun _ => mem_snocN (P := fun n => 48 ≤ n ∧ n ≤ 57) hd ⟨a.1, a.2.1⟩), (fun h => by rcases h with h | h <;> cases h), (fun h => by cases h)⟩
    · split
      · rename_i a b
        exact ⟨k.tb, (fun h => by cases h), (fun h => by cases h), fun _ _ => ho, (fun _ => hd), (fun _ => b.2), (fun h => by cases h)⟩
      · rename_i a b
        rw [if_neg a, if_neg b] at h0
        cases h0
  · rw [hm] at h0
    have ho := k.op (by rw [hm]; decide) (by rw [hm]; decide)
    have hd := k.dg (.inr (.inl hm))
    have hn := k.ne (.inl hm)
    simp only at h0 ⊢
    unfold carS at h0 ⊢
    split
    · rename_i a
      rw [if_pos a] at h0
      cases h0
    · exact ⟨k.tb, (fun h => by cases h), (fun h => by cases h), fun _ _ => ho, (fun _ => hd), (fun _ => hn), (fun h => by cases h)⟩
  · rw [hm] at h0
    have ho := k.op (by rw [hm]; decide) (by rw [hm]; decide)
    simp only at h0 ⊢
    unfold feeS at h0 ⊢
    split
    · rename_i a
      rw [if_pos a] at h0
      cases h0
    · split
      · rename_i a b
        rw [if_neg a, if_pos b] at h0
        cases h0
      · split
        · exact fit_tell _
        · exact ⟨by simp, (fun h => by cases h), (fun h => by cases h), fun _ _ => ho, (fun h => by rcases h with h | h | h <;> cases h), (fun h => by rcases h with h | h <;> cases h), (fun _ => by simp only; omega)⟩
  · rw [hm] at h0
    have ho := k.op (by rw [hm]; decide) (by rw [hm]; decide)
    simp only at h0 ⊢
    unfold litS at h0 ⊢
    split
    · rename_i a
      rw [if_pos a] at h0
      cases h0
    · split
      · exact fit_tell _
      · rename_i a b
        exact ⟨mem_snocN k.tb hc, (fun h => by rw [show ({ pushT s .lit c with left := s.left - 1 } : LS).m = .lit from rfl] at h; cases h), (fun h => by rw [show ({ pushT s .lit c with left := s.left - 1 } : LS).m = .lit from rfl] at h; cases h), fun _ _ => ho, (fun h => by rcases h with h | h | h <;> (rw [show ({ pushT s .lit c with left := s.left - 1 } : LS).m = .lit from rfl] at h; cases h)), (fun h => by rcases h with h | h <;> (rw [show ({ pushT s .lit c with left := s.left - 1 } : LS).m = .lit from rfl] at h; cases h)), (fun _ => by show 0 < s.left - 1; omega)⟩

theorem fit_run {s : LS} (k : Fit s) (l : List Nat) (hl : ∀ n ∈ l, n < 256) (h0 : (runL s l).2 = 0) : Fit (runL s l).1 := by
  induction l generalizing s with
  | nil => exact k
  | cons c r ih =>
    unfold runL at h0 ⊢
    by_cases h : (stepL s c).2 = 0
    · rw [if_pos h] at h0 ⊢
      exact ih (fit_step k c (hl c (by simp)) h) (fun n hn => hl n (by simp [hn])) h0
    · rw [if_neg h] at h0
      exact absurd h0 h
end Go.Proofs.YtghibofnfjnfcaaGreatDoor
