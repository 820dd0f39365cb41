/-
  A feed as a plain machine: its state, what a byte does, what an announcement is.
-/
import Derived.Test.YtgafalobbhoaoaaMem
namespace Go.Proofs.Ytgafalobbhoaoaa
set_option linter.unusedVariables false

inductive Mode | line | lit | skip
deriving DecidableEq
structure St where
  m : Mode
  H : List Nat
  seg : Nat
  len : Nat
  lits : Nat
  left : Nat
  ahead : Nat
def st0 : St := ⟨.line, [], 0, 0, 0, 0, 0⟩
def isD (c : Nat) : Bool := decide (48 ≤ c) && decide (c ≤ 57)
/-- the number that digits say, no more than 16385 -/
def capv (d : List Nat) : Nat := d.foldl (fun n c => min (n * 10 + (c - 48)) 16385) 0
def hd0 (d : List Nat) : Nat := d.getD 0 0
/-- may these be a length's digits? -/
def fitB (d : List Nat) : Bool := decide (d.length ≠ 0 ∧ ¬ 10 < d.length ∧ ¬ (hd0 d = 48 ∧ 1 < d.length))
def annD (d : List Nat) : Option Nat := if fitB d = true ∧ d.all isD = true then some (capv d) else none
/-- where a byte stands last, or nowhere -/
def lastI (c : Nat) : List Nat → Option Nat
  | [] => none
  | x :: l => match lastI c l with
    | some i => some (i + 1)
    | none => if x = c then some 0 else none
/-- what a line's part announces -/
def annP (L : List Nat) : Option Nat :=
  match lastI 123 L with
  | none => none
  | some o => if L.getD (L.length - 1) 0 = 125 then annD ((L.drop (o + 1)).take (L.length - 1 - (o + 1))) else none
def nextS (s : St) : St := if s.left = 0 then { s with m := .line, seg := s.H.length, ahead := 0 } else { s with m := .lit }
def endsB (s : St) (c : Nat) : Bool := (s.ahead == 13) && (c == 10)
def pushS (s : St) (c : Nat) : St := { s with H := s.H ++ [c], len := s.len + 1, ahead := c }
def partS (s : St) : List Nat := (s.H.drop s.seg).take (s.H.length - 2 - s.seg)
def lineS (s : St) (c : Nat) : St × Nat :=
  if 4096 < s.len + 1 then (if endsB s c then st0 else { st0 with m := .skip, ahead := c }, 3)
  else if endsB s c = false then (pushS s c, 0)
  else match annP (partS (pushS s c)) with
    | none => (pushS s c, 1)
    | some n => if 16384 < n ∨ s.lits = 8 then (st0, 3) else (nextS { pushS s c with lits := s.lits + 1, left := n }, 2)
def litS (s : St) (c : Nat) : St × Nat := (nextS { s with H := s.H ++ [c], left := s.left - 1 }, 0)
def skipS (s : St) (c : Nat) : St × Nat := if endsB s c then (st0, 0) else ({ s with ahead := c }, 0)
def stepS (s : St) (c : Nat) : St × Nat :=
  match s.m with
  | .line => lineS s c
  | .lit => litS s c
  | .skip => skipS s c

/-- what is known of a feed's state at any time -/
structure Ok (s : St) : Prop where
  hb : ∀ n ∈ s.H, n < 256
  ab : s.ahead < 256
  len : s.len ≤ 4096
  lits : s.lits ≤ 8
  left : s.left ≤ 16384
  seg : s.seg ≤ s.H.length
  sum : s.H.length + s.left ≤ s.len + s.lits * 16384
  cr : s.m = .line → s.ahead = 13 → s.seg < s.H.length
  lt : s.m = .lit → 0 < s.left
  ln : s.m ≠ .lit → s.left = 0
theorem Ok.size {s : St} (k : Ok s) : s.H.length ≤ 140000 := by have := k.sum; have := k.len; have := k.lits; omega
theorem ok0 : Ok st0 := ⟨(by simp [st0]), (by decide), (by decide), (by decide), (by decide), (by decide), (by decide), (fun _ h => by simp [st0] at h), (fun h => by simp [st0] at h), fun _ => rfl⟩
theorem ok_skip (c : Nat) (hc : c < 256) : Ok { st0 with m := .skip, ahead := c } :=
  ⟨(by simp [st0]), hc, ok0.len, ok0.lits, ok0.left, ok0.seg, ok0.sum, (fun h => nomatch h), (fun h => nomatch h), fun _ => rfl⟩
theorem ok_next {s : St} (hb : ∀ n ∈ s.H, n < 256) (ab : s.ahead < 256) (len : s.len ≤ 4096) (lits : s.lits ≤ 8) (left : s.left ≤ 16384) (seg : s.seg ≤ s.H.length) (sum : s.H.length + s.left ≤ s.len + s.lits * 16384) : Ok (nextS s) := by
  unfold nextS
  split
  · rename_i h
    exact ⟨hb, (show (0 : Nat) < 256 by decide), len, lits, left, Nat.le_refl _, sum, (fun _ h => nomatch h), (fun h => nomatch h), fun _ => h⟩
  · rename_i h
    exact ⟨hb, ab, len, lits, left, seg, sum, (fun h => nomatch h), (fun _ => by show 0 < s.left; omega), (fun h => absurd rfl h)⟩
theorem mem_snoc {l : List Nat} {c : Nat} (h : ∀ n ∈ l, n < 256) (hc : c < 256) : ∀ n ∈ l ++ [c], n < 256 := by
  intro n hn
  rcases List.mem_append.1 hn with h1 | h1
  · exact h n h1
  · simp at h1; omega
theorem ok_push {s : St} (k : Ok s) (hm : s.m = .line) (c : Nat) (hc : c < 256) (hl : s.len + 1 ≤ 4096) : Ok (pushS s c) := by
  have h0 := k.ln (by rw [hm]; decide)
  refine ⟨mem_snoc k.hb hc, hc, hl, k.lits, k.left, ?_, ?_, ?_, ?_, ?_⟩
  · have := k.seg; simp [pushS]; omega
  · have := k.sum; simp [pushS]; omega
  · intro _ _; have := k.seg; simp [pushS]; omega
  · intro h; simp [pushS, hm] at h
  · intro _; exact h0
theorem ok_step {s : St} (k : Ok s) (c : Nat) (hc : c < 256) : Ok (stepS s c).1 := by
  unfold stepS
  cases hm : s.m
  · simp only
    unfold lineS
    split
    · split
      · exact ok0
      · exact ok_skip c hc
    · rename_i hl
      split
      · exact ok_push k hm c hc (by omega)
      · have kp := ok_push k hm c hc (by omega)
        split
        · exact kp
        · rename_i n _
          split
          · exact ok0
          · rename_i hn
            have h0 := k.ln (by rw [hm]; decide)
            have hs := k.sum
            have hlits := k.lits
            exact ok_next kp.hb kp.ab kp.len (by show s.lits + 1 ≤ 8; omega) (by show n ≤ 16384; omega) kp.seg (by show (s.H ++ [c]).length + n ≤ s.len + 1 + (s.lits + 1) * 16384; simp; omega)
  · simp only
    unfold litS
    have h0 := k.lt hm
    have hs := k.sum
    exact ok_next (mem_snoc k.hb hc) k.ab k.len k.lits (by have := k.left; show s.left - 1 ≤ 16384; omega) (by have := k.seg; simp; omega) (by show (s.H ++ [c]).length + (s.left - 1) ≤ s.len + s.lits * 16384; simp; omega)
  · simp only
    unfold skipS
    split
    · exact ok0
    · exact ⟨k.hb, hc, k.len, k.lits, k.left, k.seg, k.sum, (fun h => by simp [hm] at h), (fun h => by simp [hm] at h), k.ln⟩

/-- what Next makes of the bytes that are there: the state behind, what is left of them, the kind, what is told -/
def runS : St → List Nat → St × List Nat × Nat × List Nat
  | s, [] => (s, [], 0, [])
  | s, c :: r =>
    if (stepS s c).2 = 0 then runS (stepS s c).1 r
    else if (stepS s c).2 = 1 then (st0, r, 1, (stepS s c).1.H.take ((stepS s c).1.H.length - 2))
    else ((stepS s c).1, r, (stepS s c).2, [])
theorem ok_run {s : St} (k : Ok s) (l : List Nat) (hl : ∀ n ∈ l, n < 256) : Ok (runS s l).1 := by
  induction l generalizing s with
  | nil => exact k
  | cons c r ih =>
    have k1 := ok_step k c (hl c (by simp))
    unfold runS
    split
    · exact ih k1 (fun n hn => hl n (by simp [hn]))
    · split
      · exact ok0
      · exact k1
theorem step_kind (s : St) (c : Nat) : (stepS s c).2 ≤ 3 := by
  unfold stepS lineS litS skipS
  split
  · split
    · simp
    · split
      · simp
      · split
        · simp
        · split <;> simp
  · simp
  · split <;> simp
end Go.Proofs.Ytgafalobbhoaoaa
