/-
  Modified UTF-7, plain: no model's run in this text: the writer of the encoding as a pure machine, and what it writes.
-/
import Derived.Lib.UnsafeStr
namespace Go.Proofs.YtcddppgnmephnaaDoor
set_option linter.unusedVariables false

/-! ### the digits -/
def digS : List UInt8 := [65, 66, 67, 68, 69, 70, 71, 72, 73, 74, 75, 76, 77, 78, 79, 80, 81, 82, 83, 84, 85, 86, 87, 88, 89, 90, 97, 98, 99, 100, 101, 102, 103, 104, 105, 106, 107, 108, 109, 110, 111, 112, 113, 114, 115, 116, 117, 118, 119, 120, 121, 122, 48, 49, 50, 51, 52, 53, 54, 55, 56, 57, 43, 44]
def digit (k : Nat) : UInt8 := digS.getD k 0

/-! ### the writer -/
structure Wr where
  out : List UInt8
  acc : Nat
  bits : Nat
  inn : Bool

def w0 : Wr := { out := [], acc := 0, bits := 0, inn := false }

/-- the digits of so many bits, six by six, from above -/
def ems (v : Nat) : Nat → Nat → List UInt8
  | 0, _ => []
  | f + 1, b => if 6 ≤ b then digit (v / 2 ^ (b - 6) % 64) :: ems v f (b - 6) else []

def putS (w : Wr) (u : Nat) : Wr :=
  { w with out := w.out ++ ems (w.acc * 65536 + u) 3 (w.bits + 16), acc := (w.acc * 65536 + u) % 2 ^ ((w.bits + 16) % 6), bits := (w.bits + 16) % 6 }

def endS (w : Wr) : Wr :=
  if w.inn then { out := w.out ++ (if 0 < w.bits then [digit (w.acc * 2 ^ (6 - w.bits) % 64)] else []) ++ [45], acc := 0, bits := 0, inn := false } else w

def openS (w : Wr) : Wr := if w.inn then w else { w with out := w.out ++ [38], inn := true }

def farS (w : Wr) (r : Nat) : Wr :=
  if r < 65536 then putS (openS w) r else putS (putS (openS w) (55296 + (r - 65536) / 1024)) (56320 + (r - 65536) % 1024)

def plainR (r : Nat) : Bool := decide (32 ≤ r) && decide (r ≤ 126)

def signS (w : Wr) (r : Nat) : Wr :=
  if plainR r then { endS w with out := (endS w).out ++ (if r = 38 then [r.toUInt8, 45] else [r.toUInt8]) } else farS w r

/-- what holds of a writer between two signs -/
structure Wr.Good (w : Wr) : Prop where
  bits : (w.bits = 0 ∧ w.acc = 0) ∨ (w.bits = 2 ∧ w.acc < 4) ∨ (w.bits = 4 ∧ w.acc < 16)
  shut : w.inn = false → w.bits = 0

theorem good0 : w0.Good := ⟨.inl ⟨rfl, rfl⟩, fun _ => rfl⟩
theorem Wr.Good.zero {w : Wr} (h : w.Good) (hi : w.inn = false) : w.acc = 0 ∧ w.bits = 0 := by
  have := h.shut hi
  rcases h.bits with h | h | h <;> omega

theorem ems_length (v : Nat) : ∀ f b, (ems v f b).length ≤ f
  | 0, _ => by simp [ems]
  | f + 1, b => by
    unfold ems
    split
    · have := ems_length v f (b - 6)
      simp
      omega
    · simp

theorem putS_good {w : Wr} (h : w.Good) (hi : w.inn = true) (u : Nat) : (putS w u).Good ∧ (putS w u).inn = true ∧ (putS w u).out.length ≤ w.out.length + 3 := by
  have hl := ems_length (w.acc * 65536 + u) 3 (w.bits + 16)
  refine ⟨⟨?_, ?_⟩, hi, by simp [putS]; omega⟩
  · have hb := h.bits
    simp only [putS]
    rcases hb with ⟨e, ha⟩ | ⟨e, ha⟩ | ⟨e, ha⟩ <;> rw [e] <;> simp <;> omega
  · intro hf
    have : (putS w u).inn = w.inn := rfl
    rw [this, hi] at hf
    cases hf

theorem openS_good {w : Wr} (h : w.Good) : (openS w).Good ∧ (openS w).inn = true ∧ (openS w).out.length ≤ w.out.length + 1 := by
  unfold openS
  by_cases hi : w.inn
  · rw [if_pos hi]; exact ⟨h, hi, by omega⟩
  · rw [if_neg hi]
    exact ⟨⟨h.bits, fun hf => by cases hf⟩, rfl, by simp⟩

theorem endS_good {w : Wr} (h : w.Good) : (endS w).Good ∧ (endS w).inn = false ∧ (endS w).out.length ≤ w.out.length + 2 := by
  unfold endS
  by_cases hi : w.inn
  · rw [if_pos hi]
    refine ⟨⟨.inl ⟨rfl, rfl⟩, fun _ => rfl⟩, rfl, ?_⟩
    simp only [List.length_append]
    split <;> simp
  · rw [if_neg hi]
    exact ⟨h, by simpa using hi, by omega⟩

theorem farS_good {w : Wr} (h : w.Good) (r : Nat) (hr : r ≤ 1114111) : (farS w r).Good ∧ (farS w r).inn = true ∧ (farS w r).out.length ≤ w.out.length + 7 := by
  obtain ⟨h1, h2, h3⟩ := openS_good h
  unfold farS
  split
  · rename_i hc
    obtain ⟨a, b, c⟩ := putS_good h1 h2 r
    exact ⟨a, b, by omega⟩
  · obtain ⟨a, b, c⟩ := putS_good h1 h2 (55296 + (r - 65536) / 1024)
    obtain ⟨d, e, f⟩ := putS_good a b (56320 + (r - 65536) % 1024)
    exact ⟨d, e, by omega⟩

theorem signS_good {w : Wr} (h : w.Good) (r : Nat) (hr : r ≤ 1114111) : (signS w r).Good ∧ (signS w r).out.length ≤ w.out.length + 8 := by
  unfold signS
  split
  · obtain ⟨a, b, c⟩ := endS_good h
    refine ⟨⟨a.bits, a.shut⟩, ?_⟩
    simp only [List.length_append]
    split <;> simp <;> omega
  · obtain ⟨a, b, c⟩ := farS_good h r hr
    exact ⟨a, by omega⟩

theorem fold_good : ∀ (rs : List Nat) (w : Wr), w.Good → (∀ r ∈ rs, r ≤ 1114111) → (rs.foldl signS w).Good ∧ (rs.foldl signS w).out.length ≤ w.out.length + 8 * rs.length
  | [], w, h, _ => ⟨h, by simp⟩
  | r :: rs, w, h, hr => by
    obtain ⟨a, b⟩ := signS_good h r (hr r (by simp))
    obtain ⟨c, d⟩ := fold_good rs (signS w r) a (fun x hx => hr x (by simp [hx]))
    refine ⟨c, ?_⟩
    simp only [List.foldl_cons, List.length_cons]
    omega

end Go.Proofs.YtcddppgnmephnaaDoor
