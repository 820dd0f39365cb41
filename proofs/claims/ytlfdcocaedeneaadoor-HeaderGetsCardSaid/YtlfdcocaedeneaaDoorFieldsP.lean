/-
  Fields, purely: names and texts; bounds.
-/
import Derived.Test.YtlfdcocaedeneaaDoorStr
import Derived.Test.YtlfdcocaedeneaaDoorPureS
import Derived.Test.YtlfdcocaedeneaaDoorTrimT
import Derived.Test.YtlfdcocaedeneaaDoorFlV
namespace Go.Proofs.YtlfdcocaedeneaaDoor
set_option linter.unusedVariables false
open Go.RowKit Go.Lib

/-- a text without blanks and tabs at its ends -/
def cutT (T : List Nat) : ByteArray := ⟨(Lib.trimS (strT T).data.toList [32, 9]).toArray⟩
def tkOf (f : Fd) : Tk := (f.nm, cutT f.T)
/-- what Fields tells -/
def toldS (l : List Nat) : List Tk := (fieldsS l).map tkOf
def Bts (f : Fd) : Prop := (∀ c ∈ f.T, c < 256) ∧ ∀ c ∈ f.R, c < 256
def BtsS (s : List Fd × Option Fd) : Prop := (∀ f ∈ s.1, Bts f) ∧ ∀ f ∈ s.2, Bts f
theorem stepF_bts {s : List Fd × Option Fd} {wh tx : List Nat} (h : BtsS s) (h1 : ∀ c ∈ wh, c < 256) (h2 : ∀ c ∈ tx, c < 256) : BtsS (stepF s wh tx) := by
  unfold stepF
  split
  · refine ⟨h.1, fun f hf => ?_⟩
    simp only [Option.mem_def, Option.map_eq_some_iff] at hf
    obtain ⟨f0, h0, rfl⟩ := hf
    have hb := h.2 f0 h0
    exact ⟨fun c hc => by rcases List.mem_append.1 hc with h | h; exact hb.1 c h; exact h2 c h, fun c hc => by rcases List.mem_append.1 hc with h | h; exact hb.2 c h; exact h1 c h⟩
  · refine ⟨fun f hf => ?_, fun f hf => ?_⟩
    · rcases List.mem_append.1 hf with hf | hf
      · exact h.1 f hf
      · exact h.2 f (by simpa using hf)
    · simp only [Option.mem_def, Option.map_eq_some_iff] at hf
      obtain ⟨q, _, rfl⟩ := hf
      exact ⟨fun c hc => h2 c (List.mem_of_mem_drop hc), h1⟩
theorem runF_bts {l : List Nat} (hl : ∀ c ∈ l, c < 256) (xs : List (Nat × Nat × Nat)) : ∀ s, BtsS s → BtsS (runF l s xs) := by
  induction xs with
  | nil => intro s h; exact h
  | cons x xs ih => intro s h; exact ih _ (stepF_bts h (fun c hc => hl c (List.mem_of_mem_drop (List.mem_of_mem_take hc))) (fun c hc => hl c (List.mem_of_mem_drop (List.mem_of_mem_take hc))))
theorem fieldsS_bts {l : List Nat} (hl : ∀ c ∈ l, c < 256) : ∀ f ∈ fieldsS l, Bts f := by
  intro f hf
  have h := runF_bts hl (headF (linesP 0 l)) ([], none) ⟨by simp, by simp⟩
  rcases List.mem_append.1 hf with hf | hf
  · exact h.1 f hf
  · exact h.2 f (by simpa using hf)
theorem headF_len (xs : List (Nat × Nat × Nat)) : (headF xs).length ≤ xs.length := List.IsPrefix.length_le (List.takeWhile_prefix _)
theorem fieldsS_len (l : List Nat) : (fieldsS l).length ≤ l.length := by
  have h1 := runF_len l (headF (linesP 0 l)) ([], none)
  have h2 := headF_len (linesP 0 l)
  have h3 := (lines_in l.length 0 l (Nat.le_refl _)).1
  unfold fieldsS
  simp only [List.length_append]
  simp at h1
  omega
/-- all fields' texts together are no longer than the whole -/
def AllLe (N : Nat) (s : List Fd × Option Fd) : Prop := (∀ f ∈ s.1, f.T.length ≤ N ∧ f.R.length ≤ N) ∧ OpLe N s
theorem stepF_all {N M : Nat} {s : List Fd × Option Fd} {wh tx : List Nat} (h : AllLe N s) (h1 : wh.length ≤ M) (h2 : tx.length ≤ M) : AllLe (N + M) (stepF s wh tx) := by
  refine ⟨?_, stepF_le h.2 h1 h2⟩
  unfold stepF
  split
  · intro f hf
    have := h.1 f hf
    omega
  · intro f hf
    rcases List.mem_append.1 hf with hf | hf
    · have := h.1 f hf
      omega
    · have := h.2 f (by simpa using hf)
      omega
theorem runF_all (l : List Nat) (xs : List (Nat × Nat × Nat)) : ∀ (s : List Fd × Option Fd) (N : Nat), AllLe N s → AllLe (N + xs.length * l.length) (runF l s xs) := by
  induction xs with
  | nil => intro s N h; simpa [runF] using h
  | cons x xs ih =>
    intro s N h
    have h1 := ih (stepF s (lineW l x) (lineT l x)) (N + l.length) (stepF_all h (by simp [lineW]; omega) (by simp [lineT]; omega))
    rw [List.length_cons, Nat.add_mul, Nat.one_mul, show N + (xs.length * l.length + l.length) = N + l.length + xs.length * l.length by omega]
    exact h1
theorem fieldsS_le {l : List Nat} (hl : l.length ≤ 100000) : ∀ f ∈ fieldsS l, f.T.length ≤ 10000000000 ∧ f.R.length ≤ 10000000000 := by
  intro f hf
  have h := runF_all l (headF (linesP 0 l)) ([], none) 0 ⟨by simp, by intro f hf; simp at hf⟩
  have h2 := headF_len (linesP 0 l)
  have h3 := (lines_in l.length 0 l (Nat.le_refl _)).1
  have hmul : (headF (linesP 0 l)).length * l.length ≤ 100000 * 100000 := Nat.mul_le_mul (by omega) hl
  rcases List.mem_append.1 hf with hf | hf
  · have := h.1 f hf
    omega
  · have := h.2 f (by simpa using hf)
    omega
/-- the fields, one for each pointer, can be read -/
theorem fin2_read {W : World} {b E : Nat} : ∀ (fs : List Fd) (gs : List Nat), fin2 W b E fs gs → ∀ i (h : i < fs.length) (h' : i < gs.length), FinR W b W.heap.size gs[i] fs[i]
  | f :: fs, g :: gs, k, 0, _, _ => k.1.all.read
  | f :: fs, g :: gs, k, i + 1, h, h' => fin2_read fs gs k.2 i (by simpa using h) (by simpa using h')
  | [], _, _, i, h, _ => by simp at h
  | _ :: _, [], k, _, _, _ => k.elim
end Go.Proofs.YtlfdcocaedeneaaDoor
