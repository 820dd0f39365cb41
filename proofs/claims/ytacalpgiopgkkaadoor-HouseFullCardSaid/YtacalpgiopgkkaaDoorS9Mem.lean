/-
  Plain lemmas on rows of cells, wherever they lie, for the walks of this seat.
-/
import Derived.Test.YtacalpgiopgkkaaDoorRows
import Derived.WalkKit
import Derived.ProofKit
import Derived.OpenShut
import Derived.ShutString
import Derived.ChangeOld
import Derived.Below
import Derived.Lib.Hide
import Derived.Outline
import Derived.WalkSmall
import Derived.BigQuiet
import Derived.Deep.QuietTactic
import Derived.Deep.RegionLaw
import Derived.Deep.RegionWith
import Derived.Deep.RegionHeld3
import Derived.Deep.DeepCutAuto
import Derived.Deep.DeepFit
import Derived.WalkSpells
import Derived.IntWalk
namespace Go.Proofs.YtacalpgiopgkkaaDoor
namespace S9
set_option linter.unusedVariables false
open Go.RowKit

theorem ret_eq {u v : Value} (h : u = v) : Ending.returned u = Ending.returned v := by rw [h]

/-- v is a slice of n things of 'size' cells each, wherever it lies, and these are its cells. -/
def RowV (w : World) (size : Nat) (v : Value) (n : Nat) (xs : List Value) : Prop :=
  ∃ a cap, v = .slice a n cap ∧ n ≤ cap ∧ cap ≤ maxLen ∧ xs.length = n * size ∧ (a = none → n = 0 ∧ cap = 0) ∧ ∀ x, a = some x → ∀ j, (h : j < xs.length) → w.cell? (x.add j) = some xs[j]

theorem RowV.none_ (w : World) (size : Nat) : RowV w size (.slice none 0 0) 0 [] := ⟨none, 0, rfl, Nat.le_refl _, by decide, by simp, fun _ => ⟨rfl, rfl⟩, by simp⟩

theorem RowV.below {w w1 : World} {size n : Nat} {v : Value} {xs : List Value} (h : RowV w size v n xs) (hb : Below w.heap.size w w1) : RowV w1 size v n xs := by
  obtain ⟨a, cap, e, hc, hm, hl, hn, hcell⟩ := h
  refine ⟨a, cap, e, hc, hm, hl, hn, fun x hx i hi => ?_⟩
  have h1 := hcell x hx i hi
  rw [hb.cell (World.block_lt_of_cell? w _ h1)]
  exact h1

theorem RowV.shape {w : World} {size n : Nat} {v : Value} {xs : List Value} (h : RowV w size v n xs) :
    ∃ b off a cap, v = .slice a n cap ∧ n ≤ cap ∧ cap ≤ maxLen ∧ xs.length = n * size ∧ (0 < xs.length → a = some ⟨b, off, none⟩ ∧ b < w.heap.size) ∧ ∀ i, (h : i < xs.length) → w.cell? ⟨b, off + i, none⟩ = some xs[i] := by
  obtain ⟨a, cap, e, hc, hm, hl, hn, hcell⟩ := h
  by_cases h0 : xs.length = 0
  · exact ⟨0, 0, a, cap, e, hc, hm, hl, by omega, fun i hi => by omega⟩
  · cases a with
    | none => have := (hn rfl).1; subst this; rw [Nat.zero_mul] at hl; omega
    | some x =>
      obtain ⟨b, off, spot⟩ := x
      have hc0 := hcell _ rfl 0 (by omega)
      have hspot : spot = none := by simpa [Addr.add] using World.cell?_spot hc0
      subst hspot
      have hlt : b < w.heap.size := by have := World.block_lt_of_cell? w _ hc0; simpa [Addr.add_lit] using this
      refine ⟨b, off, _, cap, e, hc, hm, hl, fun _ => ⟨rfl, hlt⟩, fun i hi => ?_⟩
      have := hcell _ rfl i hi
      rwa [Addr.add_lit] at this

/-- numbers as cells -/
def u32s (l : List Int) : List Value := l.map (fun (n : Int) => Value.int .u32 n)
@[simp] theorem u32s_length (l : List Int) : (u32s l).length = l.length := by simp [u32s]
theorem u32s_append (l m : List Int) : u32s (l ++ m) = u32s l ++ u32s m := by simp [u32s]
theorem u32s_get (l : List Int) (j : Nat) (h : j < l.length) : (u32s l)[j]'(by simpa using h) = .int .u32 l[j] := by simp [u32s]

/-- ranges as cells -/
def rngs (l : List (Int × Int)) : List Value := l.flatMap fun p => [Value.int .u32 p.1, Value.int .u32 p.2]
@[simp] theorem rngs_length (l : List (Int × Int)) : (rngs l).length = l.length * 2 := by
  induction l with
  | nil => rfl
  | cons p l ih => simp only [rngs, List.flatMap_cons, List.length_append, List.length_cons, List.length_nil] at *; omega
theorem rngs_append (l m : List (Int × Int)) : rngs (l ++ m) = rngs l ++ rngs m := by simp [rngs]
theorem rngs_from? (l : List (Int × Int)) (j : Nat) (h : j < l.length) : (rngs l)[j * 2]? = some (.int .u32 l[j].1) := by
  induction l generalizing j with
  | nil => simp at h
  | cons p l ih =>
    cases j with
    | zero => rfl
    | succ j =>
      have := ih j (by simpa using h)
      show (Value.int .u32 p.1 :: Value.int .u32 p.2 :: rngs l)[(j + 1) * 2]? = _
      rw [show (j + 1) * 2 = j * 2 + 1 + 1 by omega, List.getElem?_cons_succ, List.getElem?_cons_succ, this]
      rfl
theorem rngs_to? (l : List (Int × Int)) (j : Nat) (h : j < l.length) : (rngs l)[j * 2 + 1]? = some (.int .u32 l[j].2) := by
  induction l generalizing j with
  | nil => simp at h
  | cons p l ih =>
    cases j with
    | zero => rfl
    | succ j =>
      have := ih j (by simpa using h)
      show (Value.int .u32 p.1 :: Value.int .u32 p.2 :: rngs l)[(j + 1) * 2 + 1]? = _
      rw [show (j + 1) * 2 + 1 = j * 2 + 1 + 1 + 1 by omega, List.getElem?_cons_succ, List.getElem?_cons_succ, this]
      rfl

/-- a slice of numbers; one of ranges -/
def RowN (w : World) (v : Value) (l : List Int) : Prop := RowV w 1 v l.length (u32s l) ∧ ∀ n ∈ l, 0 ≤ n ∧ n < 4294967296
def RowR (w : World) (v : Value) (l : List (Int × Int)) : Prop := RowV w 2 v l.length (rngs l) ∧ ∀ p ∈ l, (0 ≤ p.1 ∧ p.1 < 4294967296) ∧ (0 ≤ p.2 ∧ p.2 < 4294967296)

theorem RowN.below {w w1 : World} {v : Value} {l : List Int} (h : RowN w v l) (hb : Below w.heap.size w w1) : RowN w1 v l := ⟨h.1.below hb, h.2⟩
theorem RowR.below {w w1 : World} {v : Value} {l : List (Int × Int)} (h : RowR w v l) (hb : Below w.heap.size w w1) : RowR w1 v l := ⟨h.1.below hb, h.2⟩
theorem RowN.shape {w : World} {v : Value} {l : List Int} (h : RowN w v l) :
    ∃ b off a cap, v = .slice a l.length cap ∧ l.length ≤ cap ∧ cap ≤ maxLen ∧ (0 < l.length → a = some ⟨b, off, none⟩ ∧ b < w.heap.size) ∧ ∀ i, (h : i < l.length) → w.cell? ⟨b, off + i, none⟩ = some (.int .u32 l[i]) := by
  obtain ⟨b, off, a, cap, e, hc, hm, hl, ha, hcell⟩ := h.1.shape
  refine ⟨b, off, a, cap, e, hc, hm, fun h0 => ha (by simpa using h0), fun i hi => ?_⟩
  rw [hcell i (by simpa using hi), u32s_get l i hi]
theorem RowR.shape {w : World} {v : Value} {l : List (Int × Int)} (h : RowR w v l) :
    ∃ b off a cap, v = .slice a l.length cap ∧ l.length ≤ cap ∧ cap ≤ maxLen ∧ (0 < l.length → a = some ⟨b, off, none⟩ ∧ b < w.heap.size) ∧ ∀ i, (h : i < l.length) → w.cell? ⟨b, off + i * 2, none⟩ = some (.int .u32 l[i].1) ∧ w.cell? ⟨b, off + i * 2 + 1, none⟩ = some (.int .u32 l[i].2) := by
  obtain ⟨b, off, a, cap, e, hc, hm, hl, ha, hcell⟩ := h.1.shape
  refine ⟨b, off, a, cap, e, hc, hm, fun h0 => ha (by simp; omega), fun i hi => ⟨?_, ?_⟩⟩
  · rw [hcell (i * 2) (by simp; omega), ← rngs_from? l i hi]
    exact (List.getElem?_eq_getElem _).symm
  · rw [Nat.add_assoc, hcell (i * 2 + 1) (by simp; omega), ← rngs_to? l i hi]
    exact (List.getElem?_eq_getElem _).symm
end S9
end Go.Proofs.YtacalpgiopgkkaaDoor
