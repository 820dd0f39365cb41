/-
  The contract of Sector: bytes over and over.
-/
import Derived.Test.YtmnbkhgogogeiaaMg4
namespace Go.Proofs.Ytmnbkhgogogeiaa
set_option linter.unusedVariables false
open Go.RowKit

/-- so many bytes of a sector of bytes over and over, the rest zeros -/
def over (l : List Nat) (k : Nat) : List Nat := (List.range 64).map fun i => if i < k then l.getD (i % l.length) 0 else 0
def secOf (l : List Nat) : List Nat := over l 64
theorem over_len (l : List Nat) (k : Nat) : (over l k).length = 64 := by simp [over]
theorem secOf_len (l : List Nat) : (secOf l).length = 64 := over_len l 64
theorem over_zero (l : List Nat) : over l 0 = zeros 64 := by simp only [over, zeros, Nat.not_lt_zero, if_false]; decide
theorem over_lt {l : List Nat} (h : ∀ n ∈ l, n < 256) (k : Nat) : ∀ n ∈ over l k, n < 256 := by
  intro n hn
  obtain ⟨i, _, rfl⟩ := List.mem_map.1 hn
  split
  · rw [List.getD_eq_getElem?_getD]
    cases hq : l[i % l.length]? with
    | none => simp
    | some x => simpa using h x (List.mem_of_getElem? hq)
  · decide
theorem secOf_lt {l : List Nat} (h : ∀ n ∈ l, n < 256) : ∀ n ∈ secOf l, n < 256 := over_lt h 64
theorem over_nil (k : Nat) : over [] k = zeros 64 := by
  have e : (fun i => if i < k then ([] : List Nat).getD (i % ([] : List Nat).length) 0 else 0) = fun _ => 0 := by funext i; simp
  unfold over
  rw [e]
  decide
theorem over_succ (l : List Nat) (k : Nat) (hk : k < 64) : over l (k + 1) = (over l k).set k (l.getD (k % l.length) 0) := by
  apply List.ext_getElem
  · simp [over]
  · intro i h1 h2
    simp only [over, List.getElem_map, List.getElem_range, List.getElem_set]
    by_cases e : k = i
    · subst e; simp
    · have : (i < k + 1) = (i < k) := by simp; omega
      simp [e, this]

/-- 64 zeros are made -/
theorem make_64 {w : World} {ops : Array Oper} {rest : List Oper} {o : Oper} {a : Act} {Q : Exit → Act → World → Prop} (hg : o.guard = none) (l c : Operand) (hop : o.op = Op.makeSlice 23 l c)
    (hl : a.eval l = .int .i64 64) (hc : a.eval c = .int .i64 64)
    (h : ∀ w', OwnB w' w.heap.size (.slice (some ⟨w.heap.size, 0, none⟩) 64 64) (zeros 64) → Below w.heap.size w w' → wpList Try.prog ops Q rest (a.put o.dst (.slice (some ⟨w.heap.size, 0, none⟩) 64 64)) w') :
    wpList Try.prog ops Q (o :: rest) a w := by
  obtain ⟨i0, hi, hz0, hz1, hz2⟩ := info_parts Try.info5
  refine wpList_make_full _ hg l c 23 hop w.heap.size 5 i0 (.int .u8 0) 1 Try.underlying23 hi hz0 hz1 _ _ _ _ 64 hl hc rfl rfl (by rw [hz2]; decide) (by decide) (Nat.le_refl _) ?_
  intro w' h1 h2
  refine h w' ?_ ((Below.refl _ _).grown h2 (Nat.le_refl _) (by simp))
  have e : (madeCells (Value.int IntKind.u8 0).cells (64 * 1)).toList = u8s (zeros 64) := by kernel_rfl
  rw [e] at h1
  exact h1
end Go.Proofs.Ytmnbkhgogogeiaa
