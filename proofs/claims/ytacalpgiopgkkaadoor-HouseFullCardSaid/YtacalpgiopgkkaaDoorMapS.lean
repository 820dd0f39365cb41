/-
  The house's map: pointers to mailboxes by their names.
-/
import Derived.Test.YtacalpgiopgkkaaDoorMem
import Derived.MapKept
namespace Go.Proofs.YtacalpgiopgkkaaDoor
set_option linter.unusedVariables false
open Go.RowKit Go.MapKept

theorem run_getMap {P : Program} {α : Type} (m : Nat) (es : Array MapEntry) (c : Nat) (k : Obj → Sem α) (w : World) (h : w.heap[m]? = some (.map es c)) : (Sem.getObj m k).run P w = (k (.map es c)).run P w := by
  simp only [Sem.run, h]
def setMap (w : World) (m : Nat) (o : Obj) : World := { w with heap := w.heap.setIfInBounds m o }
theorem run_setMap {P : Program} {α : Type} (m : Nat) (es : Array MapEntry) (c : Nat) (o : Obj) (k : Sem α) (w : World) (h : w.heap[m]? = some (.map es c)) : (Sem.setObj m o k).run P w = k.run P (setMap w m o) := by
  simp only [Sem.run, h]
  rfl
/-- an entry: a name, its mailbox' block, when it was made -/
def entB (x : ByteArray × Nat × Nat) : MapEntry := { key := .string x.1, val := .pointer (some ⟨x.2.1, 0, none⟩), born := x.2.2 }
def BMap (w : World) (m : Nat) (L : List (ByteArray × Nat × Nat)) (c : Nat) : Prop := w.heap[m]? = some (.map (L.map entB).toArray c)
/-- where the one of a name stands, and its block -/
def atB : List (ByteArray × Nat × Nat) → ByteArray → Option (Nat × Nat)
  | [], _ => none
  | x :: r, s => if x.1 = s then some (0, x.2.1) else (atB r s).map fun y => (y.1 + 1, y.2)
theorem findNow_b (L : List (ByteArray × Nat × Nat)) (s : ByteArray) (i : Nat) : Instr.findNow .string (.string s) (L.map entB) i = some ((atB L s).map fun y => (y.1 + i, Value.pointer (some ⟨y.2, 0, none⟩))) := by
  induction L generalizing i with
  | nil => rfl
  | cons x r ih =>
    simp only [List.map_cons, Instr.findNow, show (entB x).key = .string x.1 from rfl, Instr.sameNow]
    by_cases e : x.1 = s
    · rw [show (s == x.1) = true from (bytes_beq _ _).2 e.symm]
      simp [atB, e, entB]
    · rw [show (s == x.1) = false from by cases h : (s == x.1) <;> first | rfl | exact absurd ((bytes_beq _ _).1 h).symm e]
      simp only [atB, if_neg e, ih, Option.map_map, Function.comp_def]
      congr 3
      funext y
      simp; omega
theorem zero64 (w : World) : (zeroValue 50).run Tryd.prog w = .ok (.pointer none) w := by kernel_rfl
theorem run_checkB (b : Bool) (s : ByteArray) (w : World) : (Instr.checkKey b 10000 9 (.string s)).run Tryd.prog w = .ok () w := run_checkKey (k := .string s) Tryd.underlying9 (by exact True.intro) _ _
theorem run_findB (L : List (ByteArray × Nat × Nat)) (s : ByteArray) (w : World) : (Instr.findKey 9 (.string s) (L.map entB)).run Tryd.prog w = .ok ((atB L s).map fun y => (y.1, Value.pointer (some ⟨y.2, 0, none⟩))) w := by
  have h := findNow_b L s 0
  simp only [Nat.add_zero] at h
  exact run_findKey Tryd.underlying9 h
theorem look_yes (m c : Nat) (L : List (ByteArray × Nat × Nat)) (s : ByteArray) (i b : Nat) (w : World) (h : BMap w m L c) (hq : atB L s = some (i, b)) : (Instr.lookup 36 (.map (some m)) (.string s) true).run Tryd.prog w = .ok (.tuple #[.pointer (some ⟨b, 0, none⟩), .bool true]) w := by
  have hk := fun b => run_checkB b s w
  have hf := run_findB L s w
  unfold BMap at h
  rw [hq] at hf
  simp [Instr.lookup, run_underlying Tryd.underlying36, getObj, run_getMap _ _ _ _ _ h, hk, hf, go_sem]
theorem look_no (m c : Nat) (L : List (ByteArray × Nat × Nat)) (s : ByteArray) (w : World) (h : BMap w m L c) (hq : atB L s = none) : (Instr.lookup 36 (.map (some m)) (.string s) true).run Tryd.prog w = .ok (.tuple #[.pointer none, .bool false]) w := by
  have hz := zero64 w
  have hk := fun b => run_checkB b s w
  have hf := run_findB L s w
  unfold BMap at h
  rw [hq] at hf
  simp [Instr.lookup, run_underlying Tryd.underlying36, getObj, run_getMap _ _ _ _ _ h, hk, hz, hf, go_sem]
theorem put_b (m c : Nat) (L : List (ByteArray × Nat × Nat)) (s : ByteArray) (b : Nat) (w : World) (h : BMap w m L c) (hq : atB L s = none) :
    (Instr.mapUpdate 36 (.map (some m)) (.string s) (.pointer (some ⟨b, 0, none⟩))).run Tryd.prog w = .ok () (setMap w m (.map ((L ++ [(s, b, c)]).map entB).toArray (c + 1))) := by
  have hk := fun b => run_checkB b s w
  have hf := run_findB L s w
  unfold BMap at h
  rw [hq] at hf
  simp [Instr.mapUpdate, run_underlying Tryd.underlying36, getObj, setObj, run_getMap _ _ _ _ _ h, run_setMap _ _ _ _ _ _ h, hk, hf, go_sem, entB]
end Go.Proofs.YtacalpgiopgkkaaDoor
