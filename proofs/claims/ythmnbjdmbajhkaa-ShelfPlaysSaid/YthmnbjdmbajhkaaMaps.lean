/-
  The map of the shelf that awake makes: empty, with one thing, with two.
-/
import Derived.Test.YthmnbjdmbajhkaaInv
namespace Go.Proofs.Ythmnbjdmbajhkaa
set_option linter.unusedVariables false
open Go.RowKit

def key (a b : Int) : Value := .agg #[.int .u32 a, .int .u32 b]
theorem run_getMap {P : Program} {α : Type} (m : Nat) (es : Array MapEntry) (c : Nat) (k : Obj → Sem α) (w : World) (h : w.heap[m]? = some (.map es c)) : (Sem.getObj m k).run P w = (k (.map es c)).run P w := by
  simp only [Sem.run, h]
def setMap (w : World) (m : Nat) (o : Obj) : World := { w with heap := w.heap.setIfInBounds m o }
theorem run_setMap {P : Program} {α : Type} (m : Nat) (es : Array MapEntry) (c : Nat) (o : Obj) (k : Sem α) (w : World) (h : w.heap[m]? = some (.map es c)) : (Sem.setObj m o k).run P w = k.run P (setMap w m o) := by
  simp only [Sem.run, h]
  rfl
theorem look0 (m c : Nat) (a b : Int) (w : World) (h : w.heap[m]? = some (.map #[] c)) : (Instr.lookup 52 (.map (some m)) (key a b) false).run Try.prog w = .ok (.pointer none) w := by
  have hz : (zeroValue 57).run Try.prog w = .ok (.pointer none) w := by kernel_rfl
  have hk : (Instr.checkKey true 10000 31 (key a b)).run Try.prog w = .ok () w := by kernel_rfl
  have hf : (Instr.findKey 31 (key a b) []).run Try.prog w = .ok none w := by kernel_rfl
  simp [Instr.lookup, run_underlying Try.underlying52, getObj, run_getMap _ _ _ _ _ h, hk, hz, hf, go_sem]
theorem look1 (m c : Nat) (v : Value) (w : World) (h : w.heap[m]? = some (.map #[{ key := key 1 1, val := v, born := 0 }] c)) : (Instr.lookup 52 (.map (some m)) (key 1 2) false).run Try.prog w = .ok (.pointer none) w := by
  have hz : (zeroValue 57).run Try.prog w = .ok (.pointer none) w := by kernel_rfl
  have hk : (Instr.checkKey false 10000 31 (key 1 2)).run Try.prog w = .ok () w := by kernel_rfl
  have hf : (Instr.findKey 31 (key 1 2) [{ key := key 1 1, val := v, born := 0 }]).run Try.prog w = .ok none w := by kernel_rfl
  simp [Instr.lookup, run_underlying Try.underlying52, getObj, run_getMap _ _ _ _ _ h, hk, hz, hf, go_sem]
theorem put0 (m c : Nat) (a b : Int) (v : Value) (w : World) (h : w.heap[m]? = some (.map #[] c)) : (Instr.mapUpdate 52 (.map (some m)) (key a b) v).run Try.prog w = .ok () (setMap w m (.map #[{ key := key a b, val := v, born := c }] (c + 1))) := by
  have hk : (Instr.checkKey false 10000 31 (key a b)).run Try.prog w = .ok () w := by kernel_rfl
  have hf : (Instr.findKey 31 (key a b) []).run Try.prog w = .ok none w := by kernel_rfl
  simp [Instr.mapUpdate, run_underlying Try.underlying52, getObj, setObj, run_getMap _ _ _ _ _ h, run_setMap _ _ _ _ _ _ h, hk, hf, go_sem]
theorem put1 (m c : Nat) (v u : Value) (w : World) (h : w.heap[m]? = some (.map #[{ key := key 1 1, val := v, born := 0 }] c)) : (Instr.mapUpdate 52 (.map (some m)) (key 1 2) u).run Try.prog w = .ok () (setMap w m (.map #[{ key := key 1 1, val := v, born := 0 }, { key := key 1 2, val := u, born := c }] (c + 1))) := by
  have hk : (Instr.checkKey false 10000 31 (key 1 2)).run Try.prog w = .ok () w := by kernel_rfl
  have hf : (Instr.findKey 31 (key 1 2) [{ key := key 1 1, val := v, born := 0 }]).run Try.prog w = .ok none w := by kernel_rfl
  simp [Instr.mapUpdate, run_underlying Try.underlying52, getObj, setObj, run_getMap _ _ _ _ _ h, run_setMap _ _ _ _ _ _ h, hk, hf, go_sem]
theorem del2 (m c : Nat) (v u : Value) (w : World) (h : w.heap[m]? = some (.map #[{ key := key 1 1, val := v, born := 0 }, { key := key 1 2, val := u, born := 1 }] c)) : (Builtin.delete_ #[52, 31] 0 #[.map (some m), key 1 1]).run Try.prog w = .ok (.tuple #[]) (setMap w m (.map #[{ key := key 1 2, val := u, born := 1 }] c)) := by
  have hk : (Instr.checkKey false 10000 31 (key 1 1)).run Try.prog w = .ok () w := by kernel_rfl
  have hf : (Instr.findKey 31 (key 1 1) [{ key := key 1 1, val := v, born := 0 }, { key := key 1 2, val := u, born := 1 }]).run Try.prog w = .ok (some (0, v)) w := by kernel_rfl
  simp [Builtin.delete_, run_underlying Try.underlying52, getObj, setObj, run_getMap _ _ _ _ _ h, run_setMap _ _ _ _ _ _ h, hk, hf, go_sem]
end Go.Proofs.Ythmnbjdmbajhkaa
