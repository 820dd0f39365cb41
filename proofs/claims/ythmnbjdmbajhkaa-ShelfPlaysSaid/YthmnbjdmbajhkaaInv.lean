/-
  How the calls through container/heap's interface are met; maps that are made.
-/
import Derived.Test.YthmnbjdmbajhkaaMem
import Derived.WideMake
namespace Go.Proofs.Ythmnbjdmbajhkaa
set_option linter.unusedVariables false
open Go.RowKit

theorem chk_some (ts : Array TypeId) (t : TypeId) (a : Addr) (s1 s2 : String) : Builtin.ssaWrapNilChk_ ts t #[.pointer (some a), strVal s1, strVal s2] = pure (.pointer (some a)) := rfl
theorem run_method_val {P : Program} {t elem : TypeId} {i : TypeInfo} {m} {name : String} {f : FuncId} (hi : P.info? t = some i) (hm : i.methods.find? (·.name == name) = some m) (hp : m.path = #[]) (hf : m.func = some (f, false)) (ht : P.underlying t = some (.pointer elem)) (fuel : Nat) (a : Addr) (w : World) (v : Value) (hl : (loadVar elem a).run P w = .ok v w) :
    (method (fuel + 1) t (.pointer (some a)) name).run P w = .ok (f, v) w := by
  simp [loadVar, go_sem] at hl
  simp [method, typeInfo, hi, hm, hp, hf, follow, receiverAt, run_underlying ht, Place.get, chk_some, asAddr, loadVar, go_sem]
  rw [hl]
  rfl

theorem Try.method62 (name : String) (h : name = "Len" ∨ name = "Swap" ∨ name = "Less") : ∃ i m, Try.prog.info? 62 = some i ∧ i.methods.find? (·.name == name) = some m ∧ m.path = #[] ∧ m.func = some (if name = "Len" then 48 else if name = "Swap" then 50 else 49, false) := by
  cases hi : Try.prog.info? 62 with
  | none =>
    exfalso
    have : (Try.prog.info? 62).isSome = true := by kernel_rfl
    rw [hi] at this; cases this
  | some i =>
    have hk : (Try.prog.info? 62).map (fun i => (i.methods.find? (·.name == name)).map fun m => (m.path.size, m.func)) = some (some (0, some (if name = "Len" then 48 else if name = "Swap" then 50 else 49, false))) := by
      rcases h with rfl | rfl | rfl <;> kernel_rfl
    rw [hi] at hk
    simp only [Option.map_some, Option.some.injEq] at hk
    cases hm : i.methods.find? (·.name == name) with
    | none => rw [hm] at hk; cases hk
    | some m =>
      rw [hm] at hk
      simp only [Option.map_some, Option.some.injEq, Prod.mk.injEq] at hk
      exact ⟨i, m, rfl, hm, Array.size_eq_zero_iff.1 hk.1, hk.2⟩
theorem inv_len (a : Addr) (w : World) (v : Value) (hl : (loadVar 54 a).run Try.prog w = .ok v w) : (callMethod (.iface 62 (.pointer (some a))) "Len" #[]).run Try.prog w = .ok (.enter 48 #[v]) w := by
  obtain ⟨i, m, hi, hm, hp, hf⟩ := Try.method62 "Len" (.inl rfl)
  have hc : (callFunc 48 (#[v] ++ #[])).run Try.prog w = .ok (.enter 48 #[v]) w := by kernel_rfl
  simp only [callMethod]
  simp [run_method_val hi hm hp hf Try.underlying62 _ a w v hl, program, Sem.run, Made.depth]
theorem inv_swap (a : Addr) (x y : Value) (w : World) (v : Value) (hl : (loadVar 54 a).run Try.prog w = .ok v w) : (callMethod (.iface 62 (.pointer (some a))) "Swap" #[x, y]).run Try.prog w = .ok (.enter 50 #[v, x, y]) w := by
  obtain ⟨i, m, hi, hm, hp, hf⟩ := Try.method62 "Swap" (.inr (.inl rfl))
  simp only [callMethod]
  simp [run_method_val hi hm hp hf Try.underlying62 _ a w v hl, program, Sem.run, Made.depth]
theorem meth_len (a : Addr) (w : World) (v : Value) (hl : (loadVar 54 a).run Try.prog w = .ok v w) : (method 199 62 (.pointer (some a)) "Len").run Try.prog w = .ok (48, v) w := by
  obtain ⟨i, m, hi, hm, hp, hf⟩ := Try.method62 "Len" (.inl rfl)
  exact run_method_val hi hm hp hf Try.underlying62 198 a w v hl
theorem meth_swap (a : Addr) (w : World) (v : Value) (hl : (loadVar 54 a).run Try.prog w = .ok v w) : (method 199 62 (.pointer (some a)) "Swap").run Try.prog w = .ok (50, v) w := by
  obtain ⟨i, m, hi, hm, hp, hf⟩ := Try.method62 "Swap" (.inr (.inl rfl))
  exact run_method_val hi hm hp hf Try.underlying62 198 a w v hl
theorem inv_push (a : Addr) (x : Value) (w : World) : (callMethod (.iface 62 (.pointer (some a))) "Push" #[x]).run Try.prog w = .ok (.enter 57 #[.pointer (some a), x]) w := by kernel_rfl
theorem inv_pop (a : Addr) (w : World) : (callMethod (.iface 62 (.pointer (some a))) "Pop" #[]).run Try.prog w = .ok (.enter 56 #[.pointer (some a)]) w := by kernel_rfl
theorem make52 (w : World) : (Instr.makeMap 52 none).run Try.prog w = .ok (.map (some w.heap.size)) (w.alloc (.map #[] 0)) := rfl
end Go.Proofs.Ythmnbjdmbajhkaa
