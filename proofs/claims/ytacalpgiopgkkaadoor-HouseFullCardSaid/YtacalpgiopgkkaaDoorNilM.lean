/-
  The calls of a nil house; a change of a mailbox.
-/
import Derived.Test.YtacalpgiopgkkaaDoorHse
import Derived.Laws.EntriesVeiled
namespace Go.Proofs.YtacalpgiopgkkaaDoor
set_option linter.unusedVariables false
open Go.RowKit Go.MapKept
attribute [local go_sem] Oper.semAt_some

set_option maxRecDepth 100000 in
theorem change_nil (n f : Value) (q : Option Addr) (w : World) : Calls Tryd.prog 12 #[.pointer none, n, f, .pointer q] w fun e w' => e = .returned (.int .i64 2) ∧ w = w' := by
  go_enter Tryd.func12, Tryd.ntmps12
  go_wp2_with fail
  go_ret
  exact ⟨rfl, rfl⟩
theorem of_same {w : World} {v : Value} {e : Ending} {w' : World} (h : e = .returned v ∧ w = w') : e = .returned v ∧ Below w.heap.size w w' := ⟨h.1, by rw [← h.2]; exact Below.refl _ _⟩
set_option maxRecDepth 100000 in
theorem create_nil (n : Value) (w : World) : Calls Tryd.prog 7 #[.pointer none, n] w fun e w' => e = .returned (.int .i64 2) ∧ Below w.heap.size w w' := by
  go_enter Tryd.func7, Tryd.ntmps7
  go_wp2_with fail
  go_ret
  exact ⟨rfl, Below.refl _ _⟩
set_option maxRecDepth 100000 in
set_option maxHeartbeats 1000000 in
theorem append_nil (n d : ByteArray) (la ba : Option Addr) (ln lc bn bc : Nat) (w : World) : Calls Tryd.prog 6 #[.pointer none, .string n, .slice la ln lc, .string d, .slice ba bn bc] w fun e w' => e = .returned (.tuple #[.int .u32 0, .int .i64 2]) ∧ Below w.heap.size w w' := by
  go_enter Tryd.func6, Tryd.ntmps6
  go_wp2_with (go_at_call 12; refine (change_nil _ _ _ _).mono ?_; rintro e w1 ⟨rfl, rfl⟩)
  exact bodyPost_ret (results_tmp2 rfl _ _ _) rfl ⟨rfl, (Below.refl _ _).alloc (Nat.le_refl _) _⟩
set_option maxRecDepth 100000 in
set_option maxHeartbeats 1000000 in
theorem names_nil (w : World) : Calls Tryd.prog 9 #[.pointer none] w fun e w' => e = .returned (.slice none 0 0) ∧ Below w.heap.size w w' := by
  go_enter Tryd.func9, Tryd.ntmps9
  go_wp2_with fail
  go_ret
  exact ⟨rfl, Below.refl _ _⟩
/-- a mailbox that is none -/
def boxZ : List Value := [.string ⟨#[]⟩, .int .u32 0, .int .u32 0, .slice none 0 0]
end Go.Proofs.YtacalpgiopgkkaaDoor
