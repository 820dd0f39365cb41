/-
  The calls of a nil house; a change of a mailbox.
-/
import Derived.Test.YtacalpgiopgkkaaGreatDoorHse
import Derived.Laws.EntriesVeiled
namespace Go.Proofs.YtacalpgiopgkkaaGreatDoor
set_option linter.unusedVariables false
open Go.RowKit Go.MapKept
attribute [local go_sem] Oper.semAt_some

set_option maxRecDepth 100000 in
theorem change_nil (n f : Value) (q : Option Addr) (w : World) : Calls Tryz.prog 23 #[.pointer none, n, f, .pointer q] w fun e w' => e = .returned (.int .i64 2) ∧ w = w' := by
  go_enter Tryz.func23, Tryz.ntmps23
  go_wp2_with fail
  go_ret
  exact ⟨rfl, rfl⟩
theorem of_same {w : World} {v : Value} {e : Ending} {w' : World} (h : e = .returned v ∧ w = w') : e = .returned v ∧ Below w.heap.size w w' := ⟨h.1, by rw [← h.2]; exact Below.refl _ _⟩
set_option maxRecDepth 100000 in
theorem create_nil (n : Value) (w : World) : Calls Tryz.prog 9 #[.pointer none, n] w fun e w' => e = .returned (.int .i64 2) ∧ Below w.heap.size w w' := by
  go_enter Tryz.func9, Tryz.ntmps9
  go_wp2_with fail
  go_ret
  exact ⟨rfl, Below.refl _ _⟩
set_option maxRecDepth 100000 in
set_option maxHeartbeats 1000000 in
theorem delete_nil (n : ByteArray) (w : World) : Calls Tryz.prog 10 #[.pointer none, .string n] w fun e w' => e = .returned (.int .i64 2) ∧ Below w.heap.size w w' := by
  go_enter Tryz.func10, Tryz.ntmps10
  go_wp2_with (go_at_call 23; refine (change_nil _ _ _ _).mono ?_; rintro e w1 ⟨rfl, rfl⟩)
  go_ret
  exact ⟨rfl, (((Below.refl _ _).alloc (Nat.le_refl _) _).alloc (by simp) _).alloc (by simp; omega) _⟩
set_option maxRecDepth 100000 in
set_option maxHeartbeats 1000000 in
theorem rename_nil (n m : ByteArray) (w : World) : Calls Tryz.prog 11 #[.pointer none, .string n, .string m] w fun e w' => e = .returned (.int .i64 2) ∧ Below w.heap.size w w' := by
  go_enter Tryz.func11, Tryz.ntmps11
  go_wp2_with fail
  go_ret
  exact ⟨rfl, (((Below.refl _ _).alloc (Nat.le_refl _) _).alloc (by simp) _).alloc (by simp; omega) _⟩
set_option maxRecDepth 100000 in
set_option maxHeartbeats 1000000 in
theorem reset_nil (n : ByteArray) (w : World) : Calls Tryz.prog 12 #[.pointer none, .string n] w fun e w' => e = .returned (.int .i64 2) ∧ Below w.heap.size w w' := by
  go_enter Tryz.func12, Tryz.ntmps12
  go_wp2_with (go_at_call 23; refine (change_nil _ _ _ _).mono ?_; rintro e w1 ⟨rfl, rfl⟩)
  go_ret
  exact ⟨rfl, (Below.refl _ _).alloc (Nat.le_refl _) _⟩
set_option maxRecDepth 100000 in
set_option maxHeartbeats 1000000 in
theorem store_nil (n : ByteArray) (u d : Int) (la : Option Addr) (ln lc : Nat) (w : World) : Calls Tryz.prog 13 #[.pointer none, .string n, .int .u32 u, .int .i64 d, .slice la ln lc] w fun e w' => e = .returned (.int .i64 2) ∧ Below w.heap.size w w' := by
  go_enter Tryz.func13, Tryz.ntmps13
  go_wp2_with (go_at_call 23; refine (change_nil _ _ _ _).mono ?_; rintro e w1 ⟨rfl, rfl⟩)
  go_ret
  exact ⟨rfl, (Below.refl _ _).alloc (Nat.le_refl _) _⟩
set_option maxRecDepth 100000 in
set_option maxHeartbeats 1000000 in
theorem append_nil (n d : ByteArray) (la ba : Option Addr) (ln lc bn bc : Nat) (w : World) : Calls Tryz.prog 15 #[.pointer none, .string n, .slice la ln lc, .string d, .slice ba bn bc] w fun e w' => e = .returned (.tuple #[.int .u32 0, .int .i64 2]) ∧ Below w.heap.size w w' := by
  go_enter Tryz.func15, Tryz.ntmps15
  go_wp2_with (go_at_call 23; refine (change_nil _ _ _ _).mono ?_; rintro e w1 ⟨rfl, rfl⟩)
  exact bodyPost_ret (results_tmp2 rfl _ _ _) rfl ⟨rfl, (Below.refl _ _).alloc (Nat.le_refl _) _⟩
set_option maxRecDepth 100000 in
set_option maxHeartbeats 1000000 in
theorem names_nil (w : World) : Calls Tryz.prog 17 #[.pointer none] w fun e w' => e = .returned (.slice none 0 0) ∧ Below w.heap.size w w' := by
  go_enter Tryz.func17, Tryz.ntmps17
  go_wp2_with fail
  go_ret
  exact ⟨rfl, Below.refl _ _⟩
set_option maxRecDepth 100000 in
set_option maxHeartbeats 1000000 in
theorem fork_nil (w : World) : Calls Tryz.prog 19 #[.pointer none] w fun e w' => e = .returned (.pointer none) ∧ Below w.heap.size w w' := by
  go_enter Tryz.func19, Tryz.ntmps19
  go_wp2_with fail
  go_ret
  exact ⟨rfl, Below.refl _ _⟩
/-- a mailbox that is none -/
def boxZ : List Value := [.string ⟨#[]⟩, .int .u32 0, .int .u32 0, .slice none 0 0]
set_option maxRecDepth 100000 in
set_option maxHeartbeats 1000000 in
theorem box_nil (n : ByteArray) (w : World) : Calls Tryz.prog 16 #[.pointer none, .string n] w fun e w' => e = .returned (.tuple #[.agg boxZ.toArray, .bool false]) ∧ Below w.heap.size w w' := by
  have hb : ∀ C : Array Value, Below w.heap.size w (w.alloc (.cells C 45)) := fun C => (Below.refl _ w).alloc (Nat.le_refl _) _
  have HB := Lib.hid hb
  clear hb
  go_enter Tryz.func16, Tryz.ntmps16
  go_wp2_with fail
  refine bodyPost_ret (v := .tuple #[.agg boxZ.toArray, .bool false]) (by
    unfold boxZ
    simp [results, Tryz.results16, asAddr, loadVar, go_sem]) rfl ⟨rfl, HB.out _⟩
end Go.Proofs.YtacalpgiopgkkaaGreatDoor
