/-
  The contracts of Right, of the program and of the reference: a right stamp.
-/
import Derived.Test.YtacalpgiopgkkaaDoorS8RightLex
import Derived.Deep.RegionHeld3
import Derived.Lib.QuietBelow
import Derived.BigQuiet
namespace Go.Proofs.YtacalpgiopgkkaaDoor
namespace S8
set_option linter.unusedVariables false
open Go.RowKit Go.Sort

/-- a stamp in a block -/
theorem st_cells {y mo d h mi s z : Int} {w W w1 : World} {S : Nat} (hb : Below S W w1) (hW : W.heap = (w.alloc (.cells #[.int .i64 y, .int .i64 mo, .int .i64 d, .int .i64 h, .int .i64 mi, .int .i64 s, .int .i64 z] 74)).heap) (hS : S = W.heap.size) :
    w1.cell? ⟨w.heap.size, 0, none⟩ = some (.int .i64 y) ∧ w1.cell? ⟨w.heap.size, 1, none⟩ = some (.int .i64 mo) ∧ w1.cell? ⟨w.heap.size, 2, none⟩ = some (.int .i64 d) ∧ w1.cell? ⟨w.heap.size, 3, none⟩ = some (.int .i64 h) ∧
    w1.cell? ⟨w.heap.size, 4, none⟩ = some (.int .i64 mi) ∧ w1.cell? ⟨w.heap.size, 5, none⟩ = some (.int .i64 s) ∧ w1.cell? ⟨w.heap.size, 6, none⟩ = some (.int .i64 z) := by
  subst hS
  have hs : w.heap.size < W.heap.size := by rw [hW]; simp
  have hh : w1.heap[w.heap.size]? = some (.cells #[.int .i64 y, .int .i64 mo, .int .i64 d, .int .i64 h, .int .i64 mi, .int .i64 s, .int .i64 z] 74 (0, 0)) := by
    rw [hb.block _ hs, hW]
    exact heap_alloc_new w _
  have c : ∀ j, w1.cell? ⟨w.heap.size, j, none⟩ = #[Value.int .i64 y, .int .i64 mo, .int .i64 d, .int .i64 h, .int .i64 mi, .int .i64 s, .int .i64 z][j]? := fun j => cell_of_row _ _ j _ 74 (0, 0) hh
  exact ⟨c 0, c 1, c 2, c 3, c 4, c 5, c 6⟩

theorem st_grow (y mo d h mi s z : Int) (w : World) : (∀ n os, (grow (redrawn (w.alloc (.cells #[.int .i64 y, .int .i64 mo, .int .i64 d, .int .i64 h, .int .i64 mi, .int .i64 s, .int .i64 z] 74)) n) os).cell? ⟨w.heap.size, 0, none⟩ = some (.int .i64 y)) ∧ (∀ n os, (grow (redrawn (w.alloc (.cells #[.int .i64 y, .int .i64 mo, .int .i64 d, .int .i64 h, .int .i64 mi, .int .i64 s, .int .i64 z] 74)) n) os).cell? ⟨w.heap.size, 1, none⟩ = some (.int .i64 mo)) ∧ (∀ n os, (grow (redrawn (w.alloc (.cells #[.int .i64 y, .int .i64 mo, .int .i64 d, .int .i64 h, .int .i64 mi, .int .i64 s, .int .i64 z] 74)) n) os).cell? ⟨w.heap.size, 2, none⟩ = some (.int .i64 d)) ∧ (∀ n os, (grow (redrawn (w.alloc (.cells #[.int .i64 y, .int .i64 mo, .int .i64 d, .int .i64 h, .int .i64 mi, .int .i64 s, .int .i64 z] 74)) n) os).cell? ⟨w.heap.size, 3, none⟩ = some (.int .i64 h)) ∧ (∀ n os, (grow (redrawn (w.alloc (.cells #[.int .i64 y, .int .i64 mo, .int .i64 d, .int .i64 h, .int .i64 mi, .int .i64 s, .int .i64 z] 74)) n) os).cell? ⟨w.heap.size, 4, none⟩ = some (.int .i64 mi)) ∧ (∀ n os, (grow (redrawn (w.alloc (.cells #[.int .i64 y, .int .i64 mo, .int .i64 d, .int .i64 h, .int .i64 mi, .int .i64 s, .int .i64 z] 74)) n) os).cell? ⟨w.heap.size, 5, none⟩ = some (.int .i64 s)) ∧ (∀ n os, (grow (redrawn (w.alloc (.cells #[.int .i64 y, .int .i64 mo, .int .i64 d, .int .i64 h, .int .i64 mi, .int .i64 s, .int .i64 z] 74)) n) os).cell? ⟨w.heap.size, 6, none⟩ = some (.int .i64 z)) := by
  have c : ∀ j v, #[Value.int .i64 y, .int .i64 mo, .int .i64 d, .int .i64 h, .int .i64 mi, .int .i64 s, .int .i64 z][j]? = some v → ∀ n os, (grow (redrawn (w.alloc (.cells #[.int .i64 y, .int .i64 mo, .int .i64 d, .int .i64 h, .int .i64 mi, .int .i64 s, .int .i64 z] 74)) n) os).cell? ⟨w.heap.size, j, none⟩ = some v := fun j v hj n os => cell_regrown ((cell_of_row _ _ j _ 74 (0, 0) (heap_alloc_new w _)).trans hj) n os
  exact ⟨c 0 _ rfl, c 1 _ rfl, c 2 _ rfl, c 3 _ rfl, c 4 _ rfl, c 5 _ rfl, c 6 _ rfl⟩

set_option maxHeartbeats 2000000 in
theorem right_yes (y mo d h mi s z : Int) (w : World) (r : RightS y mo d h mi s z) : Calls Tryd.prog 44 #[.agg #[.int .i64 y, .int .i64 mo, .int .i64 d, .int .i64 h, .int .i64 mi, .int .i64 s, .int .i64 z]] w fun e w' => e = .returned (.bool true) ∧ Below w.heap.size w w' := by
  obtain ⟨a1, a2, a3, a4, a5, a6, a7, a8, a9, a10, a11, a12, a13, a14⟩ := r
  go_enter Tryd.func44, Tryd.ntmps44
  go_wp2_with fail
  simp only [List.append_eq, List.cons_append, List.nil_append]
  have hb0 := st_grow y mo d h mi s z w
  obtain ⟨c0, c1, c2, c3, c4, c5, c6⟩ := hb0
  refine wp_region_quiet_below (by kernel_rfl) (by exact lex18) ?_
  repeat (go_big_quiet_step ((go_at_call 64; exact Calls.regrown_of (days_any y mo _ (by omega) (by omega) a3 a4))))
  refine wpQuiet_nil ?_
  intro _ hw'
  obtain ⟨p, rfl⟩ := hw'
  clear c0 c1 c2 c3 c4 c5 c6
  go_wp2_with fail
  go_ret
  exact ⟨rfl, ((Below.refl _ _).alloc (Nat.le_refl _) _).trans ((below_regrown _ p.d p.os).mono (by simp))⟩
end S8
end Go.Proofs.YtacalpgiopgkkaaDoor
