/-
  The contracts of Right, of the program and of the reference: a right stamp.
-/
import Derived.Test.YthcgdbmcpnmeeaaDays
import Derived.Deep.RegionHeld3
namespace Go.Proofs.Ythcgdbmcpnmeeaa
set_option linter.unusedVariables false
open Go.RowKit

/-- a stamp in a block -/
theorem st_cells {y mo d h mi s z : Int} {w W w1 : World} {S : Nat} (hb : Below S W w1) (hW : W.heap = (w.alloc (.cells #[.int .i64 y, .int .i64 mo, .int .i64 d, .int .i64 h, .int .i64 mi, .int .i64 s, .int .i64 z] 23)).heap) (hS : S = W.heap.size) :
    w1.cell? ⟨w.heap.size, 0, none⟩ = some (.int .i64 y) ∧ w1.cell? ⟨w.heap.size, 1, none⟩ = some (.int .i64 mo) ∧ w1.cell? ⟨w.heap.size, 2, none⟩ = some (.int .i64 d) ∧ w1.cell? ⟨w.heap.size, 3, none⟩ = some (.int .i64 h) ∧
    w1.cell? ⟨w.heap.size, 4, none⟩ = some (.int .i64 mi) ∧ w1.cell? ⟨w.heap.size, 5, none⟩ = some (.int .i64 s) ∧ w1.cell? ⟨w.heap.size, 6, none⟩ = some (.int .i64 z) := by
  subst hS
  have hs : w.heap.size < W.heap.size := by rw [hW]; simp
  have hh : w1.heap[w.heap.size]? = some (.cells #[.int .i64 y, .int .i64 mo, .int .i64 d, .int .i64 h, .int .i64 mi, .int .i64 s, .int .i64 z] 23 (0, 0)) := by
    rw [hb.block _ hs, hW]
    exact heap_alloc_new w _
  have c : ∀ j, w1.cell? ⟨w.heap.size, j, none⟩ = #[Value.int .i64 y, .int .i64 mo, .int .i64 d, .int .i64 h, .int .i64 mi, .int .i64 s, .int .i64 z][j]? := fun j => cell_of_row _ _ j _ 23 (0, 0) hh
  exact ⟨c 0, c 1, c 2, c 3, c 4, c 5, c 6⟩

set_option maxHeartbeats 2000000 in
theorem right_yes (y mo d h mi s z : Int) (w : World) (r : RightS y mo d h mi s z) : Calls Try.prog 18 #[.agg #[.int .i64 y, .int .i64 mo, .int .i64 d, .int .i64 h, .int .i64 mi, .int .i64 s, .int .i64 z]] w fun e w' => e = .returned (.bool true) ∧ Below w.heap.size w w' := by
  obtain ⟨a1, a2, a3, a4, a5, a6, a7, a8, a9, a10, a11, a12, a13, a14⟩ := r
  go_enter Try.func18, Try.ntmps18
  go_wp2_with fail
  simp only [List.append_eq, List.cons_append, List.nil_append]
  go_region_held3 (fun w' => w'.cell? ⟨w.heap.size, 0, none⟩ = some (.int .i64 y) ∧ w'.cell? ⟨w.heap.size, 1, none⟩ = some (.int .i64 mo) ∧ w'.cell? ⟨w.heap.size, 2, none⟩ = some (.int .i64 d) ∧ w'.cell? ⟨w.heap.size, 3, none⟩ = some (.int .i64 h) ∧ w'.cell? ⟨w.heap.size, 4, none⟩ = some (.int .i64 mi) ∧ w'.cell? ⟨w.heap.size, 5, none⟩ = some (.int .i64 s) ∧ w'.cell? ⟨w.heap.size, 6, none⟩ = some (.int .i64 z))
    (first | exact cc | go_keep)
    ((go_at_call 22; refine (days_any y mo _ (by omega) (by omega) a3 a4).mono ?_; rintro e w1 ⟨rfl, hb⟩; have cc := st_cells (w := w) hb rfl rfl; have hB := Lib.hid hb; clear hb))

  all_goals
    go_wp2_with fail
    go_ret
    exact ⟨rfl, (((Below.refl _ _).alloc (Nat.le_refl _) _).drew).trans (hB.out.mono (by simp))⟩
end Go.Proofs.Ythcgdbmcpnmeeaa
