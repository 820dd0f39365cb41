/-
  The contract of Seconds.
-/
import Derived.Test.YtacalpgiopgkkaaDoorS8Ahead
import Derived.Test.YtacalpgiopgkkaaDoorS8Right
import Derived.Deep.RegionHeld3
namespace Go.Proofs.YtacalpgiopgkkaaDoor
namespace S8
set_option linter.unusedVariables false
open Go.RowKit

/-- the cells of a stamp in a block -/
structure StAt (w : World) (b : Nat) (y mo d h mi s z : Int) : Prop where
  c0 : w.cell? ⟨b, 0, none⟩ = some (.int .i64 y)
  c1 : w.cell? ⟨b, 1, none⟩ = some (.int .i64 mo)
  c2 : w.cell? ⟨b, 2, none⟩ = some (.int .i64 d)
  c3 : w.cell? ⟨b, 3, none⟩ = some (.int .i64 h)
  c4 : w.cell? ⟨b, 4, none⟩ = some (.int .i64 mi)
  c5 : w.cell? ⟨b, 5, none⟩ = some (.int .i64 s)
  c6 : w.cell? ⟨b, 6, none⟩ = some (.int .i64 z)

theorem StAt.new (w : World) (y mo d h mi s z : Int) : StAt (w.alloc (.cells #[.int .i64 y, .int .i64 mo, .int .i64 d, .int .i64 h, .int .i64 mi, .int .i64 s, .int .i64 z] 74)) w.heap.size y mo d h mi s z := by
  have c : ∀ j, (w.alloc (.cells #[.int .i64 y, .int .i64 mo, .int .i64 d, .int .i64 h, .int .i64 mi, .int .i64 s, .int .i64 z] 74)).cell? ⟨w.heap.size, j, none⟩ = #[Value.int .i64 y, .int .i64 mo, .int .i64 d, .int .i64 h, .int .i64 mi, .int .i64 s, .int .i64 z][j]? := fun j => cell_of_row _ _ j _ 74 (0, 0) (heap_alloc_new w _)
  exact ⟨c 0, c 1, c 2, c 3, c 4, c 5, c 6⟩

theorem StAt.below {w w' : World} {b S : Nat} {y mo d h mi s z : Int} (k : StAt w b y mo d h mi s z) (hb : Below S w w') (hS : b < S) : StAt w' b y mo d h mi s z :=
  ⟨(hb.cell (p := ⟨b, 0, none⟩) hS).trans k.c0, (hb.cell (p := ⟨b, 1, none⟩) hS).trans k.c1, (hb.cell (p := ⟨b, 2, none⟩) hS).trans k.c2, (hb.cell (p := ⟨b, 3, none⟩) hS).trans k.c3,
   (hb.cell (p := ⟨b, 4, none⟩) hS).trans k.c4, (hb.cell (p := ⟨b, 5, none⟩) hS).trans k.c5, (hb.cell (p := ⟨b, 6, none⟩) hS).trans k.c6⟩

theorem sum4 {n : Nat} (a b d : Int) (h0 : 365 * (n : Int) ≤ a) (h1 : a ≤ 366 * (n : Int)) (h2 : 365 * ((70 : Nat) : Int) ≤ b) (h3 : b ≤ 366 * ((70 : Nat) : Int)) (h4 : n ≤ 1200) (h5 : 1 ≤ d) (h6 : d ≤ 31) : Value.int .i64 (IntKind.i64.wrap (IntKind.i64.wrap (IntKind.i64.wrap (a - b) + d) - 1)) = Value.int .i64 (a - b + d - 1) := by
  rw [IntWalk.i64_in (a - b) (by omega), IntWalk.i64_in (a - b + d) (by omega), IntWalk.i64_in (a - b + d - 1) (by omega)]

end S8
end Go.Proofs.YtacalpgiopgkkaaDoor
