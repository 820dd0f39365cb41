/-
  In, of a row that is nil.
-/
import Derived.Test.YthmnbjdmbajhkaaEvQ
namespace Go.Proofs.Ythmnbjdmbajhkaa
set_option linter.unusedVariables false
open Go.RowKit
attribute [local go_sem] Oper.semAt_some

set_option maxHeartbeats 1000000 in
theorem in_nil (a b : Int) (w : World) : Calls Try.prog 20 #[.slice none 0 0, .agg #[.int .u32 a, .int .u32 b]] w fun e w' => e = .returned (.bool false) ∧ Below w.heap.size w w' := by
  go_enter Try.func20, Try.ntmps20
  go_wp2_with fail
  refine wp_loop_rounds 1 ?_
  rw [rounds_succ]
  go_wp2_with fail
  go_ret
  exact ⟨rfl, (Below.refl _ _).alloc (Nat.le_refl _) _⟩
/-- of any row of things' IDs -/
theorem in_row (B : Nat) (v : Value) (G : List Th) (a b : Int) (w : World) (h : w.ownsRow B 31 2 v G.length (idC G)) (hn : G.length ≤ 1000000) :
    Calls Try.prog 20 #[v, .agg #[.int .u32 a, .int .u32 b]] w fun e w' => e = .returned (.bool (inG G a b)) ∧ Below w.heap.size w w' := by
  rcases h.2 with ⟨rfl, h0⟩ | ⟨g, cap, cur, rfl, _⟩
  · obtain rfl := List.length_eq_zero_iff.1 h0
    exact in_nil a b w
  · exact in_any B g cap G a b w h hn
end Go.Proofs.Ythmnbjdmbajhkaa
