/-
  A row of bytes is beside a cell of the log.
-/
import Derived.Test.YtmkedanlpapndaaRecA
namespace Go.Proofs.Ytmkedanlpapndaa
set_option linter.unusedVariables false
open Go.RowKit

theorem rowB_beside82 {w w' : World} {q : Nat} {a b c d : Nat} {s1 : Option Addr} {s2 s3 : Nat} {fr : Nat × Nat} {v : Value} {l : List Nat} (h : RowB w v l) (hb : Beside (fun k => k = q) w w')
    (hq : w.heap[q]? = Option.some (Obj.cells #[.int .u64 (a : Nat), .int .u64 (b : Nat), .int .u64 (c : Nat), .int .u64 (d : Nat), .slice s1 s2 s3] 82 fr)) : RowB w' v l := by
  obtain ⟨x, len, cap, rfl, h1, h2, h3, h4, h5, h6⟩ := h
  refine ⟨x, len, cap, rfl, h1, h2, h3, h4, h5, fun y hy i hi => ?_⟩
  have hc := h6 y hy i hi
  have hlt := World.block_lt_of_cell? w _ hc
  have hne : (y.add i).block ≠ q := by
    intro e
    unfold World.cell? at hc
    rw [e, hq] at hc
    simp only at hc
    generalize (y.add i).off = o at hc
    rcases o with _ | _ | _ | _ | _ | o
    all_goals simp at hc
  unfold World.cell? at hc ⊢
  rw [hb.block _ hlt hne]
  exact hc
theorem rowB_beside80 {w w' : World} {q : Nat} {a : Nat} {z1 z2 : Int} {s1 : Option Addr} {s2 s3 : Nat} {fr : Nat × Nat} {v : Value} {l : List Nat} (h : RowB w v l) (hb : Beside (fun k => k = q) w w')
    (hq : w.heap[q]? = Option.some (Obj.cells #[.int .i64 z1, .int .u64 (a : Nat), .int .i64 z2, .slice s1 s2 s3] 80 fr)) : RowB w' v l := by
  obtain ⟨x, len, cap, rfl, h1, h2, h3, h4, h5, h6⟩ := h
  refine ⟨x, len, cap, rfl, h1, h2, h3, h4, h5, fun y hy i hi => ?_⟩
  have hc := h6 y hy i hi
  have hlt := World.block_lt_of_cell? w _ hc
  have hne : (y.add i).block ≠ q := by
    intro e
    unfold World.cell? at hc
    rw [e, hq] at hc
    simp only at hc
    generalize (y.add i).off = o at hc
    rcases o with _ | _ | _ | _ | o
    all_goals simp at hc
  unfold World.cell? at hc ⊢
  rw [hb.block _ hlt hne]
  exact hc
end Go.Proofs.Ytmkedanlpapndaa
