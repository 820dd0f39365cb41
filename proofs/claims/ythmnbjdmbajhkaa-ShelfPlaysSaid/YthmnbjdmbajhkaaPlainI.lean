/-
  Plain, of two rows of the same IDs.
-/
import Derived.Test.YthmnbjdmbajhkaaKeepW
namespace Go.Proofs.Ythmnbjdmbajhkaa
set_option linter.unusedVariables false
open Go.RowKit
attribute [local go_sem] Oper.semAt_some

theorem eqI_any (a b : Int) (w : World) : Calls Try.prog 28 #[.agg #[.int .u32 a, .int .u32 b], .agg #[.int .u32 a, .int .u32 b]] w fun e w' => e = .returned (.bool true) ∧ Below w.heap.size w w' := by
  have hk := fun W => eql_key a b a b W
  simp only [and_self, decide_true] at hk
  go_enter Try.func28, Try.ntmps28
  go_wp2_with fail
  go_ret
  exact ⟨rfl, ((Below.refl _ _).alloc (Nat.le_refl _) _).alloc (by simp) _⟩
set_option maxRecDepth 100000 in
set_option maxHeartbeats 2000000 in
theorem sameI_any {B C : Nat} {va vb : Value} {G : List Th} {w : World} (ha : w.ownsRow B 31 2 va G.length (idC G)) (hb : w.ownsRow C 31 2 vb G.length (idC G)) (hn : G.length ≤ 1000000) :
    Calls Try.prog 27 #[va, vb, .func (.func 28) #[] #[]] w fun e w' => e = .returned (.bool true) ∧ Below w.heap.size w w' := by
  obtain ⟨aa, ac, rfl, -, ag⟩ := owns_shape ha
  obtain ⟨ba, bc, rfl, -, bg⟩ := owns_shape hb
  have HA := Lib.hid ha
  have HB := Lib.hid hb
  have HAG := Lib.hid ag
  have HBG := Lib.hid bg
  clear ha hb ag bg
  go_enter Try.func27, Try.ntmps27
  go_wp2_with fail
  go_loopw [7] (fun i wr => ∃ k : Nat, k ≤ G.length ∧ i = .int .i64 k ∧ Below w.heap.size w wr) (fun i _ => G.length - (intOf i).toNat)
  case atStart => exact ⟨0, Nat.zero_le _, rfl, Below.refl _ _⟩
  case round =>
    obtain ⟨k, hk, rfl, hst⟩ := hrel
    by_cases hlt : k < G.length
    · have hii : (k : Int) < (G.length : Int) := by omega
      obtain ⟨g1, rfl⟩ := HAG.out (by omega)
      obtain ⟨g2, rfl⟩ := HBG.out (by omega)
      have hra := owns_beside' (own := fun _ => False) HA.out (Below.beside hst) (fun _ h => h.elim)
      have hrb := owns_beside' (own := fun _ => False) HB.out (Below.beside hst) (fun _ h => h.elim)
      obtain ⟨q0, q1⟩ := idC_at G k hlt
      have a0 : wr.cell? ⟨g1, k * 2, none⟩ = some (.int .u32 G[k].v) := (World.ownsRow.cellAt hra (k * 2) (by omega)).trans (by rw [Nat.mul_comm k 2]; exact q0)
      have a1 : wr.cell? ⟨g1, k * 2 + 1, none⟩ = some (.int .u32 G[k].u) := (World.ownsRow.cellAt hra (k * 2 + 1) (by omega)).trans (by rw [Nat.mul_comm k 2]; exact q1)
      have b0 : wr.cell? ⟨g2, k * 2, none⟩ = some (.int .u32 G[k].v) := (World.ownsRow.cellAt hrb (k * 2) (by omega)).trans (by rw [Nat.mul_comm k 2]; exact q0)
      have b1 : wr.cell? ⟨g2, k * 2 + 1, none⟩ = some (.int .u32 G[k].u) := (World.ownsRow.cellAt hrb (k * 2 + 1) (by omega)).trans (by rw [Nat.mul_comm k 2]; exact q1)
      generalize G[k].v = x at *
      generalize G[k].u = y at *
      have l1 : g1 < wr.heap.size := World.block_lt_of_cell? wr _ a0
      have l2 : g2 < wr.heap.size := World.block_lt_of_cell? wr _ b0
      have HST := Lib.hid hst
      have hbd : Below wr.heap.size wr wr.drew := (Below.refl _ _).drew
      clear hra hrb q0 q1 hst
      go_wp2_with fail
      go_region_held3 (fun w' => w'.cell? ⟨g1, k * 2, none⟩ = some (.int .u32 x) ∧ w'.cell? ⟨g1, k * 2 + 1, none⟩ = some (.int .u32 y) ∧ w'.cell? ⟨g2, k * 2, none⟩ = some (.int .u32 x) ∧ w'.cell? ⟨g2, k * 2 + 1, none⟩ = some (.int .u32 y) ∧ Below wr.heap.size wr w')
        (first | with_reducible exact kb | with_reducible exact ⟨a0, a1, b0, b1, hbd⟩ | go_keep)
        ((go_at_call 28; refine (eqI_any x y _).mono ?_; rintro e w3 ⟨rfl, hb3⟩; have hB3 : Below wr.heap.size wr w3 := hbd.trans hb3; have kb : w3.cell? ⟨g1, k * 2, none⟩ = some (.int .u32 x) ∧ w3.cell? ⟨g1, k * 2 + 1, none⟩ = some (.int .u32 y) ∧ w3.cell? ⟨g2, k * 2, none⟩ = some (.int .u32 x) ∧ w3.cell? ⟨g2, k * 2 + 1, none⟩ = some (.int .u32 y) ∧ Below wr.heap.size wr w3 := ⟨(hB3.cell (p := ⟨g1, k * 2, none⟩) l1).trans a0, (hB3.cell (p := ⟨g1, k * 2 + 1, none⟩) l1).trans a1, (hB3.cell (p := ⟨g2, k * 2, none⟩) l2).trans b0, (hB3.cell (p := ⟨g2, k * 2 + 1, none⟩) l2).trans b1, hB3⟩))
      all_goals
        go_wp2_with fail
        go_roundw
        case rel => exact ⟨k + 1, hlt, by go_num, HST.out.trans (kb.2.2.2.2.mono HST.out.size)⟩
        case measure => simp [intOf]; omega
    · have hii : ¬ (k : Int) < (G.length : Int) := by omega
      go_wp2_with fail
      go_ret
      exact ⟨rfl, hst⟩
theorem plainI_any {B C : Nat} {va vb : Value} {G : List Th} {w : World} (ha : w.ownsRow B 31 2 va G.length (idC G)) (hb : w.ownsRow C 31 2 vb G.length (idC G)) (hn : G.length ≤ 1000000) :
    Calls Try.prog 14 #[va, vb] w fun e w' => e = .returned (.bool true) ∧ Below w.heap.size w w' := by
  go_enter Try.func14, Try.ntmps14
  go_wp2_with fail
  refine (sameI_any ha hb hn).mono ?_
  rintro e w1 ⟨rfl, hst⟩
  go_wp2_with fail
  go_ret
  exact ⟨rfl, hst⟩
end Go.Proofs.Ythmnbjdmbajhkaa
