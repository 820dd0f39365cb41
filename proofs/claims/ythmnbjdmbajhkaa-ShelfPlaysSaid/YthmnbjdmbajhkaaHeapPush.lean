/-
  The contract of heap.Push at an empty order.
-/
import Derived.Test.YthmnbjdmbajhkaaPush
namespace Go.Proofs.Ythmnbjdmbajhkaa
set_option linter.unusedVariables false
open Go.RowKit

theorem load54 {a : Addr} {v : Value} {w : World} (h : w.cell? a = some v) : (loadVar 54 a).run Try.prog w = .ok v w := by
  have hg : (isAgg 54).run Try.prog w = .ok false w := by kernel_rfl
  simp only [loadVar]
  simp [hg, h, go_sem]

set_option maxHeartbeats 1000000 in
theorem len_any (a : Option Addr) (n c : Nat) (w : World) : Calls Try.prog 48 #[.slice a n c] w fun e w' => e = .returned (.int .i64 n) ∧ w = w' := by
  go_enter Try.func48, Try.ntmps48
  go_wp2_with fail
  go_ret
  exact ⟨rfl, rfl⟩
set_option maxHeartbeats 1000000 in
theorem up_zero (x : Value) (w : World) : Calls Try.prog 31 #[x, .int .i64 0] w fun e w' => e = .returned (.tuple #[]) ∧ w = w' := by
  go_enter Try.func31, Try.ntmps31
  go_wp2_with fail
  refine wp_loop_rounds 1 ?_
  rw [rounds_succ]
  go_wp2_with fail
  go_end0
  exact ⟨rfl, rfl⟩

set_option maxHeartbeats 1000000 in
theorem hpush_any (p t : Nat) (w : World) (x : Int) (hc : w.cell? ⟨p, 3, none⟩ = some (.slice none 0 0)) (hf : w.frozen? ⟨p, 3, none⟩ = false) (tc : w.cell? ⟨t, 4, none⟩ = some (.int .i64 x)) (tf : w.frozen? ⟨t, 4, none⟩ = false) (hne : p ≠ t) (hp : p < w.heap.size) (ht : t < w.heap.size) :
    Calls Try.prog 23 #[.iface 62 (.pointer (some ⟨p, 3, none⟩)), .iface 57 (.pointer (some ⟨t, 0, none⟩))] w fun e w' => e = .returned (.tuple #[]) ∧ Pushed p t w w' := by
  have HP := Lib.hid (push57 p t w x hc hf tc tf hne hp ht)
  clear tc tf
  have hi := inv_push
  go_enter Try.func23, Try.ntmps23
  go_wp2_with fail
  refine HP.out.mono ?_
  rintro e w1 ⟨rfl, hq⟩
  have HQ := Lib.hid hq
  obtain ⟨g, cap, w2, ho, hb, rfl⟩ := hq
  have hz := hb.size
  simp only [World.size_setCell] at hz
  have hc2 : w2.cell? ⟨p, 3, none⟩ = some (.slice none 0 0) := (hb.cell (p := ⟨p, 3, none⟩) (by simpa using hp)).trans (by rw [World.cell?_setCell_other]; exact hc; simp)
  have hl := meth_len ⟨p, 3, none⟩ (w2.setCell ⟨p, 3, none⟩ (.slice (some ⟨g, 0, none⟩) 1 cap)) _ (load54 (World.cell?_setCell_same _ _ _ hc2))
  clear hi
  go_wp2_with fail
  refine (len_any _ _ _ _).mono ?_
  rintro e w3 ⟨rfl, rfl⟩
  go_wp2_with fail
  refine (up_zero _ _).mono ?_
  rintro e w3 ⟨rfl, rfl⟩
  go_wp2_with fail
  go_end0
  exact ⟨rfl, HQ.out⟩
end Go.Proofs.Ythmnbjdmbajhkaa
