/-
  Which keys are right: the walk of own.
-/
import Derived.Test.YtopocmihbmaamaaGreatDoorMem
import Derived.Deep.RegionHeld3
namespace Go.Proofs.YtopocmihbmaamaaGreatDoor
set_option linter.unusedVariables false
open Go.RowKit

/-- a key of no others -/
def keyC (k : Int) (s : ByteArray) (n : Int) : Array Value := #[.int .i64 k, .string s, .string ⟨#[]⟩, .int .i64 n, .slice none 0 0, .slice none 0 0]
def KeyR (w : World) (p : Nat) (k : Int) (s : ByteArray) (n : Int) : Prop := w.heap[p]? = some (.cells (keyC k s n) 33 (0, 0))
theorem KeyR.at {w : World} {p : Nat} {k : Int} {s : ByteArray} {n : Int} (h : KeyR w p k s n) : w.cell? ⟨p, 0, none⟩ = some (.int .i64 k) ∧ w.cell? ⟨p, 1, none⟩ = some (.string s) ∧ w.cell? ⟨p, 2, none⟩ = some (.string ⟨#[]⟩) ∧ w.cell? ⟨p, 3, none⟩ = some (.int .i64 n) ∧ w.cell? ⟨p, 4, none⟩ = some (.slice none 0 0) ∧ w.cell? ⟨p, 5, none⟩ = some (.slice none 0 0) := by
  have c := fun j => cell_of_row w p j _ _ _ h
  exact ⟨c 0, c 1, c 2, c 3, c 4, c 5⟩
theorem KeyR.lt {w : World} {p : Nat} {k : Int} {s : ByteArray} {n : Int} (h : KeyR w p k s n) : p < w.heap.size := (Array.getElem?_eq_some_iff.1 h).1
theorem KeyR.below {w w' : World} {p S : Nat} {k : Int} {s : ByteArray} {n : Int} (h : KeyR w p k s n) (hb : Below S w w') (hp : p < S) : KeyR w' p k s n := by unfold KeyR; rw [hb.block p hp]; exact h

theorem below_set1 {B : Nat} {a w : World} (h : Below B a w) {q j : Nat} (hp : B ≤ q) (v : Value) : Below B a (w.setCell ⟨q, j, none⟩ v) :=
  h.trans ⟨rfl, rfl, rfl, by simp [World.setCell], fun k hk => Below.heap_setCell _ _ _ _ (by rintro rfl; exact absurd hk (by simpa using hp))⟩
set_option maxRecDepth 100000 in
set_option maxHeartbeats 4000000 in
theorem own_text (p : Nat) (s : ByteArray) (w : World) (hk : KeyR w p 10 s 0) : Calls Tryz.prog 11 #[.pointer (some ⟨p, 0, none⟩)] w fun e w' => e = .returned (.bool true) ∧ Below w.heap.size w w' := by
  obtain ⟨c0, c1, c2, c3, c4, c5⟩ := hk.at
  have hp := hk.lt
  clear hk
  go_enter Tryz.func11, Tryz.ntmps11
  go_wp2_with go_region
  go_ret
  exact ⟨by first | rfl | simp, by repeat (first | exact Below.refl _ _ | apply Below.drew | (refine below_set1 ?_ ?_ _) | (refine Below.alloc ?_ (Nat.le_refl _) _) | omega)⟩
set_option maxRecDepth 100000 in
set_option maxHeartbeats 4000000 in
theorem own_all (p : Nat) (w : World) (hk : KeyR w p 1 ⟨#[]⟩ 0) : Calls Tryz.prog 11 #[.pointer (some ⟨p, 0, none⟩)] w fun e w' => e = .returned (.bool true) ∧ Below w.heap.size w w' := by
  obtain ⟨c0, c1, c2, c3, c4, c5⟩ := hk.at
  have hp := hk.lt
  clear hk
  go_enter Tryz.func11, Tryz.ntmps11
  go_wp2_with go_region
  go_ret
  exact ⟨by first | rfl | simp, by repeat (first | exact Below.refl _ _ | apply Below.drew | (refine below_set1 ?_ ?_ _) | (refine Below.alloc ?_ (Nat.le_refl _) _) | omega)⟩
set_option maxRecDepth 100000 in
set_option maxHeartbeats 4000000 in
theorem own_size12 (p : Nat) (n : Nat) (hn : n ≤ 999999999) (w : World) (hk : KeyR w p 12 ⟨#[]⟩ (n : Nat)) : Calls Tryz.prog 11 #[.pointer (some ⟨p, 0, none⟩)] w fun e w' => e = .returned (.bool true) ∧ Below w.heap.size w w' := by
  obtain ⟨c0, c1, c2, c3, c4, c5⟩ := hk.at
  have hp := hk.lt
  clear hk
  have h0 : (0 : Int) ≤ (n : Int) := by omega
  have h1 : (n : Int) ≤ 999999999 := by omega
  go_enter Tryz.func11, Tryz.ntmps11
  go_wp2_with go_region
  go_ret
  exact ⟨by first | rfl | simp, by repeat (first | exact Below.refl _ _ | apply Below.drew | (refine below_set1 ?_ ?_ _) | (refine Below.alloc ?_ (Nat.le_refl _) _) | omega)⟩
set_option maxRecDepth 100000 in
set_option maxHeartbeats 4000000 in
theorem own_size13 (p : Nat) (n : Nat) (hn : n ≤ 999999999) (w : World) (hk : KeyR w p 13 ⟨#[]⟩ (n : Nat)) : Calls Tryz.prog 11 #[.pointer (some ⟨p, 0, none⟩)] w fun e w' => e = .returned (.bool true) ∧ Below w.heap.size w w' := by
  obtain ⟨c0, c1, c2, c3, c4, c5⟩ := hk.at
  have hp := hk.lt
  clear hk
  have h0 : (0 : Int) ≤ (n : Int) := by omega
  have h1 : (n : Int) ≤ 999999999 := by omega
  go_enter Tryz.func11, Tryz.ntmps11
  go_wp2_with go_region
  go_ret
  exact ⟨by first | rfl | simp, by repeat (first | exact Below.refl _ _ | apply Below.drew | (refine below_set1 ?_ ?_ _) | (refine Below.alloc ?_ (Nat.le_refl _) _) | omega)⟩
end Go.Proofs.YtopocmihbmaamaaGreatDoor
