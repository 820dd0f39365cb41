/-
  The contract of awake.
-/
import Derived.Test.YtligplnmgoailaaViewOpen
namespace Go.Proofs.Ytligplnmgoailaa
set_option linter.unusedVariables false
open Go.RowKit

theorem row_three {w : World} {B : Nat} {u : Value} (h : OwnN w B u [3]) : RowN w u [3] := OwnN.row h (by intro n hn; simp at hn; omega)

theorem number_one (bx : ByteArray) (vl : Int) (rd : Bool) (u f : Value) (w : World) (hr : RowN w u [3]) :
    Calls Try.prog 14 #[.agg (sightV bx vl rd u f), .int .u32 3] w fun e w' => e = .returned (.int .i64 1) ∧ Below w.heap.size w w' := by
  refine (number_any bx vl rd u f [3] 3 w hr (by decide)).mono ?_
  rintro e w' ⟨⟨r, rfl, hi⟩, hb⟩
  refine ⟨?_, hb⟩
  rcases hi with ⟨_, h⟩ | ⟨k, rfl, hk, _⟩
  · exact absurd rfl (h 0 (by decide))
  · have : k = 0 := by simp at hk; exact hk
    subst this
    rfl

set_option maxRecDepth 8000 in
set_option maxHeartbeats 2000000 in
theorem right_one (bx : ByteArray) (vl : Int) (rd : Bool) (u : Value) (fa : Option Addr) (fc : Nat) (w : World) (hr : RowN w u [3]) :
    Calls Try.prog 11 #[.agg (sightV bx vl rd u (.slice fa 1 fc))] w fun e w' => e = .returned (.bool true) ∧ Below w.heap.size w w' := by
  obtain ⟨b, off, a, cap, rfl, hc, hm, ha, hcell⟩ := hr.shape
  obtain ⟨rfl, hbl⟩ := ha (by decide)
  have c0 : w.cell? ⟨b, off, none⟩ = some (.int .u32 3) := hcell 0 (by decide)
  have hl : ([3] : List Int).length = 1 := rfl
  rw [hl]
  have hne : b ≠ w.heap.size := by omega
  clear hcell hr ha hc hm hl
  unfold sightV
  go_enter Try.func11, Try.ntmps11
  go_wp2_with fail
  refine wp_loop_rounds 2 ?_
  rw [rounds_succ]
  go_wp2_with fail
  rw [rounds_succ]
  go_wp2_with fail
  go_ret
  exact ⟨rfl, (Below.refl _ _).alloc (Nat.le_refl _) _⟩

set_option maxRecDepth 8000 in
set_option maxHeartbeats 2000000 in
theorem awake_any (w : World) : Calls Try.prog 5 #[] w fun e w' => e = .returned (.bool true) ∧ Below w.heap.size w w' := by
  go_enter Try.func5, Try.ntmps5
  go_wp2_with fail
  refine (open_one w.heap.size (w.alloc (.cells hv 49)) (heap_alloc_new w _)).mono ?_
  rintro e w1 ⟨u, fa, fc, rfl, hu, hb1⟩
  have HU := Lib.hid (row_three hu)
  obtain ⟨ua, uc, rfl, _⟩ := owns_shape hu
  have hs1 := hb1.size
  simp only [World.size_alloc] at hs1
  have HB1 := Lib.hid (((Below.refl w.heap.size w).alloc (Nat.le_refl _) (.cells hv 49)).trans (hb1.mono (by simp)))
  clear hu hb1
  have hl : ([3] : List Int).length = 1 := rfl
  rw [hl] at *
  unfold sightV
  go_wp2_with fail
  have HU2 := Lib.hid (HU.out.below ((Below.refl _ _).alloc (Nat.le_refl _) (.cells #[.string ⟨#[97]⟩, .int .u32 2, .bool true, .slice ua 1 uc, .slice fa 1 fc] 29)))
  refine (number_one _ _ _ _ _ _ HU2.out).mono ?_
  rintro e w2 ⟨rfl, hb2⟩
  have hs2 := hb2.size
  simp only [World.size_alloc] at hs2
  have HS2 : SgRow w2 w1.heap.size (.string ⟨#[97]⟩) (.int .u32 2) (.bool true) (.slice ua 1 uc) (.slice fa 1 fc) := SgRow.below (heap_alloc_new w1 _) hb2 (by simp)
  obtain ⟨d0, d1, d2, d3, d4⟩ := HS2.cells
  have HU3 := Lib.hid (HU2.out.below hb2)
  have HB2 := Lib.hid ((HB1.out.alloc (by omega) (.cells #[.string ⟨#[97]⟩, .int .u32 2, .bool true, .slice ua 1 uc, .slice fa 1 fc] 29)).trans (hb2.mono (by simp; omega)))
  clear HS2 hb2
  go_wp2_with fail
  refine (right_one _ _ _ _ _ _ _ HU3.out).mono ?_
  rintro e w3 ⟨rfl, hb3⟩
  have HB3 := Lib.hid (HB2.out.trans (hb3.mono (by omega)))
  clear hb3
  go_wp2_with fail
  go_ret
  exact ⟨rfl, HB3.out⟩
end Go.Proofs.Ytligplnmgoailaa
