/-
  Match, whole: a text, a size.
-/
import Derived.Test.YtopocmihbmaamaaGreatDoorMatch
import Derived.Test.YtopocmihbmaamaaGreatDoorStands
namespace Go.Proofs.YtopocmihbmaamaaGreatDoor
set_option linter.unusedVariables false
open Go.RowKit

theorem two_rows (w : World) (A B : Array Value) {s t : TypeId} : ∃ W, W = ((w.alloc (.cells A s)).alloc (.cells B t)) ∧
    W.heap[w.heap.size]? = some (.cells A s (0, 0)) ∧ W.heap[w.heap.size + 1]? = some (.cells B t (0, 0)) ∧ Below w.heap.size w W := by
  have h1 := heap_alloc_new w (.cells A s)
  have h2 := heap_alloc_new (w.alloc (.cells A s)) (.cells B t)
  have b0 := (Below.refl w.heap.size w).alloc (Nat.le_refl _) (.cells A s)
  have b1 := (Below.refl (w.alloc (.cells A s)).heap.size (w.alloc (.cells A s))).alloc (Nat.le_refl _) (.cells B t)
  rw [World.size_alloc] at h2
  exact ⟨_, rfl, (b1.block w.heap.size (by simp)).trans h1, h2, b0.alloc b0.size _⟩

set_option maxRecDepth 100000 in
set_option maxHeartbeats 4000000 in
theorem ask_text (z : Int) (v : Value) (l s : Tx) (W : World) (hr : RowB W v (l.map UInt8.toNat)) (hl : l.length ≤ 100000) (hs : s.length ≤ 100000) (hm : MaxV W) :
    Calls Tryz.prog 21 #[.agg (shownC z v true), .agg (keyC 10 (strL s) 0)] W fun e w' => e = .returned (.bool (Lib.contains (foldL l) (foldL s))) ∧ Below W.heap.size W w' := by
  obtain ⟨a, len, cap, rfl, -⟩ := id hr
  have HR := Lib.hid hr
  have HM := Lib.hid hm
  clear hr hm
  unfold shownC keyC
  go_enter Tryz.func21, Tryz.ntmps21
  go_wp2_with fail
  have hb : Below W.heap.size W ((W.alloc (.cells #[.int .u32 0, .int .u32 0, .int .u32 0, .int .u32 0, .slice none 0 0, .int .i64 z, .slice a len cap, .bool true] 37)).alloc (.cells #[.int .i64 10, .string (strL s), .string ⟨#[]⟩, .int .i64 0, .slice none 0 0, .slice none 0 0] 33)) := ((Below.refl _ _).alloc (Nat.le_refl _) _).alloc (by simp) _
  refine (stands_any _ l s _ (HR.out.below hb) hl hs (HM.out.below hb)).mono ?_
  rintro e w2 ⟨rfl, hb2⟩
  have HB2 := Lib.hid (hb.trans (hb2.mono hb.size))
  clear hb hb2
  go_wp2_with fail
  go_ret
  exact ⟨rfl, HB2.out⟩
set_option maxRecDepth 100000 in
theorem ask_larger (z n : Int) (v : Value) (h : Bool) (W : World) (hv : ∃ a l c, v = .slice a l c) :
    Calls Tryz.prog 23 #[.agg (shownC z v h), .agg (keyC 12 ⟨#[]⟩ n)] W fun e w' => e = .returned (.bool (decide (n < z))) ∧ Below W.heap.size W w' := by
  obtain ⟨a, l, c, rfl⟩ := hv
  unfold shownC keyC
  go_enter Tryz.func23, Tryz.ntmps23
  go_wp2_with fail
  go_ret
  exact ⟨rfl, ((Below.refl _ _).alloc (Nat.le_refl _) _).alloc (by simp) _⟩
set_option maxRecDepth 100000 in
theorem ask_smaller (z n : Int) (v : Value) (h : Bool) (W : World) (hv : ∃ a l c, v = .slice a l c) :
    Calls Tryz.prog 24 #[.agg (shownC z v h), .agg (keyC 13 ⟨#[]⟩ n)] W fun e w' => e = .returned (.bool (decide (z < n))) ∧ Below W.heap.size W w' := by
  obtain ⟨a, l, c, rfl⟩ := hv
  unfold shownC keyC
  go_enter Tryz.func24, Tryz.ntmps24
  go_wp2_with fail
  go_ret
  exact ⟨rfl, ((Below.refl _ _).alloc (Nat.le_refl _) _).alloc (by simp) _⟩
set_option maxRecDepth 100000 in
theorem ask_all (z : Int) (v : Value) (h : Bool) (W : World) (hv : ∃ a l c, v = .slice a l c) :
    Calls Tryz.prog 12 #[.agg (shownC z v h), .agg (keyC 1 ⟨#[]⟩ 0)] W fun e w' => e = .returned (.bool true) ∧ Below W.heap.size W w' := by
  obtain ⟨a, l, c, rfl⟩ := hv
  unfold shownC keyC
  go_enter Tryz.func12, Tryz.ntmps12
  go_wp2_with fail
  go_ret
  exact ⟨rfl, ((Below.refl _ _).alloc (Nat.le_refl _) _).alloc (by simp) _⟩

set_option maxRecDepth 100000 in
set_option maxHeartbeats 4000000 in
theorem match_of (k : Int) (s : ByteArray) (n z : Int) (a : Option Addr) (l c : Nat) (h r : Bool) (w : World) (HR : OwnOk k s n)
    (HM : ∀ W, Below w.heap.size w W → Calls Tryz.prog 9 #[.agg (shownC z (.slice a l c) h), .agg (keyC k s n)] W fun e w' => e = .returned (.bool r) ∧ Below W.heap.size W w') :
    Calls Tryz.prog 5 #[.agg (keyC k s n), .agg (shownC z (.slice a l c) h)] w fun e w' => e = .returned (.bool r) ∧ Below w.heap.size w w' := by
  have HRW := Lib.hid (fun W => right_of k s n HR W)
  have HMW := Lib.hid HM
  clear HR HM
  unfold shownC keyC
  go_enter Tryz.func5, Tryz.ntmps5
  go_wp2_with fail
  obtain ⟨W, hW, hK, hL, hb⟩ : ∃ W, W = ((w.alloc (.cells (keyC k s n) 33)).alloc (.cells (shownC z (.slice a l c) h) 27)) ∧
      W.heap[w.heap.size]? = some (.cells (keyC k s n) 33 (0, 0)) ∧ W.heap[w.heap.size + 1]? = some (.cells (shownC z (.slice a l c) h) 27 (0, 0)) ∧ Below w.heap.size w W := two_rows w _ _
  unfold shownC keyC at hW
  rw [← hW]
  clear hW
  refine (HRW.out W).mono ?_
  rintro e w2 ⟨rfl, hb2⟩
  have gL := (hb2.block _ (Array.getElem?_eq_some_iff.1 hL).1).trans hL
  have gK := (hb2.block _ (Array.getElem?_eq_some_iff.1 hK).1).trans hK
  have fl := fun j => cell_of_row w2 (w.heap.size + 1) j _ _ _ gL
  have fk := fun j => cell_of_row w2 w.heap.size j _ _ _ gK
  have x0 := fl 0
  have x1 := fl 1
  have x2 := fl 2
  have x3 := fl 3
  have x4 := fl 4
  have x5 := fl 5
  have x6 := fl 6
  have x7 := fl 7
  have y0 := fk 0
  have y1 := fk 1
  have y2 := fk 2
  have y3 := fk 3
  have y4 := fk 4
  have y5 := fk 5
  simp only [shownC, keyC, List.getElem?_toArray, List.getElem?_cons_zero, List.getElem?_cons_succ] at x0 x1 x2 x3 x4 x5 x6 x7 y0 y1 y2 y3 y4 y5
  have hbw := hb.trans (hb2.mono hb.size)
  have HBW := Lib.hid hbw
  have HC := Lib.hid (HMW.out w2 hbw)
  clear fl fk gL gK hL hK hb hb2 hbw HRW HMW
  go_wp2_with (go_at_call 9; refine HC.out.mono ?_; rintro e w3 ⟨rfl, hb3⟩; have HB3 : Hid (Below w.heap.size w w3) := Lib.hid (HBW.out.trans (hb3.mono HBW.out.size)); clear hb3)
  go_ret
  exact ⟨rfl, HB3.out⟩
end Go.Proofs.YtopocmihbmaamaaGreatDoor
