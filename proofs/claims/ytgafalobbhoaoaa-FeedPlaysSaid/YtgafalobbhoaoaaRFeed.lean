/-
  The reference's feed in its block; clear, Held.
-/
import Derived.Test.YtgafalobbhoaoaaLinesA
namespace Go.Proofs.Ytgafalobbhoaoaa
set_option linter.unusedVariables false
open Go.RowKit

/-- a reference's feed, whole -/
structure RefB (w : World) (p : Nat) (i c t : Value) (lo lf li : Int) (sk af : Bool) : Prop where
  row : w.heap[p]? = some (.cells #[i, c, t, .int .i64 lo, .int .i64 lf, .int .i64 li, .bool sk, .bool af] 29 (0, 0))
structure RefAt (w : World) (p : Nat) (i c t : Value) (lo lf li : Int) (sk af : Bool) : Prop where
  c0 : w.cell? ⟨p, 0, none⟩ = some i
  c1 : w.cell? ⟨p, 1, none⟩ = some c
  c2 : w.cell? ⟨p, 2, none⟩ = some t
  c3 : w.cell? ⟨p, 3, none⟩ = some (.int .i64 lo)
  c4 : w.cell? ⟨p, 4, none⟩ = some (.int .i64 lf)
  c5 : w.cell? ⟨p, 5, none⟩ = some (.int .i64 li)
  c6 : w.cell? ⟨p, 6, none⟩ = some (.bool sk)
  c7 : w.cell? ⟨p, 7, none⟩ = some (.bool af)
  x0 : w.frozen? ⟨p, 0, none⟩ = false
  x1 : w.frozen? ⟨p, 1, none⟩ = false
  x2 : w.frozen? ⟨p, 2, none⟩ = false
  x3 : w.frozen? ⟨p, 3, none⟩ = false
  x4 : w.frozen? ⟨p, 4, none⟩ = false
  x5 : w.frozen? ⟨p, 5, none⟩ = false
  x6 : w.frozen? ⟨p, 6, none⟩ = false
  x7 : w.frozen? ⟨p, 7, none⟩ = false
theorem RefB.at {w : World} {p : Nat} {i c t : Value} {lo lf li : Int} {sk af : Bool} (k : RefB w p i c t lo lf li sk af) : RefAt w p i c t lo lf li sk af := by
  have h : ∀ j, w.cell? ⟨p, j, none⟩ = (#[i, c, t, .int .i64 lo, .int .i64 lf, .int .i64 li, .bool sk, .bool af] : Array Value)[j]? := fun j => cell_of_row _ _ j _ 29 (0, 0) k.row
  have x : ∀ j, w.frozen? ⟨p, j, none⟩ = false := fun j => frozen_of_row _ _ _ _ _ k.row
  exact ⟨h 0, h 1, h 2, h 3, h 4, h 5, h 6, h 7, x 0, x 1, x 2, x 3, x 4, x 5, x 6, x 7⟩
theorem RefB.keep {w w' : World} {p S : Nat} {i c t : Value} {lo lf li : Int} {sk af : Bool} (k : RefB w p i c t lo lf li sk af) (hb : Below S w w') (hS : p < S) : RefB w' p i c t lo lf li sk af := ⟨by rw [hb.block _ hS]; exact k.row⟩
theorem RefB.same {w w' : World} {p : Nat} {i c t : Value} {lo lf li : Int} {sk af : Bool} (k : RefB w p i c t lo lf li sk af) (h : w'.heap[p]? = w.heap[p]?) : RefB w' p i c t lo lf li sk af := ⟨by rw [h]; exact k.row⟩
theorem RefB.lt {w : World} {p : Nat} {i c t : Value} {lo lf li : Int} {sk af : Bool} (k : RefB w p i c t lo lf li sk af) : p < w.heap.size := (Array.getElem?_eq_some_iff.1 k.row).1
theorem RefB.set0 {w : World} {p : Nat} {i c t : Value} {lo lf li : Int} {sk af : Bool} (k : RefB w p i c t lo lf li sk af) (v : Value) : RefB (w.setCell ⟨p, 0, none⟩ v) p v c t lo lf li sk af := ⟨heap_setCell_same w p 0 _ _ _ k.row⟩
theorem RefB.set1 {w : World} {p : Nat} {i c t : Value} {lo lf li : Int} {sk af : Bool} (k : RefB w p i c t lo lf li sk af) (v : Value) : RefB (w.setCell ⟨p, 1, none⟩ v) p i v t lo lf li sk af := ⟨heap_setCell_same w p 1 _ _ _ k.row⟩
theorem RefB.set2 {w : World} {p : Nat} {i c t : Value} {lo lf li : Int} {sk af : Bool} (k : RefB w p i c t lo lf li sk af) (v : Value) : RefB (w.setCell ⟨p, 2, none⟩ v) p i c v lo lf li sk af := ⟨heap_setCell_same w p 2 _ _ _ k.row⟩
theorem RefB.set3 {w : World} {p : Nat} {i c t : Value} {lo lf li : Int} {sk af : Bool} (k : RefB w p i c t lo lf li sk af) (v : Int) : RefB (w.setCell ⟨p, 3, none⟩ (.int .i64 v)) p i c t v lf li sk af := ⟨heap_setCell_same w p 3 _ _ _ k.row⟩
theorem RefB.set4 {w : World} {p : Nat} {i c t : Value} {lo lf li : Int} {sk af : Bool} (k : RefB w p i c t lo lf li sk af) (v : Int) : RefB (w.setCell ⟨p, 4, none⟩ (.int .i64 v)) p i c t lo v li sk af := ⟨heap_setCell_same w p 4 _ _ _ k.row⟩
theorem RefB.set5 {w : World} {p : Nat} {i c t : Value} {lo lf li : Int} {sk af : Bool} (k : RefB w p i c t lo lf li sk af) (v : Int) : RefB (w.setCell ⟨p, 5, none⟩ (.int .i64 v)) p i c t lo lf v sk af := ⟨heap_setCell_same w p 5 _ _ _ k.row⟩
theorem RefB.set6 {w : World} {p : Nat} {i c t : Value} {lo lf li : Int} {sk af : Bool} (k : RefB w p i c t lo lf li sk af) (v : Bool) : RefB (w.setCell ⟨p, 6, none⟩ (.bool v)) p i c t lo lf li v af := ⟨heap_setCell_same w p 6 _ _ _ k.row⟩
theorem RefB.set7 {w : World} {p : Nat} {i c t : Value} {lo lf li : Int} {sk af : Bool} (k : RefB w p i c t lo lf li sk af) (v : Bool) : RefB (w.setCell ⟨p, 7, none⟩ (.bool v)) p i c t lo lf li sk v := ⟨heap_setCell_same w p 7 _ _ _ k.row⟩

/-- below the heap's end nothing has turned but block p and the blocks of two rows -/
structure Foot2 (p : Nat) (c t : Value) (w w' : World) : Prop where
  os : w'.os = w.os
  tape : w'.tape = w.tape
  output : w'.output = w.output
  size : w.heap.size ≤ w'.heap.size
  block : ∀ b, b < w.heap.size → b ≠ p → c.ownBlock ≠ some b → t.ownBlock ≠ some b → w'.heap[b]? = w.heap[b]?
theorem Foot2.refl (p : Nat) (c t : Value) (w : World) : Foot2 p c t w w := ⟨rfl, rfl, rfl, Nat.le_refl _, fun _ _ _ _ _ => rfl⟩
theorem Foot2.trans {p : Nat} {c c' t t' : Value} {w w1 w2 : World} (a : Foot2 p c t w w1) (m : Moved c c' w) (m2 : Moved t t' w) (b : Foot2 p c' t' w1 w2) : Foot2 p c t w w2 :=
  ⟨b.os.trans a.os, b.tape.trans a.tape, b.output.trans a.output, Nat.le_trans a.size b.size, fun k h1 h2 h3 h4 => (b.block k (Nat.lt_of_lt_of_le h1 a.size) h2 (by
    rcases m with m | m
    · rw [m]; exact h3
    · intro e; have := m k e; omega) (by
    rcases m2 with m | m
    · rw [m]; exact h4
    · intro e; have := m k e; omega)).trans (a.block k h1 h2 h3 h4)⟩
theorem Foot2.set {p j : Nat} {w w' : World} {c t v : Value} (k : Foot2 p c t w w') : Foot2 p c t w (w'.setCell ⟨p, j, none⟩ v) :=
  ⟨k.os, k.tape, k.output, by simp; exact k.size, fun b h1 h2 h3 h4 => (heap_setCell_other _ _ _ _ (by simpa using h2)).trans (k.block b h1 h2 h3 h4)⟩
theorem Foot2.of_below {p : Nat} {w w' : World} (c t : Value) (hb : Below w.heap.size w w') : Foot2 p c t w w' := ⟨hb.os, hb.tape, hb.output, hb.size, fun b h1 _ _ _ => hb.block b h1⟩
theorem Foot2.drewN {p : Nat} {c t : Value} {w w' : World} (k : Foot2 p c t w w') (n : Nat) : Foot2 p c t w (w'.drewN n) := ⟨k.os, k.tape, k.output, k.size, k.block⟩

set_option maxRecDepth 100000 in
set_option maxHeartbeats 1000000 in
theorem clear_any (p : Nat) (i c t : Value) (lo lf li : Int) (sk af : Bool) (w : World) (hf : RefB w p i c t lo lf li sk af) :
    Calls Try.prog 23 #[.pointer (some ⟨p, 0, none⟩)] w fun e w' => e = .returned (.tuple #[]) ∧ RefB w' p i (.slice none 0 0) (.slice none 0 0) 0 0 0 false false ∧ Foot2 p c t w w' ∧ w'.heap.size = w.heap.size ∧ (∀ b, b ≠ p → w'.heap[b]? = w.heap[b]?) := by
  obtain ⟨c0, c1, c2, c3, c4, c5, c6, c7, x0, x1, x2, x3, x4, x5, x6, x7⟩ := hf.at
  have HF := Lib.hid hf
  clear hf
  go_enter Try.func23, Try.ntmps23
  go_wp2_with fail
  go_end0
  refine ⟨rfl, ((((((HF.out.set1 _).set2 _).set3 _).set4 _).set5 _).set6 _).set7 _, (((((((Foot2.refl p c t w).set).set).set).set).set).set).set, by simp, fun b hb => ?_⟩
  iterate 7 rw [heap_setCell_other _ _ _ _ (by simpa using hb)]

set_option maxRecDepth 100000 in
set_option maxHeartbeats 1000000 in
theorem rheld_any (p : Nat) (ai ac : Option Addr) (n m ci cc : Nat) (t : Value) (lo lf li : Int) (sk af : Bool) (w : World) (hf : RefB w p (.slice ai n ci) (.slice ac m cc) t lo lf li sk af) (hn : n ≤ 10000000) (hm : m ≤ 10000000) :
    Calls Try.prog 12 #[.pointer (some ⟨p, 0, none⟩)] w fun e w' => e = .returned (.int .i64 ((n : Int) + m)) ∧ Below w.heap.size w w' := by
  obtain ⟨c0, c1, c2, c3, c4, c5, c6, c7, x0, x1, x2, x3, x4, x5, x6, x7⟩ := hf.at
  have hw : IntKind.i64.wrap ((n : Int) + m) = (n : Int) + m := IntWalk.i64_in _ (by omega)
  clear hf
  go_enter Try.func12, Try.ntmps12
  go_wp2_with fail
  go_quiet (fail)
  go_wp2_with fail
  go_ret
  exact ⟨ret_eq (show Value.int .i64 _ = _ by first | rfl | rw [hw]), below_drewN (Below.refl _ _) _⟩

set_option maxRecDepth 100000 in
set_option maxHeartbeats 1000000 in
theorem held_any (p : Nat) (f : Value) (seg len lits left a : Int) (n m : Nat) (ah ar : Option Addr) (ch cr : Nat) (w : World) (hf : FeedB w p f (.slice ar m cr) (.slice ah n ch) seg len lits left a) (hn : n ≤ 10000000) (hm : m ≤ 10000000) :
    Calls Try.prog 11 #[.pointer (some ⟨p, 0, none⟩)] w fun e w' => e = .returned (.int .i64 ((n : Int) + m)) ∧ Below w.heap.size w w' := by
  obtain ⟨c0, c1, c2, c3, c4, c5, c6, c7, x0, x1, x2, x3, x4, x5, x6, x7⟩ := hf.at
  have hw : IntKind.i64.wrap ((n : Int) + m) = (n : Int) + m := IntWalk.i64_in _ (by omega)
  clear hf
  go_enter Try.func11, Try.ntmps11
  go_wp2_with fail
  go_quiet (fail)
  go_wp2_with fail
  go_ret
  exact ⟨ret_eq (show Value.int .i64 _ = _ by first | rfl | rw [hw]), below_drewN (Below.refl _ _) _⟩
end Go.Proofs.Ytgafalobbhoaoaa
