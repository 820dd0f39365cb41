/-
  The contracts of the steps by which a number is read.
-/
import Derived.Test.YtfaecojhkiombaaLex
import Derived.Test.YtfaecojhkiombaaNew
import Derived.Lib.EndianBits
namespace Go.Proofs.Ytfaecojhkiombaa
set_option linter.unusedVariables false
open Go.RowKit

/-- a scan at block h -/
def Scan (w : World) (h : Nat) (value : Nat) (left : Int) (text : Value) : Prop :=
  w.heap[h]? = some (.cells #[.int .u64 value, .int .i64 left, text] 51 (0, 0))

theorem Scan.cell0 {w : World} {h v : Nat} {l : Int} {t : Value} (s : Scan w h v l t) : w.cell? ⟨h, 0, none⟩ = some (.int .u64 v) := by
  unfold Scan at s; simp [World.cell?, s]
theorem Scan.cell1 {w : World} {h v : Nat} {l : Int} {t : Value} (s : Scan w h v l t) : w.cell? ⟨h, 1, none⟩ = some (.int .i64 l) := by
  unfold Scan at s; simp [World.cell?, s]
theorem Scan.cell2 {w : World} {h v : Nat} {l : Int} {t : Value} (s : Scan w h v l t) : w.cell? ⟨h, 2, none⟩ = some t := by
  unfold Scan at s; simp [World.cell?, s]
theorem Scan.free {w : World} {h v : Nat} {l : Int} {t : Value} (s : Scan w h v l t) (j : Nat) : w.frozen? ⟨h, j, none⟩ = false := by
  unfold Scan at s; simp [World.frozen?, s]
theorem Scan.set0 {w : World} {h v : Nat} {l : Int} {t : Value} (s : Scan w h v l t) (v' : Nat) : Scan (w.setCell ⟨h, 0, none⟩ (.int .u64 v')) h v' l t := by
  unfold Scan at s ⊢
  rw [heap_setCell_same w h 0 _ 51 _ s]
  rfl
theorem Scan.set1 {w : World} {h v : Nat} {l : Int} {t : Value} (s : Scan w h v l t) (l' : Int) : Scan (w.setCell ⟨h, 1, none⟩ (.int .i64 l')) h v l' t := by
  unfold Scan at s ⊢
  rw [heap_setCell_same w h 1 _ 51 _ s]
  rfl
theorem Scan.set2 {w : World} {h v : Nat} {l : Int} {t : Value} (s : Scan w h v l t) (t' : Value) : Scan (w.setCell ⟨h, 2, none⟩ t') h v l t' := by
  unfold Scan at s ⊢
  rw [heap_setCell_same w h 2 _ 51 _ s]
  rfl

/-- all blocks but some are as they were -/
structure Beside (own : Nat → Prop) (w w' : World) : Prop where
  os : w'.os = w.os
  tape : w'.tape = w.tape
  output : w'.output = w.output
  size : w.heap.size ≤ w'.heap.size
  block : ∀ k, k < w.heap.size → ¬ own k → w'.heap[k]? = w.heap[k]?

theorem Beside.refl (own : Nat → Prop) (w : World) : Beside own w w := ⟨rfl, rfl, rfl, Nat.le_refl _, fun _ _ _ => rfl⟩
theorem Beside.trans {own : Nat → Prop} {a b c : World} (h : Beside own a b) (k : Beside own b c) : Beside own a c :=
  ⟨k.os.trans h.os, k.tape.trans h.tape, k.output.trans h.output, Nat.le_trans h.size k.size, fun i hi ho => (k.block i (Nat.lt_of_lt_of_le hi h.size) ho).trans (h.block i hi ho)⟩
theorem Beside.mono {own own' : Nat → Prop} {a b : World} (h : Beside own a b) (ho : ∀ k, k < a.heap.size → own k → own' k) : Beside own' a b :=
  ⟨h.os, h.tape, h.output, h.size, fun i hi hn => h.block i hi (fun h' => hn (ho i hi h'))⟩
theorem Beside.setCell {own : Nat → Prop} {a w : World} (h : Beside own a w) {p : Addr} (hp : own p.block ∨ a.heap.size ≤ p.block) (u : Value) : Beside own a (w.setCell p u) :=
  ⟨h.os, h.tape, h.output, by simpa [World.setCell] using h.size, fun i hi hn => (Below.heap_setCell _ _ _ _ (by rintro rfl; rcases hp with hp | hp; exact hn hp; omega)).trans (h.block i hi hn)⟩
theorem Beside.alloc {own : Nat → Prop} {a w : World} (h : Beside own a w) (o : Obj) : Beside own a (w.alloc o) :=
  ⟨h.os, h.tape, h.output, by have := h.size; simp; omega, fun i hi hn => (Below.heap_alloc _ _ _ (Nat.lt_of_lt_of_le hi h.size)).trans (h.block i hi hn)⟩
theorem Beside.drewN {own : Nat → Prop} {a w : World} (h : Beside own a w) (n : Nat) : Beside own a (w.drewN n) := ⟨h.os, h.tape, h.output, h.size, h.block⟩
theorem Beside.drew {own : Nat → Prop} {a w : World} (h : Beside own a w) : Beside own a w.drew := ⟨h.os, h.tape, h.output, h.size, h.block⟩
theorem Beside.grown {own : Nat → Prop} {a w w' : World} {row : Option Nat} (h : Beside own a w) (hg : w.grownBy w' row) (hr : ∀ k, row = some k → own k ∨ a.heap.size ≤ k) : Beside own a w' :=
  ⟨hg.os.trans h.os, hg.tape.trans h.tape, hg.output.trans h.output, Nat.le_trans h.size hg.size, fun i hi hn => (hg.block i (Nat.lt_of_lt_of_le hi h.size) (fun e => by rcases hr i e.symm with hp | hp; exact hn hp; omega)).trans (h.block i hi hn)⟩
theorem Beside.below {own : Nat → Prop} {a b : World} {B : Nat} (h : Beside own a b) (ho : ∀ k, own k → B ≤ k) (hB : B ≤ a.heap.size) : Below B a b :=
  ⟨h.os, h.tape, h.output, h.size, fun k hk => h.block k (by omega) (fun h' => by have := ho k h'; omega)⟩
theorem Below.beside {own : Nat → Prop} {a b : World} (h : Below a.heap.size a b) : Beside own a b := ⟨h.os, h.tape, h.output, h.size, fun k hk _ => h.block k hk⟩
theorem Scan.beside {own : Nat → Prop} {w w' : World} (hb : Beside own w w') {h v : Nat} {l : Int} {t : Value} (s : Scan w h v l t) (hn : ¬ own h) : Scan w' h v l t := by
  unfold Scan at s ⊢
  rw [hb.block h (lt_of_block s) hn, s]

theorem Beside.one (w : World) (h j : Nat) (u : Value) : Beside (· = h) w (w.setCell ⟨h, j, none⟩ u) := Beside.setCell (own := (· = h)) (Beside.refl _ _) (Or.inl rfl) u

theorem count_big {w : World} {h c : Nat} (hc : 8 < c) :
    Calls Try.prog 31 #[.pointer (some ⟨h, 0, none⟩), .int .u8 c] w fun e w' => e = .returned (.int .i64 (-2)) ∧ w = w' := by
  have h8' : (8 : Int) < (c : Int) := by omega
  go_enter Try.func31, Try.ntmps31
  go_wp2_with fail
  go_ret
  exact ⟨rfl, rfl⟩

theorem count_zero {w : World} {h v : Nat} {l : Int} {t : Value} (s : Scan w h v l t) :
    Calls Try.prog 31 #[.pointer (some ⟨h, 0, none⟩), .int .u8 0] w fun e w' => e = .returned (.int .i64 (-1)) ∧ Scan w' h v 0 t ∧ Beside (· = h) w w' := by
  have c1 := s.cell1
  have f1 := s.free 1
  have Hs := Lib.hid (s.set1 0)
  go_enter Try.func31, Try.ntmps31
  go_wp2_with fail
  go_ret
  exact ⟨rfl, Hs.out, Beside.one _ _ _ _⟩

theorem count_some {w : World} {h v : Nat} {l : Int} {t : Value} (s : Scan w h v l t) (c : Nat) (h1 : 1 ≤ c) (h8 : c ≤ 8) :
    Calls Try.prog 31 #[.pointer (some ⟨h, 0, none⟩), .int .u8 c] w fun e w' => e = .returned (.int .i64 1) ∧ Scan w' h v (c : Int) t ∧ Beside (· = h) w w' := by
  have c1 := s.cell1
  have f1 := s.free 1
  have Hs := Lib.hid (s.set1 (c : Int))
  have h0' : ((c : Int) == 0) = false := by simp; omega
  have h8' : ¬ (8 : Int) < (c : Int) := by omega
  go_enter Try.func31, Try.ntmps31
  go_wp2_with fail
  go_ret
  exact ⟨rfl, Hs.out, Beside.one _ _ _ _⟩

theorem or_byte (v c : Nat) (hc : c < 256) (hv : v < 72057594037927936) : bits .or .u64 ((v : Int) * 256) (c : Int) = ((v * 256 + c : Nat) : Int) := by
  rw [show bits .or .u64 ((v : Int) * 256) (c : Int) = bits .or .u64 (c : Int) ((v : Int) * 256) from by simp [bits, Nat.or_comm]]
  rw [u64_or8 _ _ (by omega) (by omega) (by omega) (by omega) (by omega)]
  omega

theorem digit_more {w : World} {h v : Nat} {l : Int} {t : Value} (s : Scan w h v l t) (c : Nat) (hc : c < 256) (hv : v < 72057594037927936) (hl : 1 < l) (hl8 : l ≤ 8) :
    Calls Try.prog 33 #[.pointer (some ⟨h, 0, none⟩), .int .u8 c] w fun e w' => e = .returned (.int .i64 2) ∧ Scan w' h (v * 256 + c) (l - 1) t ∧ Beside (· = h) w w' := by
  have c0 := s.cell0
  have c1 := s.cell1
  have f0 := s.free 0
  have f1 := s.free 1
  have ho := or_byte v c hc hv
  have Hs := Lib.hid ((s.set0 (v * 256 + c)).set1 (l - 1))
  have hl0 : ((l - 1) == 0) = false := by simp; omega
  go_enter Try.func33, Try.ntmps33
  go_wp2_with fail
  go_ret
  exact ⟨rfl, Hs.out, (Beside.one _ _ _ _).trans (Beside.one _ _ _ _)⟩

theorem digit_last {w : World} {h v : Nat} {t : Value} (s : Scan w h v 1 t) (c : Nat) (hc : c < 256) (hv : v < 72057594037927936) :
    Calls Try.prog 33 #[.pointer (some ⟨h, 0, none⟩), .int .u8 c] w fun e w' => e = .returned (.int .i64 (-1)) ∧ Scan w' h (v * 256 + c) 0 t ∧ Beside (· = h) w w' := by
  have c0 := s.cell0
  have c1 := s.cell1
  have f0 := s.free 0
  have f1 := s.free 1
  have ho := or_byte v c hc hv
  have Hs := Lib.hid ((s.set0 (v * 256 + c)).set1 0)
  go_enter Try.func33, Try.ntmps33
  go_wp2_with fail
  go_ret
  exact ⟨rfl, Hs.out, (Beside.one _ _ _ _).trans (Beside.one _ _ _ _)⟩

theorem first_zero {w : World} {h : Nat} :
    Calls Try.prog 32 #[.pointer (some ⟨h, 0, none⟩), .int .u8 0] w fun e w' => e = .returned (.int .i64 (-2)) ∧ w = w' := by
  go_enter Try.func32, Try.ntmps32
  go_wp2_with fail
  go_ret
  exact ⟨rfl, rfl⟩

theorem first_more {w : World} {h v : Nat} {l : Int} {t : Value} (s : Scan w h v l t) (c : Nat) (hz : 0 < c) (hc : c < 256) (hv : v < 72057594037927936) (hl : 1 < l) (hl8 : l ≤ 8) :
    Calls Try.prog 32 #[.pointer (some ⟨h, 0, none⟩), .int .u8 c] w fun e w' => e = .returned (.int .i64 2) ∧ Scan w' h (v * 256 + c) (l - 1) t ∧ Beside (· = h) w w' := by
  have hz' : ((c : Int) == 0) = false := by simp; omega
  go_enter Try.func32, Try.ntmps32
  go_wp2_with fail
  refine (digit_more s c hc hv hl hl8).mono ?_
  rintro e w1 ⟨rfl, hs, hb⟩
  go_wp2_with fail
  go_ret
  exact ⟨rfl, hs, hb⟩

theorem first_last {w : World} {h v : Nat} {t : Value} (s : Scan w h v 1 t) (c : Nat) (hz : 0 < c) (hc : c < 256) (hv : v < 72057594037927936) :
    Calls Try.prog 32 #[.pointer (some ⟨h, 0, none⟩), .int .u8 c] w fun e w' => e = .returned (.int .i64 (-1)) ∧ Scan w' h (v * 256 + c) 0 t ∧ Beside (· = h) w w' := by
  have hz' : ((c : Int) == 0) = false := by simp; omega
  go_enter Try.func32, Try.ntmps32
  go_wp2_with fail
  refine (digit_last s c hc hv).mono ?_
  rintro e w1 ⟨rfl, hs, hb⟩
  go_wp2_with fail
  go_ret
  exact ⟨rfl, hs, hb⟩
end Go.Proofs.Ytfaecojhkiombaa
