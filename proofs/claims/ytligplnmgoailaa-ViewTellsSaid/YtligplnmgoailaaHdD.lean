/-
  A message as it is held, and copies of it: plain.Held, CopyHeld.
-/
import Derived.Test.YtligplnmgoailaaHdC
namespace Go.Proofs.Ytligplnmgoailaa
set_option linter.unusedVariables false
open Go.RowKit
attribute [local go_sem] Oper.semAt_some

structure HeldD where
  uid : Int
  up : Int
  fv : Value
  F : List ByteArray
  date : ByteArray
  size : Int
  has : Bool
  bv : Value
  B : List Nat
  gone : Bool
  used : Int
def heldA (h : HeldD) : Array Value := #[.int .u32 h.uid, .int .u32 h.up, h.fv, .string h.date, .int .i64 h.size, .bool h.has, h.bv, .bool h.gone, .int .i64 h.used]
structure HeldOk (w : World) (h : HeldD) : Prop where
  rf : RowS w h.fv h.F
  rb : RowY w h.bv h.B
theorem HeldOk.below {w w' : World} {h : HeldD} (k : HeldOk w h) (hb : Below w.heap.size w w') : HeldOk w' h := ⟨k.rf.below hb, k.rb.below hb⟩
/-- two of them are alike -/
structure HAlike (a b : HeldD) : Prop where
  uid : a.uid = b.uid
  up : a.up = b.up
  F : a.F = b.F
  date : a.date = b.date
  size : a.size = b.size
  has : a.has = b.has
  B : a.B = b.B
  gone : a.gone = b.gone
  used : a.used = b.used
/-- what lies in blocks from n on -/
def OwnFrom (n : Nat) (h : HeldD) : Prop := (∀ k, h.fv.ownBlock = some k → n ≤ k) ∧ ∀ k, h.bv.ownBlock = some k → n ≤ k

/-- a row of cells -/
def Rw (w : World) (p : Nat) (cs : Array Value) (t : TypeId) : Prop := w.heap[p]? = some (.cells cs t (0, 0))
theorem Rw.lt {w : World} {p : Nat} {cs : Array Value} {t : TypeId} (h : Rw w p cs t) : p < w.heap.size := (Array.getElem?_eq_some_iff.1 h).1
theorem Rw.cell {w : World} {p : Nat} {cs : Array Value} {t : TypeId} (h : Rw w p cs t) (j : Nat) (v : Value) (hv : cs[j]? = some v) : w.cell? ⟨p, j, none⟩ = some v := (cell_of_row _ _ j _ _ _ h).trans hv
theorem Rw.froz {w : World} {p : Nat} {cs : Array Value} {t : TypeId} (h : Rw w p cs t) (j : Nat) : w.frozen? ⟨p, j, none⟩ = false := frozen_of_row _ _ _ _ _ h
theorem Rw.below {w w' : World} {p S : Nat} {cs : Array Value} {t : TypeId} (h : Rw w p cs t) (hb : Below S w w') (hp : p < S) : Rw w' p cs t := (hb.block p hp).trans h
theorem Rw.set {w : World} {p : Nat} {cs : Array Value} {t : TypeId} (h : Rw w p cs t) (j : Nat) (v : Value) : Rw (w.setCell ⟨p, j, none⟩ v) p (cs.setIfInBounds j v) t := heap_setCell_same w p j _ _ v h
theorem Rw.other {w : World} {p q j : Nat} {cs : Array Value} {t : TypeId} {v : Value} (h : Rw w p cs t) (hn : p ≠ q) : Rw (w.setCell ⟨q, j, none⟩ v) p cs t := by
  unfold Rw World.setCell
  simp only [Array.getElem?_modify]
  rw [if_neg (by simpa using fun e => hn e.symm)]
  exact h
theorem below_set {B : Nat} {a w : World} (h : Below B a w) {p j : Nat} (hp : B ≤ p) (v : Value) : Below B a (w.setCell ⟨p, j, none⟩ v) :=
  h.trans ⟨rfl, rfl, rfl, by simp [World.setCell], fun k hk => Below.heap_setCell _ _ _ _ (by rintro rfl; exact absurd hk (by simpa using hp))⟩
theorem RowV.setOther {w : World} {size n : Nat} {v : Value} {xs : List Value} (h : RowV w size v n xs) {p j : Nat} {u : Value} (hp : v.ownBlock ≠ some p) : RowV (w.setCell ⟨p, j, none⟩ u) size v n xs := by
  obtain ⟨a, cap, rfl, hc, hm, hl, hn, hcell⟩ := h
  refine ⟨a, cap, rfl, hc, hm, hl, hn, fun x hx i hi => ?_⟩
  have h1 := hcell x hx i hi
  subst hx
  rw [← h1]
  have hne : x.block ≠ p := fun e => hp (by simp [Value.ownBlock, e])
  exact World.cell?_of_block (Below.heap_setCell _ _ _ _ (by simpa [Addr.add] using fun e => hne (by first | exact e.symm | exact e | (split at e <;> simp_all))))

/-- what a copy answers -/
def HeldPost (h : HeldD) (w w' : World) (cs : Array Value) : Prop := ∃ h', cs = heldA h' ∧ HAlike h' h ∧ HeldOk w' h' ∧ OwnFrom w.heap.size h' ∧ Below w.heap.size w w'
/-- all cells of a message stored -/
theorem stored9 {w : World} {q : Nat} {z0 z1 z2 z3 z4 z5 z6 z7 z8 : Value} (r : Rw w q #[z0, z1, z2, z3, z4, z5, z6, z7, z8] 49) (a0 a1 a2 a3 a4 a5 a6 a7 a8 : Value) : Rw (((((((((w.setCell ⟨q, 0, none⟩ a0).setCell ⟨q, 1, none⟩ a1).setCell ⟨q, 2, none⟩ a2).setCell ⟨q, 3, none⟩ a3).setCell ⟨q, 4, none⟩ a4).setCell ⟨q, 5, none⟩ a5).setCell ⟨q, 6, none⟩ a6).setCell ⟨q, 7, none⟩ a7).setCell ⟨q, 8, none⟩ a8) q #[a0, a1, a2, a3, a4, a5, a6, a7, a8] 49 := by
  have r0 : Rw (w.setCell ⟨q, 0, none⟩ a0) q #[a0, z1, z2, z3, z4, z5, z6, z7, z8] 49 := r.set 0 a0
  have r1 : Rw ((w.setCell ⟨q, 0, none⟩ a0).setCell ⟨q, 1, none⟩ a1) q #[a0, a1, z2, z3, z4, z5, z6, z7, z8] 49 := r0.set 1 a1
  have r2 : Rw (((w.setCell ⟨q, 0, none⟩ a0).setCell ⟨q, 1, none⟩ a1).setCell ⟨q, 2, none⟩ a2) q #[a0, a1, a2, z3, z4, z5, z6, z7, z8] 49 := r1.set 2 a2
  have r3 : Rw ((((w.setCell ⟨q, 0, none⟩ a0).setCell ⟨q, 1, none⟩ a1).setCell ⟨q, 2, none⟩ a2).setCell ⟨q, 3, none⟩ a3) q #[a0, a1, a2, a3, z4, z5, z6, z7, z8] 49 := r2.set 3 a3
  have r4 : Rw (((((w.setCell ⟨q, 0, none⟩ a0).setCell ⟨q, 1, none⟩ a1).setCell ⟨q, 2, none⟩ a2).setCell ⟨q, 3, none⟩ a3).setCell ⟨q, 4, none⟩ a4) q #[a0, a1, a2, a3, a4, z5, z6, z7, z8] 49 := r3.set 4 a4
  have r5 : Rw ((((((w.setCell ⟨q, 0, none⟩ a0).setCell ⟨q, 1, none⟩ a1).setCell ⟨q, 2, none⟩ a2).setCell ⟨q, 3, none⟩ a3).setCell ⟨q, 4, none⟩ a4).setCell ⟨q, 5, none⟩ a5) q #[a0, a1, a2, a3, a4, a5, z6, z7, z8] 49 := r4.set 5 a5
  have r6 : Rw (((((((w.setCell ⟨q, 0, none⟩ a0).setCell ⟨q, 1, none⟩ a1).setCell ⟨q, 2, none⟩ a2).setCell ⟨q, 3, none⟩ a3).setCell ⟨q, 4, none⟩ a4).setCell ⟨q, 5, none⟩ a5).setCell ⟨q, 6, none⟩ a6) q #[a0, a1, a2, a3, a4, a5, a6, z7, z8] 49 := r5.set 6 a6
  have r7 : Rw ((((((((w.setCell ⟨q, 0, none⟩ a0).setCell ⟨q, 1, none⟩ a1).setCell ⟨q, 2, none⟩ a2).setCell ⟨q, 3, none⟩ a3).setCell ⟨q, 4, none⟩ a4).setCell ⟨q, 5, none⟩ a5).setCell ⟨q, 6, none⟩ a6).setCell ⟨q, 7, none⟩ a7) q #[a0, a1, a2, a3, a4, a5, a6, a7, z8] 49 := r6.set 7 a7
  have r8 : Rw (((((((((w.setCell ⟨q, 0, none⟩ a0).setCell ⟨q, 1, none⟩ a1).setCell ⟨q, 2, none⟩ a2).setCell ⟨q, 3, none⟩ a3).setCell ⟨q, 4, none⟩ a4).setCell ⟨q, 5, none⟩ a5).setCell ⟨q, 6, none⟩ a6).setCell ⟨q, 7, none⟩ a7).setCell ⟨q, 8, none⟩ a8) q #[a0, a1, a2, a3, a4, a5, a6, a7, a8] 49 := r7.set 8 a8
  exact r8
theorem stored9_row {w : World} {q size n : Nat} {v : Value} {xs : List Value} (h : RowV w size v n xs) (hv : v.ownBlock ≠ some q) (a0 a1 a2 a3 a4 a5 a6 a7 a8 : Value) : RowV (((((((((w.setCell ⟨q, 0, none⟩ a0).setCell ⟨q, 1, none⟩ a1).setCell ⟨q, 2, none⟩ a2).setCell ⟨q, 3, none⟩ a3).setCell ⟨q, 4, none⟩ a4).setCell ⟨q, 5, none⟩ a5).setCell ⟨q, 6, none⟩ a6).setCell ⟨q, 7, none⟩ a7).setCell ⟨q, 8, none⟩ a8) size v n xs := (((((((((h.setOther hv (j := 0) (u := a0)).setOther hv (j := 1) (u := a1)).setOther hv (j := 2) (u := a2)).setOther hv (j := 3) (u := a3)).setOther hv (j := 4) (u := a4)).setOther hv (j := 5) (u := a5)).setOther hv (j := 6) (u := a6)).setOther hv (j := 7) (u := a7)).setOther hv (j := 8) (u := a8))
theorem stored9_below {w : World} {B q : Nat} (hq : B ≤ q) (a0 a1 a2 a3 a4 a5 a6 a7 a8 : Value) : Below B w (((((((((w.setCell ⟨q, 0, none⟩ a0).setCell ⟨q, 1, none⟩ a1).setCell ⟨q, 2, none⟩ a2).setCell ⟨q, 3, none⟩ a3).setCell ⟨q, 4, none⟩ a4).setCell ⟨q, 5, none⟩ a5).setCell ⟨q, 6, none⟩ a6).setCell ⟨q, 7, none⟩ a7).setCell ⟨q, 8, none⟩ a8) := (below_set (below_set (below_set (below_set (below_set (below_set (below_set (below_set (below_set (Below.refl _ _) hq (j := 0) a0) hq (j := 1) a1) hq (j := 2) a2) hq (j := 3) a3) hq (j := 4) a4) hq (j := 5) a5) hq (j := 6) a6) hq (j := 7) a7) hq (j := 8) a8)

set_option maxRecDepth 100000 in
set_option maxHeartbeats 4000000 in
theorem held_any (h : HeldD) (w : World) (k : HeldOk w h) : Calls Try.prog 38 #[.agg (heldA h)] w fun e w' => ∃ cs, e = .returned (.agg cs) ∧ HeldPost h w w' cs := by
  obtain ⟨uid, up, fv, F, date, size, has, bv, B, gone, used⟩ := h
  have K := Lib.hid k
  clear k
  unfold heldA
  go_enter Try.func38, Try.ntmps38
  go_wp2_with fail
  have hb0 : Below w.heap.size w ((w.alloc (.cells #[.int .u32 uid, .int .u32 up, fv, .string date, .int .i64 size, .bool has, bv, .bool gone, .int .i64 used] 49)).alloc (.cells #[.int .u32 0, .int .u32 0, .slice none 0 0, .string ⟨#[]⟩, .int .i64 0, .bool false, .slice none 0 0, .bool false, .int .i64 0] 49)) := ((Below.refl _ _).alloc (Nat.le_refl _) _).alloc (by simp) _
  have hs0 : ((w.alloc (.cells #[.int .u32 uid, .int .u32 up, fv, .string date, .int .i64 size, .bool has, bv, .bool gone, .int .i64 used] 49)).alloc (.cells #[.int .u32 0, .int .u32 0, .slice none 0 0, .string ⟨#[]⟩, .int .i64 0, .bool false, .slice none 0 0, .bool false, .int .i64 0] 49)).heap.size = w.heap.size + 2 := by simp
  have RP : Rw ((w.alloc (.cells #[.int .u32 uid, .int .u32 up, fv, .string date, .int .i64 size, .bool has, bv, .bool gone, .int .i64 used] 49)).alloc (.cells #[.int .u32 0, .int .u32 0, .slice none 0 0, .string ⟨#[]⟩, .int .i64 0, .bool false, .slice none 0 0, .bool false, .int .i64 0] 49)) w.heap.size #[.int .u32 uid, .int .u32 up, fv, .string date, .int .i64 size, .bool has, bv, .bool gone, .int .i64 used] 49 := (Below.heap_alloc _ _ _ (by simp)).trans (heap_alloc_new w _)
  have RQ : Rw ((w.alloc (.cells #[.int .u32 uid, .int .u32 up, fv, .string date, .int .i64 size, .bool has, bv, .bool gone, .int .i64 used] 49)).alloc (.cells #[.int .u32 0, .int .u32 0, .slice none 0 0, .string ⟨#[]⟩, .int .i64 0, .bool false, .slice none 0 0, .bool false, .int .i64 0] 49)) (w.heap.size + 1) #[.int .u32 0, .int .u32 0, .slice none 0 0, .string ⟨#[]⟩, .int .i64 0, .bool false, .slice none 0 0, .bool false, .int .i64 0] 49 := two_row w _ _
  generalize ((w.alloc (.cells #[.int .u32 uid, .int .u32 up, fv, .string date, .int .i64 size, .bool has, bv, .bool gone, .int .i64 used] 49)).alloc (.cells #[.int .u32 0, .int .u32 0, .slice none 0 0, .string ⟨#[]⟩, .int .i64 0, .bool false, .slice none 0 0, .bool false, .int .i64 0] 49)) = w0 at *
  refine (cloneS_any fv F w0 (K.out.rf.below hb0)).mono ?_
  rintro e w1 ⟨f1, rfl, hf1, hb1, ho1⟩
  obtain ⟨fa, fc, hff, -⟩ := id hf1.1
  subst hff
  have hs1 := hb1.size
  have RP1 := RP.below hb1 (by omega)
  have RQ1 := RQ.below hb1 (by omega)
  have hB1 := hb0.trans (hb1.mono hb0.size)
  have hb2 := below_set hB1 (Nat.le_refl w.heap.size) (j := 2) (.slice fa F.length fc)
  have RP2 := Lib.hid (RP1.set 2 (.slice fa F.length fc))
  have RQ2 := Lib.hid (RQ1.other (q := w.heap.size) (j := 2) (v := (.slice fa F.length fc)) (by omega))
  have RF2 : Hid (RowS (w1.setCell ⟨w.heap.size, 2, none⟩ (.slice fa F.length fc)) (.slice fa F.length fc) F) := Lib.hid ⟨hf1.1.setOther (fun e => by have := ho1 _ e; omega), hf1.2⟩
  have RB2 := Lib.hid (K.out.rb.below hb2)
  have c2 := RP1.cell 2 fv rfl
  have z2 := RP1.froz 2
  have HB2 := Lib.hid hb2
  have hs2 : (w1.setCell ⟨w.heap.size, 2, none⟩ (.slice fa F.length fc)).heap.size = w1.heap.size := by simp [World.setCell]
  have HO1 := Lib.hid ho1
  have c6 := RP2.out.cell 6 bv rfl
  clear hf1 hb1 ho1 RP1 RQ1 hB1 hb2 RP RQ hb0
  go_wp2_with fail
  generalize w1.setCell ⟨w.heap.size, 2, none⟩ (.slice fa F.length fc) = w2 at *
  clear c2 z2 c6
  refine (cloneY_any bv B w2 RB2.out).mono ?_
  rintro e w3 ⟨b1, rfl, hf3, hb3, ho3⟩
  obtain ⟨ba, bc, hbb, -⟩ := id hf3.1
  subst hbb
  have hs3 := hb3.size
  have RP3 := RP2.out.below hb3 (by omega)
  have RQ3 := RQ2.out.below hb3 (by omega)
  have hB3 := HB2.out.trans (hb3.mono HB2.out.size)
  have hb4 := below_set hB3 (Nat.le_refl w.heap.size) (j := 6) (.slice ba B.length bc)
  have RP4 := Lib.hid (RP3.set 6 (.slice ba B.length bc))
  have RQ4 := Lib.hid (RQ3.other (q := w.heap.size) (j := 6) (v := (.slice ba B.length bc)) (by omega))
  have RF4 : Hid (RowS (w3.setCell ⟨w.heap.size, 6, none⟩ (.slice ba B.length bc)) (.slice fa F.length fc) F) := Lib.hid ⟨(RF2.out.below hb3).1.setOther (fun e => by have := HO1.out _ e; omega), RF2.out.2⟩
  have RB4 : Hid (RowY (w3.setCell ⟨w.heap.size, 6, none⟩ (.slice ba B.length bc)) (.slice ba B.length bc) B) := Lib.hid ⟨hf3.1.setOther (fun e => by have := ho3 _ e; omega), hf3.2⟩
  have HB4 := Lib.hid hb4
  have c6 := RP3.cell 6 bv rfl
  have z6 := RP3.froz 6
  have d0 := RP4.out.cell 0 (.int .u32 uid) rfl
  have d1 := RP4.out.cell 1 (.int .u32 up) rfl
  have d2 := RP4.out.cell 2 (.slice fa F.length fc) rfl
  have d3 := RP4.out.cell 3 (.string date) rfl
  have d4 := RP4.out.cell 4 (.int .i64 size) rfl
  have d5 := RP4.out.cell 5 (.bool has) rfl
  have d6 := RP4.out.cell 6 (.slice ba B.length bc) rfl
  have d7 := RP4.out.cell 7 (.bool gone) rfl
  have d8 := RP4.out.cell 8 (.int .i64 used) rfl
  have HO3 := Lib.hid ho3
  have hs4 : (w3.setCell ⟨w.heap.size, 6, none⟩ (.slice ba B.length bc)).heap.size = w3.heap.size := by simp [World.setCell]
  have e0 := RQ4.out.cell 0 _ rfl
  have e1 := RQ4.out.cell 1 _ rfl
  have e2 := RQ4.out.cell 2 _ rfl
  have e3 := RQ4.out.cell 3 _ rfl
  have e4 := RQ4.out.cell 4 _ rfl
  have e5 := RQ4.out.cell 5 _ rfl
  have e6 := RQ4.out.cell 6 _ rfl
  have e7 := RQ4.out.cell 7 _ rfl
  have e8 := RQ4.out.cell 8 _ rfl
  have g0 := RQ4.out.froz
  clear hf3 hb3 ho3 RP3 RQ3 hB3 hb4
  go_wp2_with fail
  have hnf : (Value.slice fa F.length fc).ownBlock ≠ some (w.heap.size + 1) := fun e => by have := HO1.out _ e; omega
  have hnb : (Value.slice ba B.length bc).ownBlock ≠ some (w.heap.size + 1) := fun e => by have := HO3.out _ e; omega
  have hq : w.heap.size ≤ w.heap.size + 1 := Nat.le_succ _
  have r9 := stored9 RQ4.out (.int .u32 uid) (.int .u32 up) (.slice fa F.length fc) (.string date) (.int .i64 size) (.bool has) (.slice ba B.length bc) (.bool gone) (.int .i64 used)
  have rf9 := stored9_row RF4.out.1 hnf (.int .u32 uid) (.int .u32 up) (.slice fa F.length fc) (.string date) (.int .i64 size) (.bool has) (.slice ba B.length bc) (.bool gone) (.int .i64 used)
  have rb9 := stored9_row RB4.out.1 hnb (.int .u32 uid) (.int .u32 up) (.slice fa F.length fc) (.string date) (.int .i64 size) (.bool has) (.slice ba B.length bc) (.bool gone) (.int .i64 used)
  have hb9 := HB4.out.trans (stored9_below (w := w3.setCell ⟨w.heap.size, 6, none⟩ (.slice ba B.length bc)) hq (.int .u32 uid) (.int .u32 up) (.slice fa F.length fc) (.string date) (.int .i64 size) (.bool has) (.slice ba B.length bc) (.bool gone) (.int .i64 used))
  have hfin : HeldPost ⟨uid, up, fv, F, date, size, has, bv, B, gone, used⟩ w _ #[.int .u32 uid, .int .u32 up, .slice fa F.length fc, .string date, .int .i64 size, .bool has, .slice ba B.length bc, .bool gone, .int .i64 used] := ⟨⟨uid, up, .slice fa F.length fc, F, date, size, has, .slice ba B.length bc, B, gone, used⟩, rfl, ⟨rfl, rfl, rfl, rfl, rfl, rfl, rfl, rfl, rfl⟩, ⟨⟨rf9, RF4.out.2⟩, ⟨rb9, RB4.out.2⟩⟩,
      ⟨fun k hk => by have := HO1.out k hk; omega, fun k hk => by have := HO3.out k hk; omega⟩, hb9⟩
  clear rf9 rb9 hb9 RF4 RB4 HB4 RP4 RQ4
  exact bodyPost_ret (v := .agg #[.int .u32 uid, .int .u32 up, .slice fa F.length fc, .string date, .int .i64 size, .bool has, .slice ba B.length bc, .bool gone, .int .i64 used]) (results_cell_row rfl _ _ (w.heap.size + 1) 49 #[.int .u32 uid, .int .u32 up, .slice fa F.length fc, .string date, .int .i64 size, .bool has, .slice ba B.length bc, .bool gone, .int .i64 used] (0, 0) _ rfl r9 Try.underlying49 rfl (by kernel_rfl)) rfl ⟨_, rfl, hfin⟩
set_option maxRecDepth 100000 in
set_option maxHeartbeats 4000000 in
theorem copyHeld_any (h : HeldD) (w : World) (k : HeldOk w h) : Calls Try.prog 20 #[.agg (heldA h)] w fun e w' => ∃ cs, e = .returned (.agg cs) ∧ HeldPost h w w' cs := by
  obtain ⟨uid, up, fv, F, date, size, has, bv, B, gone, used⟩ := h
  have K := Lib.hid k
  clear k
  unfold heldA
  go_enter Try.func20, Try.ntmps20
  go_wp2_with (first
    | (at_builtin
       have hb0 : Below w.heap.size w ((w.alloc (.cells #[.int .u32 uid, .int .u32 up, fv, .string date, .int .i64 size, .bool has, bv, .bool gone, .int .i64 used] 49)).alloc (.cells #[.int .u32 0, .int .u32 0, .slice none 0 0, .string ⟨#[]⟩, .int .i64 0, .bool false, .slice none 0 0, .bool false, .int .i64 0] 49)) := ((Below.refl _ _).alloc (Nat.le_refl _) _).alloc (by simp) _
       have hs0 : ((w.alloc (.cells #[.int .u32 uid, .int .u32 up, fv, .string date, .int .i64 size, .bool has, bv, .bool gone, .int .i64 used] 49)).alloc (.cells #[.int .u32 0, .int .u32 0, .slice none 0 0, .string ⟨#[]⟩, .int .i64 0, .bool false, .slice none 0 0, .bool false, .int .i64 0] 49)).heap.size = w.heap.size + 2 := by simp
       have RP : Rw ((w.alloc (.cells #[.int .u32 uid, .int .u32 up, fv, .string date, .int .i64 size, .bool has, bv, .bool gone, .int .i64 used] 49)).alloc (.cells #[.int .u32 0, .int .u32 0, .slice none 0 0, .string ⟨#[]⟩, .int .i64 0, .bool false, .slice none 0 0, .bool false, .int .i64 0] 49)) w.heap.size #[.int .u32 uid, .int .u32 up, fv, .string date, .int .i64 size, .bool has, bv, .bool gone, .int .i64 used] 49 := (Below.heap_alloc _ _ _ (by simp)).trans (heap_alloc_new w _)
       have RQ : Rw ((w.alloc (.cells #[.int .u32 uid, .int .u32 up, fv, .string date, .int .i64 size, .bool has, bv, .bool gone, .int .i64 used] 49)).alloc (.cells #[.int .u32 0, .int .u32 0, .slice none 0 0, .string ⟨#[]⟩, .int .i64 0, .bool false, .slice none 0 0, .bool false, .int .i64 0] 49)) (w.heap.size + 1) #[.int .u32 0, .int .u32 0, .slice none 0 0, .string ⟨#[]⟩, .int .i64 0, .bool false, .slice none 0 0, .bool false, .int .i64 0] 49 := two_row w _ _
       generalize ((w.alloc (.cells #[.int .u32 uid, .int .u32 up, fv, .string date, .int .i64 size, .bool has, bv, .bool gone, .int .i64 used] 49)).alloc (.cells #[.int .u32 0, .int .u32 0, .slice none 0 0, .string ⟨#[]⟩, .int .i64 0, .bool false, .slice none 0 0, .bool false, .int .i64 0] 49)) = w0 at *
       have HR1 := Lib.hid (run_copyS 46 (World.ownsRow_nil w0 w0.heap.size 9 1) (Nat.le_refl _) (K.out.rf.below hb0))
       refine wpList_run (v := .slice none 0 0) (y := fv) (R := fun v' w' => RowS w' v' F ∧ Below w0.heap.size w0 w' ∧ ∀ k, v'.ownBlock = some k → w0.heap.size ≤ k) rfl (.const (.slice none 0 0)) (.tmp 4) 46 rfl rfl rfl HR1.out ?_
       rintro f1 w1 ⟨hf1, hb1, ho1⟩
       obtain ⟨fa, fc, hff, -⟩ := id hf1.1
       subst hff
       have hs1 := hb1.size
       have RP1 := RP.below hb1 (by omega)
       have RQ1 := RQ.below hb1 (by omega)
       have hB1 := hb0.trans (hb1.mono hb0.size)
       have hb2 := below_set hB1 (Nat.le_refl w.heap.size) (j := 2) (.slice fa F.length fc)
       have RP2 := Lib.hid (RP1.set 2 (.slice fa F.length fc))
       have RQ2 := Lib.hid (RQ1.other (q := w.heap.size) (j := 2) (v := (.slice fa F.length fc)) (by omega))
       have RF2 : Hid (RowS (w1.setCell ⟨w.heap.size, 2, none⟩ (.slice fa F.length fc)) (.slice fa F.length fc) F) := Lib.hid ⟨hf1.1.setOther (fun e => by have := ho1 _ e; omega), hf1.2⟩
       have RB2 := Lib.hid (K.out.rb.below hb2)
       have c2 := RP1.cell 2 fv rfl
       have z2 := RP1.froz 2
       have HB2 := Lib.hid hb2
       have hs2 : (w1.setCell ⟨w.heap.size, 2, none⟩ (.slice fa F.length fc)).heap.size = w1.heap.size := by simp [World.setCell]
       have HO1 := Lib.hid ho1
       have c6 := RP2.out.cell 6 bv rfl
       clear hf1 hb1 ho1 RP1 RQ1 hB1 hb2 RP RQ hb0
       have HR2 := Lib.hid (run_copyY 47 (World.ownsRow_nil (w1.setCell ⟨w.heap.size, 2, none⟩ (.slice fa F.length fc)) (w1.setCell ⟨w.heap.size, 2, none⟩ (.slice fa F.length fc)).heap.size 5 1) (Nat.le_refl _) RB2.out))
    | (at_builtin
       refine wpList_run (v := .slice none 0 0) (y := bv) (R := fun v' w' => RowY w' v' B ∧ Below (w1.setCell ⟨w.heap.size, 2, none⟩ (.slice fa F.length fc)).heap.size (w1.setCell ⟨w.heap.size, 2, none⟩ (.slice fa F.length fc)) w' ∧ ∀ k, v'.ownBlock = some k → (w1.setCell ⟨w.heap.size, 2, none⟩ (.slice fa F.length fc)).heap.size ≤ k) rfl (.const (.slice none 0 0)) (.tmp 8) 47 rfl rfl rfl HR2.out ?_
       rintro b1 w3 ⟨hf3, hb3, ho3⟩
       clear c2 z2 c6
       obtain ⟨ba, bc, hbb, -⟩ := id hf3.1
       subst hbb
       have hs3 := hb3.size
       have RP3 := RP2.out.below hb3 (by omega)
       have RQ3 := RQ2.out.below hb3 (by omega)
       have hB3 := HB2.out.trans (hb3.mono HB2.out.size)
       have hb4 := below_set hB3 (Nat.le_refl w.heap.size) (j := 6) (.slice ba B.length bc)
       have RP4 := Lib.hid (RP3.set 6 (.slice ba B.length bc))
       have RQ4 := Lib.hid (RQ3.other (q := w.heap.size) (j := 6) (v := (.slice ba B.length bc)) (by omega))
       have RF4 : Hid (RowS (w3.setCell ⟨w.heap.size, 6, none⟩ (.slice ba B.length bc)) (.slice fa F.length fc) F) := Lib.hid ⟨(RF2.out.below hb3).1.setOther (fun e => by have := HO1.out _ e; omega), RF2.out.2⟩
       have RB4 : Hid (RowY (w3.setCell ⟨w.heap.size, 6, none⟩ (.slice ba B.length bc)) (.slice ba B.length bc) B) := Lib.hid ⟨hf3.1.setOther (fun e => by have := ho3 _ e; omega), hf3.2⟩
       have HB4 := Lib.hid hb4
       have c6 := RP3.cell 6 bv rfl
       have z6 := RP3.froz 6
       have d0 := RP4.out.cell 0 (.int .u32 uid) rfl
       have d1 := RP4.out.cell 1 (.int .u32 up) rfl
       have d2 := RP4.out.cell 2 (.slice fa F.length fc) rfl
       have d3 := RP4.out.cell 3 (.string date) rfl
       have d4 := RP4.out.cell 4 (.int .i64 size) rfl
       have d5 := RP4.out.cell 5 (.bool has) rfl
       have d6 := RP4.out.cell 6 (.slice ba B.length bc) rfl
       have d7 := RP4.out.cell 7 (.bool gone) rfl
       have d8 := RP4.out.cell 8 (.int .i64 used) rfl
       have HO3 := Lib.hid ho3
       have hs4 : (w3.setCell ⟨w.heap.size, 6, none⟩ (.slice ba B.length bc)).heap.size = w3.heap.size := by simp [World.setCell]
       have e0 := RQ4.out.cell 0 _ rfl
       have e1 := RQ4.out.cell 1 _ rfl
       have e2 := RQ4.out.cell 2 _ rfl
       have e3 := RQ4.out.cell 3 _ rfl
       have e4 := RQ4.out.cell 4 _ rfl
       have e5 := RQ4.out.cell 5 _ rfl
       have e6 := RQ4.out.cell 6 _ rfl
       have e7 := RQ4.out.cell 7 _ rfl
       have e8 := RQ4.out.cell 8 _ rfl
       have g0 := RQ4.out.froz
       clear hf3 hb3 ho3 RP3 RQ3 hB3 hb4))
  have hnf : (Value.slice fa F.length fc).ownBlock ≠ some (w.heap.size + 1) := fun e => by have := HO1.out _ e; omega
  have hnb : (Value.slice ba B.length bc).ownBlock ≠ some (w.heap.size + 1) := fun e => by have := HO3.out _ e; omega
  have hq : w.heap.size ≤ w.heap.size + 1 := Nat.le_succ _
  have r9 := stored9 RQ4.out (.int .u32 uid) (.int .u32 up) (.slice fa F.length fc) (.string date) (.int .i64 size) (.bool has) (.slice ba B.length bc) (.bool gone) (.int .i64 used)
  have rf9 := stored9_row RF4.out.1 hnf (.int .u32 uid) (.int .u32 up) (.slice fa F.length fc) (.string date) (.int .i64 size) (.bool has) (.slice ba B.length bc) (.bool gone) (.int .i64 used)
  have rb9 := stored9_row RB4.out.1 hnb (.int .u32 uid) (.int .u32 up) (.slice fa F.length fc) (.string date) (.int .i64 size) (.bool has) (.slice ba B.length bc) (.bool gone) (.int .i64 used)
  have hb9 := HB4.out.trans (stored9_below (w := w3.setCell ⟨w.heap.size, 6, none⟩ (.slice ba B.length bc)) hq (.int .u32 uid) (.int .u32 up) (.slice fa F.length fc) (.string date) (.int .i64 size) (.bool has) (.slice ba B.length bc) (.bool gone) (.int .i64 used))
  have hfin : HeldPost ⟨uid, up, fv, F, date, size, has, bv, B, gone, used⟩ w _ #[.int .u32 uid, .int .u32 up, .slice fa F.length fc, .string date, .int .i64 size, .bool has, .slice ba B.length bc, .bool gone, .int .i64 used] := ⟨⟨uid, up, .slice fa F.length fc, F, date, size, has, .slice ba B.length bc, B, gone, used⟩, rfl, ⟨rfl, rfl, rfl, rfl, rfl, rfl, rfl, rfl, rfl⟩, ⟨⟨rf9, RF4.out.2⟩, ⟨rb9, RB4.out.2⟩⟩,
      ⟨fun k hk => by have := HO1.out k hk; omega, fun k hk => by have := HO3.out k hk; omega⟩, hb9⟩
  clear rf9 rb9 hb9 RF4 RB4 HB4 RP4 RQ4
  exact bodyPost_ret (v := .agg #[.int .u32 uid, .int .u32 up, .slice fa F.length fc, .string date, .int .i64 size, .bool has, .slice ba B.length bc, .bool gone, .int .i64 used]) (results_cell_row rfl _ _ (w.heap.size + 1) 49 #[.int .u32 uid, .int .u32 up, .slice fa F.length fc, .string date, .int .i64 size, .bool has, .slice ba B.length bc, .bool gone, .int .i64 used] (0, 0) _ rfl r9 Try.underlying49 rfl (by kernel_rfl)) rfl ⟨_, rfl, hfin⟩
end Go.Proofs.Ytligplnmgoailaa
