/-
  The contracts of thing and Put, where awake calls them.
-/
import Derived.Test.YthmnbjdmbajhkaaHeapPush
import Derived.Test.YthmnbjdmbajhkaaMaps
namespace Go.Proofs.Ythmnbjdmbajhkaa
set_option linter.unusedVariables false
open Go.RowKit

/-- an object of the heap -/
def At (w : World) (p : Nat) (o : Obj) : Prop := w.heap[p]? = some o
theorem At.lt {w : World} {p : Nat} {o : Obj} (r : At w p o) : p < w.heap.size := (Array.getElem?_eq_some_iff.1 r).1
theorem At.below {w w' : World} {p S : Nat} {o : Obj} (r : At w p o) (hb : Below S w w') (h : p < S) : At w' p o := (hb.block p h).trans r
theorem At.other {w : World} {p q j : Nat} {o : Obj} {v : Value} (r : At w p o) (h : p ≠ q) : At (w.setCell ⟨q, j, none⟩ v) p o := by
  unfold At World.setCell
  simp only [Array.getElem?_modify]
  rw [if_neg (by simpa using fun e => h e.symm)]
  exact r
theorem At.otherMap {w : World} {p q : Nat} {o o' : Obj} (r : At w p o) (h : p ≠ q) : At (setMap w q o') p o := by
  unfold At setMap
  simp only
  rw [Array.getElem?_setIfInBounds_ne (fun e => h e.symm)]
  exact r
theorem At.putMap {w : World} {q : Nat} {o o' : Obj} (r : At w q o) : At (setMap w q o') q o' := by
  unfold At setMap
  simp only
  rw [Array.getElem?_setIfInBounds_self_of_lt r.lt]
theorem At.cell {w : World} {p : Nat} {cs : Array Value} {t : TypeId} {fr : Nat × Nat} (r : At w p (.cells cs t fr)) (j : Nat) (v : Value) (h : cs[j]? = some v) : w.cell? ⟨p, j, none⟩ = some v := (cell_of_row _ _ j _ _ _ r).trans h
theorem At.froz {w : World} {p : Nat} {cs : Array Value} {t : TypeId} (r : At w p (.cells cs t (0, 0))) (j : Nat) : w.frozen? ⟨p, j, none⟩ = false := frozen_of_row _ _ _ _ _ r
theorem At.set {w : World} {p : Nat} {cs : Array Value} {t : TypeId} (r : At w p (.cells cs t (0, 0))) (j : Nat) (v : Value) : At (w.setCell ⟨p, j, none⟩ v) p (.cells (cs.setIfInBounds j v) t (0, 0)) := heap_setCell_same w p j _ _ v r
theorem setMap_below {B : Nat} {w0 w : World} {q : Nat} {o : Obj} (hb : Below B w0 w) (h : B ≤ q) : Below B w0 (setMap w q o) :=
  hb.trans ⟨rfl, rfl, rfl, by simp [setMap], fun k hk => by simp only [setMap]; rw [Array.getElem?_setIfInBounds_ne (by omega)]⟩
theorem setMap_size (w : World) (q : Nat) (o : Obj) : (setMap w q o).heap.size = w.heap.size := by simp [setMap]

set_option maxHeartbeats 1000000 in
theorem thing_no (p m : Nat) (a b : Int) (w : World) (h2 : w.cell? ⟨p, 2, none⟩ = some (.map (some m))) (hm : m < w.heap.size) (hp : p < w.heap.size)
    (hl : ∀ w' : World, w'.heap[m]? = w.heap[m]? → (Instr.lookup 52 (.map (some m)) (key a b) false).run Try.prog w' = .ok (.pointer none) w') :
    Calls Try.prog 21 #[.pointer (some ⟨p, 0, none⟩), key a b] w fun e w' => e = .returned (.pointer none) ∧ Below w.heap.size w w' := by
  have hne : p ≠ w.heap.size := by omega
  have hl2 : ∀ n, (Instr.lookup 52 (.map (some m)) (.agg #[.int .u32 a, .int .u32 b]) false).run Try.prog ((w.alloc (.cells #[.int .u32 a, .int .u32 b] 31)).drewN n) = .ok (.pointer none) ((w.alloc (.cells #[.int .u32 a, .int .u32 b] 31)).drewN n) := fun n => hl _ (by
    show (w.alloc (.cells #[.int .u32 a, .int .u32 b] 31)).heap[m]? = _
    exact ((Below.refl w.heap.size w).alloc (Nat.le_refl _) _).block m hm)
  clear hl
  unfold key
  go_enter Try.func21, Try.ntmps21
  go_wp2_with fail
  go_quiet (fail)
  go_wp2_with fail
  go_ret
  exact ⟨rfl, below_drewN ((Below.refl _ _).alloc (Nat.le_refl _) _) _⟩

theorem eq_map (m : Nat) (w : World) : (binOp .eql 52 (.map (some m)) (.map none)).run Try.prog w = .ok (.bool false) w := by kernel_rfl
theorem neq_thing (w : World) : (binOp .neq 57 (.pointer none) (.pointer none)).run Try.prog w = .ok (.bool false) w := by kernel_rfl
theorem len_map (m : Nat) (es : Array MapEntry) (c : Nat) (w : World) (h : w.heap[m]? = some (.map es c)) : (Builtin.len_ #[52] 3 #[.map (some m)]).run Try.prog w = .ok (.int .i64 es.size) w := by
  simp [Builtin.len_, getObj, run_getMap _ _ _ _ _ h, go_sem]

/-- the shelf with its first thing, which may go -/
def Shelf1 (p m t g cap : Nat) (w : World) : Prop := At w p (.cells #[.int .i64 10, .int .i64 6, .map (some m), .slice (some ⟨g, 0, none⟩) 1 cap] 56 (0, 0)) ∧ At w m (.map #[{ key := key 1 1, val := .pointer (some ⟨t, 0, none⟩), born := 0 }] 1) ∧
  At w t (.cells #[.int .u32 1, .int .u32 1, .int .i64 6, .int .i64 2, .int .i64 0] 60 (0, 0)) ∧ w.cell? ⟨g, 0, none⟩ = some (.pointer (some ⟨t, 0, none⟩)) ∧ w.frozen? ⟨g, 0, none⟩ = false ∧ 1 ≤ cap

set_option maxHeartbeats 2000000 in
theorem put_one (p m : Nat) (w : World) (hr : At w p (.cells #[.int .i64 10, .int .i64 0, .map (some m), .slice none 0 0] 56 (0, 0))) (hm : At w m (.map #[] 0)) :
    Calls Try.prog 16 #[.pointer (some ⟨p, 0, none⟩), key 1 1, .int .i64 6, .int .i64 2, .bool true] w fun e w' => ∃ t g cap, e = .returned (.int .i64 0) ∧ Shelf1 p m t g cap w' ∧ w.heap.size ≤ t ∧ w.heap.size ≤ g ∧ t ≠ g ∧ t < w'.heap.size ∧ g < w'.heap.size ∧ ∀ B, B ≤ p → B ≤ m → Below B w w' := by
  have hp := hr.lt
  have hml := hm.lt
  have HR := Lib.hid hr
  have HM := Lib.hid hm
  have he1 := eq_map m
  have he2 := neq_thing
  clear hr hm
  unfold key
  go_enter Try.func16, Try.ntmps16
  go_wp2_with fail
  have hb0 := (Below.refl w.heap.size w).alloc (Nat.le_refl _) (.cells #[.int .u32 1, .int .u32 1] 31)
  have HR0 := HR.out.below hb0 hp
  have HM0 := HM.out.below hb0 hml
  refine (thing_no p m 1 1 _ (HR0.cell 2 _ rfl) HM0.lt HR0.lt (fun w' h => look0 m 0 1 1 w' (h.trans HM0))).mono ?_
  rintro e w1 ⟨rfl, hb1⟩
  have hs1 := hb1.size
  simp only [World.size_alloc] at hs1
  have HI1 : At w1 w.heap.size (.cells #[.int .u32 1, .int .u32 1] 31 (0, 0)) := At.below (heap_alloc_new w _) hb1 (by simp)
  have HI0 := Lib.hid HI1
  have HR1 := Lib.hid (HR0.below hb1 HR0.lt)
  have HM1 := Lib.hid (HM0.below hb1 HM0.lt)
  have HB1 := Lib.hid (hb0.trans (hb1.mono (by simp)))
  have i0 := HI1.cell 0 (.int .u32 1) rfl
  have i1 := HI1.cell 1 (.int .u32 1) rfl
  have c1 := HR1.out.cell 1 (.int .i64 0) rfl
  have c2 := HR1.out.cell 2 (.map (some m)) rfl
  have f1 := HR1.out.froz 1
  have hlm := len_map m _ _ w1 HM1.out
  have n1 : w.heap.size ≠ w1.heap.size := by omega
  have n2 : p ≠ w1.heap.size := by omega
  have n3 : p < w1.heap.size := by omega
  have n4 : w.heap.size < w1.heap.size := by omega
  clear HI1 HR0 HM0 hb0 hb1
  go_wp2_with fail
  have hbT := (Below.refl w1.heap.size w1).alloc (Nat.le_refl _) (.cells #[.int .u32 1, .int .u32 1, .int .i64 6, .int .i64 2, .int .i64 (-1)] 60)
  have HRT := Lib.hid (HR1.out.below hbT HR1.out.lt)
  have HMT := Lib.hid (HM1.out.below hbT HM1.out.lt)
  have HTT : Hid (At _ w1.heap.size _) := Lib.hid (heap_alloc_new w1 (.cells #[.int .u32 1, .int .u32 1, .int .i64 6, .int .i64 2, .int .i64 (-1)] 60))
  have hput := put0 m 0 1 1 (.pointer (some ⟨w1.heap.size, 0, none⟩)) (w1.alloc (.cells #[.int .u32 1, .int .u32 1, .int .i64 6, .int .i64 2, .int .i64 (-1)] 60)).drew HMT.out
  unfold key at hput
  have t2 := HRT.out.cell 2 (.map (some m)) rfl
  have t0 : (w1.alloc (.cells #[.int .u32 1, .int .u32 1, .int .i64 6, .int .i64 2, .int .i64 (-1)] 60)).cell? ⟨w.heap.size, 0, none⟩ = some (.int .u32 1) := (hbT.cell (p := ⟨w.heap.size, 0, none⟩) n4).trans i0
  have t1 : (w1.alloc (.cells #[.int .u32 1, .int .u32 1, .int .i64 6, .int .i64 2, .int .i64 (-1)] 60)).cell? ⟨w.heap.size, 1, none⟩ = some (.int .u32 1) := (hbT.cell (p := ⟨w.heap.size, 1, none⟩) n4).trans i1
  have hpm : p ≠ m := by
    rintro rfl
    have h := HR.out.symm.trans HM.out
    cases h
  have hml1 := HM1.out.lt
  have him : w.heap.size ≠ m := by omega
  have htm : w1.heap.size ≠ m := by omega
  have HI1 : At (w1.alloc (.cells #[.int .u32 1, .int .u32 1, .int .i64 6, .int .i64 2, .int .i64 (-1)] 60)) w.heap.size (.cells #[.int .u32 1, .int .u32 1] 31 (0, 0)) := HI0.out.below hbT n4
  have HRS : Hid (At (setMap (w1.alloc (.cells #[.int .u32 1, .int .u32 1, .int .i64 6, .int .i64 2, .int .i64 (-1)] 60)).drew m (.map #[{ key := .agg #[.int .u32 1, .int .u32 1], val := .pointer (some ⟨w1.heap.size, 0, none⟩), born := 0 }] 1)) p (.cells #[.int .i64 10, .int .i64 0, .map (some m), .slice none 0 0] 56 (0, 0))) := Lib.hid (At.otherMap (w := (w1.alloc (.cells #[.int .u32 1, .int .u32 1, .int .i64 6, .int .i64 2, .int .i64 (-1)] 60)).drew) HRT.out hpm)
  have HIS : Hid (At (setMap (w1.alloc (.cells #[.int .u32 1, .int .u32 1, .int .i64 6, .int .i64 2, .int .i64 (-1)] 60)).drew m (.map #[{ key := .agg #[.int .u32 1, .int .u32 1], val := .pointer (some ⟨w1.heap.size, 0, none⟩), born := 0 }] 1)) w.heap.size (.cells #[.int .u32 1, .int .u32 1] 31 (0, 0))) := Lib.hid (At.otherMap (w := (w1.alloc (.cells #[.int .u32 1, .int .u32 1, .int .i64 6, .int .i64 2, .int .i64 (-1)] 60)).drew) HI1 him)
  have HTS : Hid (At (setMap (w1.alloc (.cells #[.int .u32 1, .int .u32 1, .int .i64 6, .int .i64 2, .int .i64 (-1)] 60)).drew m (.map #[{ key := .agg #[.int .u32 1, .int .u32 1], val := .pointer (some ⟨w1.heap.size, 0, none⟩), born := 0 }] 1)) w1.heap.size (.cells #[.int .u32 1, .int .u32 1, .int .i64 6, .int .i64 2, .int .i64 (-1)] 60)) := Lib.hid (At.otherMap (w := (w1.alloc (.cells #[.int .u32 1, .int .u32 1, .int .i64 6, .int .i64 2, .int .i64 (-1)] 60)).drew) HTT.out htm)
  have HMS : Hid (At (setMap (w1.alloc (.cells #[.int .u32 1, .int .u32 1, .int .i64 6, .int .i64 2, .int .i64 (-1)] 60)).drew m (.map #[{ key := .agg #[.int .u32 1, .int .u32 1], val := .pointer (some ⟨w1.heap.size, 0, none⟩), born := 0 }] 1)) m (.map #[{ key := .agg #[.int .u32 1, .int .u32 1], val := .pointer (some ⟨w1.heap.size, 0, none⟩), born := 0 }] 1)) := Lib.hid (At.putMap (w := (w1.alloc (.cells #[.int .u32 1, .int .u32 1, .int .i64 6, .int .i64 2, .int .i64 (-1)] 60)).drew) HMT.out)
  have HB2 : Hid (∀ B, B ≤ p → B ≤ m → Below B w (setMap (w1.alloc (.cells #[.int .u32 1, .int .u32 1, .int .i64 6, .int .i64 2, .int .i64 (-1)] 60)).drew m (.map #[{ key := .agg #[.int .u32 1, .int .u32 1], val := .pointer (some ⟨w1.heap.size, 0, none⟩), born := 0 }] 1))) := Lib.hid fun B h1 h2 => setMap_below (((HB1.out.mono (by omega)).alloc (by omega) _).drew) h2
  have s2 := HRS.out.cell 2 (.map (some m)) rfl
  have s0 := HIS.out.cell 0 (.int .u32 1) rfl
  have s1 := HIS.out.cell 1 (.int .u32 1) rfl
  have hSS : (setMap (w1.alloc (.cells #[.int .u32 1, .int .u32 1, .int .i64 6, .int .i64 2, .int .i64 (-1)] 60)).drew m (.map #[{ key := .agg #[.int .u32 1, .int .u32 1], val := .pointer (some ⟨w1.heap.size, 0, none⟩), born := 0 }] 1)).heap.size = w1.heap.size + 1 := by rw [setMap_size]; simp
  go_region_held3 (fun w' => w'.cell? ⟨p, 2, none⟩ = some (.map (some m)) ∧ w'.cell? ⟨w.heap.size, 0, none⟩ = some (.int .u32 1) ∧ w'.cell? ⟨w.heap.size, 1, none⟩ = some (.int .u32 1)) (first | with_reducible exact ⟨t2, t0, t1⟩ | with_reducible exact ⟨s2, s0, s1⟩ | go_keep) (fail)
  clear t2 t0 t1 s2 s0 s1 hput HRT HMT HTT HI1
  generalize setMap (w1.alloc (.cells #[.int .u32 1, .int .u32 1, .int .i64 6, .int .i64 2, .int .i64 (-1)] 60)).drew m (.map #[{ key := .agg #[.int .u32 1, .int .u32 1], val := .pointer (some ⟨w1.heap.size, 0, none⟩), born := 0 }] 1) = w2 at *
  have hpt : p ≠ w1.heap.size := n2
  have hp2 : p < w2.heap.size := by omega
  have ht2 : w1.heap.size < w2.heap.size := by omega
  have hm2 : m < w2.heap.size := by omega
  clear c1 c2 f1 i0 i1 HR1 HM1
  have c1 := HRS.out.cell 1 (.int .i64 0) rfl
  have f1 := HRS.out.froz 1
  have HR3 : Hid (At (w2.setCell ⟨p, 1, none⟩ (.int .i64 6)) p (.cells #[.int .i64 10, .int .i64 6, .map (some m), .slice none 0 0] 56 (0, 0))) := Lib.hid (HRS.out.set 1 (.int .i64 6))
  have HT3 := Lib.hid (HTS.out.other (q := p) (j := 1) (v := .int .i64 6) hpt.symm)
  have HM3 := Lib.hid (HMS.out.other (q := p) (j := 1) (v := .int .i64 6) hpm.symm)
  have HP := Lib.hid (hpush_any p w1.heap.size (w2.setCell ⟨p, 1, none⟩ (.int .i64 6)) (-1) (HR3.out.cell 3 _ rfl) (HR3.out.froz 3) (HT3.out.cell 4 _ rfl) (HT3.out.froz 4) hpt (by simpa using hp2) (by simpa using ht2))
  generalize w1.heap.size = t at *
  go_wp2_with fail
  refine HP.out.mono ?_
  rintro e w5 ⟨rfl, g, cap, w4, ho, hb4, rfl⟩
  go_wp2_with fail
  go_ret
  obtain ⟨g', cap', hv, hg, hgs, hgc, hgf, hcap⟩ := owns_one ho
  simp only [Value.slice.injEq, Option.some.injEq, Addr.mk.injEq, and_true, true_and] at hv
  obtain ⟨rfl, rfl⟩ := hv
  simp only [World.size_setCell] at hg hb4
  have hz4 := hb4.size
  simp only [World.size_setCell] at hz4
  have A1 := (HR3.out.other (q := t) (j := 4) (v := .int .i64 0) hpt).below hb4 hp2
  have A2 := (HT3.out.set 4 (.int .i64 0)).below hb4 ht2
  have A3 := (HM3.out.other (q := t) (j := 4) (v := .int .i64 0) htm.symm).below hb4 hm2
  refine ⟨t, g, cap, rfl, ⟨A1.set 3 _, A3.other hpm.symm, A2.other hpt.symm, ?_, ?_, hcap⟩, by omega, by omega, by omega, by simp; omega, by simp; omega, ?_⟩
  · rw [World.cell?_setCell_other]
    · exact hgc
    · simp
  · simpa using hgf
  · intro B h1 h2
    exact (((((HB2.out B h1 h2).setCell (p := ⟨p, 1, none⟩) h1 _).setCell (p := ⟨t, 4, none⟩) (by show B ≤ t; omega) _).trans (hb4.mono (by omega)))).setCell (p := ⟨p, 3, none⟩) h1 _
end Go.Proofs.Ythmnbjdmbajhkaa
