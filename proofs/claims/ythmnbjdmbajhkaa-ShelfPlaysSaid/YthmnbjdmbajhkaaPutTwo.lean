/-
  The contract of Put, where awake calls it the second time.
-/
import Derived.Test.YthmnbjdmbajhkaaPut
namespace Go.Proofs.Ythmnbjdmbajhkaa
set_option linter.unusedVariables false
open Go.RowKit

theorem cell_same {w w' : World} {g : Nat} (h : w'.heap[g]? = w.heap[g]?) (j : Nat) : w'.cell? ⟨g, j, none⟩ = w.cell? ⟨g, j, none⟩ := by simp only [World.cell?, h]
theorem froz_same {w w' : World} {g : Nat} (h : w'.heap[g]? = w.heap[g]?) (j : Nat) : w'.frozen? ⟨g, j, none⟩ = w.frozen? ⟨g, j, none⟩ := by simp only [World.frozen?, h]

/-- the shelf with both things -/
def Shelf2 (p m t g cap u : Nat) (w : World) : Prop := At w p (.cells #[.int .i64 10, .int .i64 12, .map (some m), .slice (some ⟨g, 0, none⟩) 1 cap] 56 (0, 0)) ∧ At w m (.map #[{ key := key 1 1, val := .pointer (some ⟨t, 0, none⟩), born := 0 }, { key := key 1 2, val := .pointer (some ⟨u, 0, none⟩), born := 1 }] 2) ∧
  At w t (.cells #[.int .u32 1, .int .u32 1, .int .i64 6, .int .i64 2, .int .i64 0] 60 (0, 0)) ∧ w.cell? ⟨g, 0, none⟩ = some (.pointer (some ⟨t, 0, none⟩)) ∧ w.frozen? ⟨g, 0, none⟩ = false ∧ 1 ≤ cap

set_option maxHeartbeats 2000000 in
theorem put_two (p m t g cap : Nat) (w : World) (hS : Shelf1 p m t g cap w) (hgl : g < w.heap.size) (hgm : g ≠ m) (hgp : g ≠ p) (htp : t ≠ p) (htm0 : t ≠ m) :
    Calls Try.prog 16 #[.pointer (some ⟨p, 0, none⟩), key 1 2, .int .i64 6, .int .i64 1, .bool false] w fun e w' => ∃ u, e = .returned (.int .i64 0) ∧ Shelf2 p m t g cap u w' ∧ w.heap.size ≤ w'.heap.size ∧ ∀ B, B ≤ p → B ≤ m → B ≤ w.heap.size → Below B w w' := by
  obtain ⟨hr, hm, ht, hgc, hgf, hcap⟩ := hS
  have hp := hr.lt
  have hml := hm.lt
  have htl := ht.lt
  have HR := Lib.hid hr
  have HM := Lib.hid hm
  have HT := Lib.hid ht
  have HG := Lib.hid hgc
  have HGF := Lib.hid hgf
  have he1 := eq_map m
  have he2 := neq_thing
  clear hr hm ht hgc hgf
  unfold key
  go_enter Try.func16, Try.ntmps16
  go_wp2_with fail
  have hb0 := (Below.refl w.heap.size w).alloc (Nat.le_refl _) (.cells #[.int .u32 1, .int .u32 2] 31)
  have HR0 := HR.out.below hb0 hp
  have HM0 := HM.out.below hb0 hml
  refine (thing_no p m 1 2 _ (HR0.cell 2 _ rfl) HM0.lt HR0.lt (fun w' h => look1 m 1 _ w' (h.trans HM0))).mono ?_
  rintro e w1 ⟨rfl, hb1⟩
  have hs1 := hb1.size
  simp only [World.size_alloc] at hs1
  have HI1 : At w1 w.heap.size (.cells #[.int .u32 1, .int .u32 2] 31 (0, 0)) := At.below (heap_alloc_new w _) hb1 (by simp)
  have HI0 := Lib.hid HI1
  have HB1 := Lib.hid (hb0.trans (hb1.mono (by simp)))
  have HR1 := Lib.hid (HR.out.below HB1.out hp)
  have HM1 := Lib.hid (HM.out.below HB1.out hml)
  have i0 := HI1.cell 0 (.int .u32 1) rfl
  have i1 := HI1.cell 1 (.int .u32 2) rfl
  have c1 := HR1.out.cell 1 (.int .i64 6) rfl
  have c2 := HR1.out.cell 2 (.map (some m)) rfl
  have f1 := HR1.out.froz 1
  have hlm := len_map m _ _ w1 HM1.out
  have n1 : w.heap.size ≠ w1.heap.size := by omega
  have n2 : p ≠ w1.heap.size := by omega
  have n3 : p < w1.heap.size := by omega
  have n4 : w.heap.size < w1.heap.size := by omega
  clear HI1 HR0 HM0 hb0 hb1
  go_wp2_with fail
  have hbT := (Below.refl w1.heap.size w1).alloc (Nat.le_refl _) (.cells #[.int .u32 1, .int .u32 2, .int .i64 6, .int .i64 1, .int .i64 (-1)] 60)
  have HRT := Lib.hid (HR1.out.below hbT HR1.out.lt)
  have HMT := Lib.hid (HM1.out.below hbT HM1.out.lt)
  have hput := put1 m 1 (.pointer (some ⟨t, 0, none⟩)) (.pointer (some ⟨w1.heap.size, 0, none⟩)) (w1.alloc (.cells #[.int .u32 1, .int .u32 2, .int .i64 6, .int .i64 1, .int .i64 (-1)] 60)).drew HMT.out
  unfold key at hput
  have t2 := HRT.out.cell 2 (.map (some m)) rfl
  have t0 : (w1.alloc (.cells #[.int .u32 1, .int .u32 2, .int .i64 6, .int .i64 1, .int .i64 (-1)] 60)).cell? ⟨w.heap.size, 0, none⟩ = some (.int .u32 1) := (hbT.cell (p := ⟨w.heap.size, 0, none⟩) n4).trans i0
  have t1 : (w1.alloc (.cells #[.int .u32 1, .int .u32 2, .int .i64 6, .int .i64 1, .int .i64 (-1)] 60)).cell? ⟨w.heap.size, 1, none⟩ = some (.int .u32 2) := (hbT.cell (p := ⟨w.heap.size, 1, none⟩) n4).trans i1
  have hpm : p ≠ m := by
    rintro rfl
    have h := HR.out.symm.trans HM.out
    cases h
  have him : w.heap.size ≠ m := by omega
  have HI1 : At (w1.alloc (.cells #[.int .u32 1, .int .u32 2, .int .i64 6, .int .i64 1, .int .i64 (-1)] 60)) w.heap.size (.cells #[.int .u32 1, .int .u32 2] 31 (0, 0)) := HI0.out.below hbT n4
  have HRS : Hid (At (setMap (w1.alloc (.cells #[.int .u32 1, .int .u32 2, .int .i64 6, .int .i64 1, .int .i64 (-1)] 60)).drew m (.map #[{ key := .agg #[.int .u32 1, .int .u32 1], val := .pointer (some ⟨t, 0, none⟩), born := 0 }, { key := .agg #[.int .u32 1, .int .u32 2], val := .pointer (some ⟨w1.heap.size, 0, none⟩), born := 1 }] 2)) p (.cells #[.int .i64 10, .int .i64 6, .map (some m), .slice (some ⟨g, 0, none⟩) 1 cap] 56 (0, 0))) := Lib.hid (At.otherMap (w := (w1.alloc (.cells #[.int .u32 1, .int .u32 2, .int .i64 6, .int .i64 1, .int .i64 (-1)] 60)).drew) HRT.out hpm)
  have HIS : Hid (At (setMap (w1.alloc (.cells #[.int .u32 1, .int .u32 2, .int .i64 6, .int .i64 1, .int .i64 (-1)] 60)).drew m (.map #[{ key := .agg #[.int .u32 1, .int .u32 1], val := .pointer (some ⟨t, 0, none⟩), born := 0 }, { key := .agg #[.int .u32 1, .int .u32 2], val := .pointer (some ⟨w1.heap.size, 0, none⟩), born := 1 }] 2)) w.heap.size (.cells #[.int .u32 1, .int .u32 2] 31 (0, 0))) := Lib.hid (At.otherMap (w := (w1.alloc (.cells #[.int .u32 1, .int .u32 2, .int .i64 6, .int .i64 1, .int .i64 (-1)] 60)).drew) HI1 him)
  have HTS : Hid (At (setMap (w1.alloc (.cells #[.int .u32 1, .int .u32 2, .int .i64 6, .int .i64 1, .int .i64 (-1)] 60)).drew m (.map #[{ key := .agg #[.int .u32 1, .int .u32 1], val := .pointer (some ⟨t, 0, none⟩), born := 0 }, { key := .agg #[.int .u32 1, .int .u32 2], val := .pointer (some ⟨w1.heap.size, 0, none⟩), born := 1 }] 2)) t (.cells #[.int .u32 1, .int .u32 1, .int .i64 6, .int .i64 2, .int .i64 0] 60 (0, 0))) := Lib.hid (At.otherMap (w := (w1.alloc (.cells #[.int .u32 1, .int .u32 2, .int .i64 6, .int .i64 1, .int .i64 (-1)] 60)).drew) ((HT.out.below HB1.out htl).below hbT.drew (Nat.lt_trans htl n4)) htm0)
  have HMS : Hid (At (setMap (w1.alloc (.cells #[.int .u32 1, .int .u32 2, .int .i64 6, .int .i64 1, .int .i64 (-1)] 60)).drew m (.map #[{ key := .agg #[.int .u32 1, .int .u32 1], val := .pointer (some ⟨t, 0, none⟩), born := 0 }, { key := .agg #[.int .u32 1, .int .u32 2], val := .pointer (some ⟨w1.heap.size, 0, none⟩), born := 1 }] 2)) m (.map #[{ key := .agg #[.int .u32 1, .int .u32 1], val := .pointer (some ⟨t, 0, none⟩), born := 0 }, { key := .agg #[.int .u32 1, .int .u32 2], val := .pointer (some ⟨w1.heap.size, 0, none⟩), born := 1 }] 2)) := Lib.hid (At.putMap (w := (w1.alloc (.cells #[.int .u32 1, .int .u32 2, .int .i64 6, .int .i64 1, .int .i64 (-1)] 60)).drew) HMT.out)
  have HB2 : Hid (∀ B, B ≤ p → B ≤ m → B ≤ w.heap.size → Below B w (setMap (w1.alloc (.cells #[.int .u32 1, .int .u32 2, .int .i64 6, .int .i64 1, .int .i64 (-1)] 60)).drew m (.map #[{ key := .agg #[.int .u32 1, .int .u32 1], val := .pointer (some ⟨t, 0, none⟩), born := 0 }, { key := .agg #[.int .u32 1, .int .u32 2], val := .pointer (some ⟨w1.heap.size, 0, none⟩), born := 1 }] 2))) := Lib.hid fun B h1 h2 h3 => setMap_below (((HB1.out.mono h3).alloc (by omega) _).drew) h2
  have HGS : Hid ((setMap (w1.alloc (.cells #[.int .u32 1, .int .u32 2, .int .i64 6, .int .i64 1, .int .i64 (-1)] 60)).drew m (.map #[{ key := .agg #[.int .u32 1, .int .u32 1], val := .pointer (some ⟨t, 0, none⟩), born := 0 }, { key := .agg #[.int .u32 1, .int .u32 2], val := .pointer (some ⟨w1.heap.size, 0, none⟩), born := 1 }] 2)).heap[g]? = w.heap[g]?) := Lib.hid (by
    have h1 : (w1.alloc (.cells #[.int .u32 1, .int .u32 2, .int .i64 6, .int .i64 1, .int .i64 (-1)] 60)).drew.heap[g]? = w.heap[g]? := (hbT.block g (Nat.lt_trans hgl n4)).trans (HB1.out.block g hgl)
    rw [← h1]
    unfold setMap
    simp only
    rw [Array.getElem?_setIfInBounds_ne (fun e => hgm e.symm)])
  have s2 := HRS.out.cell 2 (.map (some m)) rfl
  have s0 := HIS.out.cell 0 (.int .u32 1) rfl
  have s1 := HIS.out.cell 1 (.int .u32 2) rfl
  have hSS : (setMap (w1.alloc (.cells #[.int .u32 1, .int .u32 2, .int .i64 6, .int .i64 1, .int .i64 (-1)] 60)).drew m (.map #[{ key := .agg #[.int .u32 1, .int .u32 1], val := .pointer (some ⟨t, 0, none⟩), born := 0 }, { key := .agg #[.int .u32 1, .int .u32 2], val := .pointer (some ⟨w1.heap.size, 0, none⟩), born := 1 }] 2)).heap.size = w1.heap.size + 1 := by rw [setMap_size]; simp
  go_region_held3 (fun w' => w'.cell? ⟨p, 2, none⟩ = some (.map (some m)) ∧ w'.cell? ⟨w.heap.size, 0, none⟩ = some (.int .u32 1) ∧ w'.cell? ⟨w.heap.size, 1, none⟩ = some (.int .u32 2)) (first | with_reducible exact ⟨t2, t0, t1⟩ | with_reducible exact ⟨s2, s0, s1⟩ | go_keep) (fail)
  clear t2 t0 t1 s2 s0 s1 hput HRT HMT HI1
  generalize setMap (w1.alloc (.cells #[.int .u32 1, .int .u32 2, .int .i64 6, .int .i64 1, .int .i64 (-1)] 60)).drew m (.map #[{ key := .agg #[.int .u32 1, .int .u32 1], val := .pointer (some ⟨t, 0, none⟩), born := 0 }, { key := .agg #[.int .u32 1, .int .u32 2], val := .pointer (some ⟨w1.heap.size, 0, none⟩), born := 1 }] 2) = w2 at *
  have hp2 : p < w2.heap.size := by omega
  clear c1 c2 f1 i0 i1 HR1 HM1
  have c1 := HRS.out.cell 1 (.int .i64 6) rfl
  have f1 := HRS.out.froz 1
  generalize w1.heap.size = u at *
  go_wp2_with fail
  go_ret
  have hgq : g ≠ p := hgp
  refine ⟨u, rfl, ⟨HRS.out.set 1 (.int .i64 12), HMS.out.other hpm.symm, HTS.out.other htp, ?_, ?_, hcap⟩, by simp; omega, fun B h1 h2 h3 => (HB2.out B h1 h2 h3).setCell (p := ⟨p, 1, none⟩) h1 _⟩
  · rw [World.cell?_setCell_other]
    · exact (cell_same HGS.out 0).trans HG.out
    · simp
  · simp only [World.frozen?_setCell]
    exact (froz_same HGS.out 0).trans HGF.out
end Go.Proofs.Ythmnbjdmbajhkaa
