/-
  The house in memory; New.
-/
import Derived.Test.YtacalpgiopgkkaaDoorMapS
import Derived.BigQuiet
import Derived.Deep.QuietTactic
import Derived.Deep.RegionLaw
import Derived.Deep.RegionWith
import Derived.Deep.RegionHeld3
import Derived.Deep.DeepCutAuto
import Derived.Deep.DeepFit
import Derived.WalkSpells
import Derived.IntWalk
import Derived.StillTailTactics
namespace Go.Proofs.YtacalpgiopgkkaaDoor
set_option linter.unusedVariables false
open Go.RowKit Go.MapKept

def inboxB : ByteArray := ⟨#[73, 78, 66, 79, 88]⟩
/-- the cells of a block -/
def At (w : World) (b : Nat) (l : List Value) (t : TypeId) : Prop := w.heap[b]? = some (.cells l.toArray t (0, 0))
theorem At.cell {w : World} {b : Nat} {l : List Value} {t : TypeId} (h : At w b l t) (j : Nat) (v : Value) (hj : l[j]? = some v) : w.cell? ⟨b, j, none⟩ = some v := by
  rw [cell_of_row w b j _ t (0, 0) h]
  simpa using hj
theorem At.free {w : World} {b : Nat} {l : List Value} {t : TypeId} (h : At w b l t) (j : Nat) : w.frozen? ⟨b, j, none⟩ = false := frozen_of_row w b j _ t h
theorem At.lt {w : World} {b : Nat} {l : List Value} {t : TypeId} (h : At w b l t) : b < w.heap.size := (Array.getElem?_eq_some_iff.1 h).1
theorem At.new (w : World) (l : List Value) (t : TypeId) : At (w.alloc (.cells l.toArray t)) w.heap.size l t := heap_alloc_new w _
theorem At.keep {w w' : World} {b S : Nat} {l : List Value} {t : TypeId} (h : At w b l t) (hb : Below S w w') (hS : b < S) : At w' b l t := (hb.block b hS).trans h
theorem At.below {w w' : World} {b : Nat} {l : List Value} {t : TypeId} (h : At w b l t) (hb : Below w.heap.size w w') : At w' b l t := h.keep hb h.lt

theorem eql_none (w : World) : (binOp .eql 36 (.map none) (.map none)).run Tryd.prog w = .ok (.bool true) w := by kernel_rfl
theorem eql_some (m : Nat) (w : World) : (binOp .eql 36 (.map (some m)) (.map none)).run Tryd.prog w = .ok (.bool false) w := by kernel_rfl
theorem below_setMap {n : Nat} {w w' : World} {m : Nat} {o : Obj} (h : Below n w w') (hm : n ≤ m) : Below n w (setMap w' m o) :=
  h.trans ⟨rfl, rfl, rfl, by simp [setMap], fun k hk => by simp only [setMap]; rw [Array.getElem?_setIfInBounds_ne (by omega)]⟩
theorem setMap_other {w : World} {m b : Nat} {o : Obj} (h : b ≠ m) : (setMap w m o).heap[b]? = w.heap[b]? := by
  unfold setMap
  simp [Ne.symm h]
theorem setMap_same {w : World} {m : Nat} {o o' : Obj} (h : w.heap[m]? = some o') : (setMap w m o).heap[m]? = some o := (heap_set h).1
theorem heap_alloc_new' (w : World) (o : Obj) : (w.alloc o).heap[w.heap.size]? = some o := (Go.MapKept.heap_alloc w o).1
theorem At.set {w : World} {b : Nat} {l : List Value} {t : TypeId} (h : At w b l t) (j : Nat) (v : Value) : At (w.setCell ⟨b, j, none⟩ v) b (l.set j v) t := by
  have := heap_setCell_same w b j _ t v h
  unfold At
  rw [this]
  simp
theorem At.other {w : World} {b g : Nat} {l : List Value} {t : TypeId} (h : At w b l t) (j : Nat) (v : Value) (hg : g ≠ b) : At (w.setCell ⟨g, j, none⟩ v) b l t := by
  unfold At
  rw [heap_setCell_other w ⟨g, j, none⟩ b v (by simpa using Ne.symm hg)]
  exact h
set_option maxRecDepth 100000 in
set_option maxHeartbeats 1000000 in
/-- the first mailbox of a house without any -/
theorem found_nil (w : World) (p : Nat) (s : ByteArray) (hp : At w p [.map none, .int .u32 0] 38) : Calls Tryd.prog 10 #[.pointer (some ⟨p, 0, none⟩), .string s] w fun e w' => ∃ v, e = .returned v ∧ ∃ m b, At w' p [.map (some m), .int .u32 1] 38 ∧ BMap w' m [(s, b, 0)] 1 ∧ At w' b [.int .u32 1, .int .u64 1, .slice none 0 0] 59 ∧ w.heap.size ≤ m ∧ m < b ∧ Below p w w' := by
  have c0 := hp.cell 0 _ rfl
  have hb1 : Below p w (w.alloc (.map #[] 0)) := (Below.refl _ w).alloc (Nat.le_of_lt hp.lt) _
  have hp1 : At (w.alloc (.map #[] 0)) p [.map none, .int .u32 0] 38 := hp.keep ((Below.refl w.heap.size w).alloc (Nat.le_refl _) _) hp.lt
  have hm1 : (w.alloc (.map #[] 0)).heap[w.heap.size]? = some (.map #[] 0) := heap_alloc_new' w _
  have hsz : (w.alloc (.map #[] 0)).heap.size = w.heap.size + 1 := by simp
  have hmk : (Instr.makeMap 36 none).run Tryd.prog w = .ok (.map (some w.heap.size)) (w.alloc (.map #[] 0)) := rfl
  have hlt := hp.lt
  have he := eql_none w
  generalize w.alloc (.map #[] 0) = W1 at *
  obtain ⟨m, hm⟩ : ∃ m, w.heap.size = m := ⟨_, rfl⟩
  rw [hm] at hm1 hsz hmk hlt ⊢
  have c1 := hp1.cell 1 _ rfl
  have f0 := hp1.free 0
  have f1 := hp1.free 1
  have c3 := hp1.cell 0 _ rfl
  have H1 := Lib.hid (And.intro hb1 (And.intro hp1 (And.intro hm1 (And.intro hsz hlt))))
  clear hp hb1 hp1 hm1 hsz hlt hm
  go_enter Tryd.func10, Tryd.ntmps10
  go_upto_region 3 with fail
  have hm3 : BMap ((W1.setCell ⟨p, 0, none⟩ (.map (some m))).setCell ⟨p, 1, none⟩ (.int .u32 1)) m [] 0 := by
    unfold BMap
    rw [heap_setCell_other _ ⟨p, 1, none⟩ m _ (by simp; have := H1.out.2.2.2.2; omega), heap_setCell_other _ ⟨p, 0, none⟩ m _ (by simp; have := H1.out.2.2.2.2; omega)]
    exact H1.out.2.2.1
  have hp3 : At ((W1.setCell ⟨p, 0, none⟩ (.map (some m))).setCell ⟨p, 1, none⟩ (.int .u32 1)) p [.map (some m), .int .u32 1] 38 := (H1.out.2.1.set 0 _).set 1 _
  have hb3 : Below p w ((W1.setCell ⟨p, 0, none⟩ (.map (some m))).setCell ⟨p, 1, none⟩ (.int .u32 1)) := (H1.out.1.setCell (p := ⟨p, 0, none⟩) (Nat.le_refl _) _).setCell (p := ⟨p, 1, none⟩) (Nat.le_refl _) _
  have hs3 : ((W1.setCell ⟨p, 0, none⟩ (.map (some m))).setCell ⟨p, 1, none⟩ (.int .u32 1)).heap.size = m + 1 := by simp [H1.out.2.2.2.1]
  generalize (W1.setCell ⟨p, 0, none⟩ (.map (some m))).setCell ⟨p, 1, none⟩ (.int .u32 1) = W3 at *
  have hm4 : BMap (W3.alloc (.cells #[.int .u32 1, .int .u64 1, .slice none 0 0] 59)).drew m [] 0 := (Below.heap_alloc _ _ _ (show m < W3.heap.size by omega)).trans hm3
  have hp4 : At (W3.alloc (.cells #[.int .u32 1, .int .u64 1, .slice none 0 0] 59)).drew p [.map (some m), .int .u32 1] 38 := (Below.heap_alloc _ _ _ (show p < W3.heap.size from hp3.lt)).trans hp3
  have hq4 : At (W3.alloc (.cells #[.int .u32 1, .int .u64 1, .slice none 0 0] 59)).drew W3.heap.size [.int .u32 1, .int .u64 1, .slice none 0 0] 59 := At.new W3 [.int .u32 1, .int .u64 1, .slice none 0 0] 59
  have hb4 : Below p w (W3.alloc (.cells #[.int .u32 1, .int .u64 1, .slice none 0 0] 59)).drew := Below.drew (hb3.alloc (by show p ≤ W3.heap.size; have := H1.out.2.2.2.2; omega) _)
  have hput := put_b m 0 [] s W3.heap.size _ hm4 rfl
  have HS3 := Lib.hid hs3
  have d0 : W3.drew.cell? ⟨p, 0, none⟩ = some (.map (some m)) := hp3.cell 0 _ rfl
  have d1 : W3.drew.cell? ⟨p, 1, none⟩ = some (.int .u32 1) := hp3.cell 1 _ rfl
  have e0 := hp4.cell 0 _ rfl
  have e1 := hp4.cell 1 _ rfl
  have H4 := Lib.hid (And.intro hm4 (And.intro hp4 (And.intro hq4 (And.intro hb4 H1.out.2.2.2.2))))
  clear hm3 hp3 hb3 hs3 hm4 hp4 hq4 hb4 H1
  go_region_law (fail)
  all_goals
    exact bodyPost_end (v := .tuple #[]) (by simp [results, Tryd.results10, go_sem]) rfl ⟨_, rfl, m, W3.heap.size, (setMap_other (by have := H4.out.2.2.2.2; omega)).trans H4.out.2.1, setMap_same H4.out.1, (setMap_other (by have := HS3.out; omega)).trans H4.out.2.2.1, Nat.le_refl _, by have := HS3.out; omega, below_setMap H4.out.2.2.2.1 (Nat.le_of_lt H4.out.2.2.2.2)⟩
set_option maxRecDepth 100000 in
set_option maxHeartbeats 1000000 in
theorem new_any (w : World) : Calls Tryd.prog 4 #[] w fun e w' => ∃ p m b, e = .returned (.pointer (some ⟨p, 0, none⟩)) ∧ At w' p [.map (some m), .int .u32 1] 38 ∧ BMap w' m [(inboxB, b, 0)] 1 ∧ At w' b [.int .u32 1, .int .u64 1, .slice none 0 0] 59 ∧ w.heap.size ≤ p ∧ p < m ∧ m < b ∧ Below w.heap.size w w' := by
  have hf := found_nil (w.alloc (.cells #[.map none, .int .u32 0] 38)) w.heap.size inboxB (At.new w [.map none, .int .u32 0] 38)
  have hsz : (w.alloc (.cells #[.map none, .int .u32 0] 38)).heap.size = w.heap.size + 1 := by simp
  have HF := Lib.hid hf
  have HS := Lib.hid hsz
  clear hf hsz
  go_enter Tryd.func4, Tryd.ntmps4
  go_wp2_with (go_at_call 10; refine HF.out.mono ?_; rintro e w1 ⟨v, rfl, m, b, h1, h2, h3, h4, h5, hb⟩; have HB := Lib.hid hb; clear hb)
  go_ret
  have := HS.out
  exact ⟨_, m, b, rfl, h1, h2, h3, Nat.le_refl _, by omega, h5, ((Below.refl _ w).alloc (Nat.le_refl _) _).trans HB.out⟩
end Go.Proofs.YtacalpgiopgkkaaDoor
