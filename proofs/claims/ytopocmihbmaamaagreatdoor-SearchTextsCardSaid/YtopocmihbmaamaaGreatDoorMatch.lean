/-
  Match of a key of no others: what is asked of a message.
-/
import Derived.Test.YtopocmihbmaamaaGreatDoorRight
import Derived.Deep.RegionHeld3
namespace Go.Proofs.YtopocmihbmaamaaGreatDoor
set_option linter.unusedVariables false
open Go.RowKit

def asksC : Array Value := #[.nilFunc, .func (.func 12) #[] #[], .func (.func 13) #[] #[], .func (.func 14) #[] #[], .func (.func 15) #[] #[], .func (.func 16) #[] #[], .func (.func 17) #[] #[], .func (.func 18) #[] #[], .func (.func 19) #[] #[], .func (.func 20) #[] #[], .func (.func 21) #[] #[], .func (.func 22) #[] #[], .func (.func 23) #[] #[], .func (.func 24) #[] #[], .func (.func 25) #[] #[], .func (.func 26) #[] #[], .func (.func 27) #[] #[]]



/-- a message: its size, its bytes, whether they are here -/
def shownC (z : Int) (v : Value) (h : Bool) : Array Value := #[.int .u32 0, .int .u32 0, .int .u32 0, .int .u32 0, .slice none 0 0, .int .i64 z, v, .bool h]
/-- the asking function of a kind answers r -/
def AskOk (f : Nat) (k : Int) (s : ByteArray) (n z : Int) (v : Value) (h r : Bool) (w0 : World) : Prop := ∀ W, Below w0.heap.size w0 W → Calls Tryz.prog f #[.agg (shownC z v h), .agg (keyC k s n)] W fun e w' => e = .returned (.bool r) ∧ Below W.heap.size W w'

theorem three_rows (w : World) (A B C : Array Value) {s t u : TypeId} : ∃ W, W = (((w.alloc (.cells A s)).alloc (.cells B t)).alloc (.cells C u)) ∧
    W.heap[w.heap.size]? = some (.cells A s (0, 0)) ∧ W.heap[w.heap.size + 1]? = some (.cells B t (0, 0)) ∧ W.heap[w.heap.size + 1 + 1]? = some (.cells C u (0, 0)) ∧ Below w.heap.size w W := by
  have h1 := heap_alloc_new w (.cells A s)
  have h2 := heap_alloc_new (w.alloc (.cells A s)) (.cells B t)
  have h3 := heap_alloc_new ((w.alloc (.cells A s)).alloc (.cells B t)) (.cells C u)
  have b0 := (Below.refl w.heap.size w).alloc (Nat.le_refl _) (.cells A s)
  have b1 := (Below.refl (w.alloc (.cells A s)).heap.size (w.alloc (.cells A s))).alloc (Nat.le_refl _) (.cells B t)
  have b2 := (Below.refl ((w.alloc (.cells A s)).alloc (.cells B t)).heap.size ((w.alloc (.cells A s)).alloc (.cells B t))).alloc (Nat.le_refl _) (.cells C u)
  rw [World.size_alloc] at h2
  rw [World.size_alloc, World.size_alloc] at h3
  exact ⟨_, rfl, (b2.block w.heap.size (by simp; omega)).trans ((b1.block w.heap.size (by simp)).trans h1), (b2.block (w.heap.size + 1) (by simp)).trans h2, h3, (b0.alloc b0.size _).alloc (by simp; omega) _⟩
set_option maxRecDepth 100000 in
set_option maxHeartbeats 4000000 in
theorem match_all (z : Int) (a : Option Addr) (l c : Nat) (h r : Bool) (w : World) (HA : AskOk 12 1 ⟨#[]⟩ 0 z (.slice a l c) h r w) :
    Calls Tryz.prog 9 #[.agg (shownC z (.slice a l c) h), .agg (keyC 1 ⟨#[]⟩ 0)] w fun e w' => e = .returned (.bool r) ∧ Below w.heap.size w w' := by
  have HAW := Lib.hid HA
  clear HA
  unfold shownC keyC
  go_enter Tryz.func9, Tryz.ntmps9
  go_wp2_with fail
  obtain ⟨W, hW, hL, hK, hF, hb⟩ : ∃ W, W = (((w.alloc (.cells (shownC z (.slice a l c) h) 37)).alloc (.cells (keyC 1 ⟨#[]⟩ 0) 33)).alloc (.cells asksC 42)) ∧
      W.heap[w.heap.size]? = some (.cells (shownC z (.slice a l c) h) 37 (0, 0)) ∧ W.heap[w.heap.size + 1]? = some (.cells (keyC 1 ⟨#[]⟩ 0) 33 (0, 0)) ∧ W.heap[w.heap.size + 1 + 1]? = some (.cells asksC 42 (0, 0)) ∧ Below w.heap.size w W := three_rows w _ _ _
  unfold shownC keyC asksC at hW
  rw [← hW]
  clear hW
  have fl := fun j => cell_of_row W w.heap.size j _ _ _ hL
  have fk := fun j => cell_of_row W (w.heap.size + 1) j _ _ _ hK
  have hkp : ∀ W2, Below W.heap.size W W2 → (fun w' : World => w'.cell? ⟨w.heap.size + 1, 0, none⟩ = some (.int .i64 1) ∧ w'.cell? ⟨w.heap.size + 1 + 1, 1, none⟩ = some (.func (.func 12) #[] #[]) ∧ w'.cell? ⟨w.heap.size, 0, none⟩ = some (.int .u32 0) ∧ w'.cell? ⟨w.heap.size, 1, none⟩ = some (.int .u32 0) ∧ w'.cell? ⟨w.heap.size, 2, none⟩ = some (.int .u32 0) ∧ w'.cell? ⟨w.heap.size, 3, none⟩ = some (.int .u32 0) ∧ w'.cell? ⟨w.heap.size, 4, none⟩ = some (.slice none 0 0) ∧ w'.cell? ⟨w.heap.size, 5, none⟩ = some (.int .i64 z) ∧ w'.cell? ⟨w.heap.size, 6, none⟩ = some (.slice a l c) ∧ w'.cell? ⟨w.heap.size, 7, none⟩ = some (.bool h) ∧ w'.cell? ⟨w.heap.size + 1, 1, none⟩ = some (.string ⟨#[]⟩) ∧ w'.cell? ⟨w.heap.size + 1, 2, none⟩ = some (.string ⟨#[]⟩) ∧ w'.cell? ⟨w.heap.size + 1, 3, none⟩ = some (.int .i64 0) ∧ w'.cell? ⟨w.heap.size + 1, 4, none⟩ = some (.slice none 0 0) ∧ w'.cell? ⟨w.heap.size + 1, 5, none⟩ = some (.slice none 0 0)) W2 := fun W2 h2 => by
    have gL := (h2.block _ (Array.getElem?_eq_some_iff.1 hL).1).trans hL
    have gK := (h2.block _ (Array.getElem?_eq_some_iff.1 hK).1).trans hK
    have gF := (h2.block _ (Array.getElem?_eq_some_iff.1 hF).1).trans hF
    have fl := fun j => cell_of_row W2 w.heap.size j _ _ _ gL
    have fk := fun j => cell_of_row W2 (w.heap.size + 1) j _ _ _ gK
    exact ⟨fk 0, cell_of_row W2 (w.heap.size + 1 + 1) 1 _ _ _ gF, fl 0, fl 1, fl 2, fl 3, fl 4, fl 5, fl 6, fl 7, fk 1, fk 2, fk 3, fk 4, fk 5⟩
  have HKP := Lib.hid hkp
  clear hkp
  have hS : (fun w' : World => w'.cell? ⟨w.heap.size + 1, 0, none⟩ = some (.int .i64 1) ∧ w'.cell? ⟨w.heap.size + 1 + 1, 1, none⟩ = some (.func (.func 12) #[] #[]) ∧ w'.cell? ⟨w.heap.size, 0, none⟩ = some (.int .u32 0) ∧ w'.cell? ⟨w.heap.size, 1, none⟩ = some (.int .u32 0) ∧ w'.cell? ⟨w.heap.size, 2, none⟩ = some (.int .u32 0) ∧ w'.cell? ⟨w.heap.size, 3, none⟩ = some (.int .u32 0) ∧ w'.cell? ⟨w.heap.size, 4, none⟩ = some (.slice none 0 0) ∧ w'.cell? ⟨w.heap.size, 5, none⟩ = some (.int .i64 z) ∧ w'.cell? ⟨w.heap.size, 6, none⟩ = some (.slice a l c) ∧ w'.cell? ⟨w.heap.size, 7, none⟩ = some (.bool h) ∧ w'.cell? ⟨w.heap.size + 1, 1, none⟩ = some (.string ⟨#[]⟩) ∧ w'.cell? ⟨w.heap.size + 1, 2, none⟩ = some (.string ⟨#[]⟩) ∧ w'.cell? ⟨w.heap.size + 1, 3, none⟩ = some (.int .i64 0) ∧ w'.cell? ⟨w.heap.size + 1, 4, none⟩ = some (.slice none 0 0) ∧ w'.cell? ⟨w.heap.size + 1, 5, none⟩ = some (.slice none 0 0)) W := ⟨fk 0, cell_of_row W (w.heap.size + 1 + 1) 1 _ _ _ hF, fl 0, fl 1, fl 2, fl 3, fl 4, fl 5, fl 6, fl 7, fk 1, fk 2, fk 3, fk 4, fk 5⟩
  have HC := Lib.hid (HAW.out W.drew hb.drew)
  have HB := Lib.hid hb
  clear fl fk hL hK hF hb HAW
  obtain ⟨x0, x1, x2, x3, x4, x5, x6, x7, x8, x9, y1, y2, y3, y4, y5⟩ := hS
  go_region_held3 (fun w' => w'.cell? ⟨w.heap.size + 1, 0, none⟩ = some (.int .i64 1) ∧ w'.cell? ⟨w.heap.size + 1 + 1, 1, none⟩ = some (.func (.func 12) #[] #[]) ∧ w'.cell? ⟨w.heap.size, 0, none⟩ = some (.int .u32 0) ∧ w'.cell? ⟨w.heap.size, 1, none⟩ = some (.int .u32 0) ∧ w'.cell? ⟨w.heap.size, 2, none⟩ = some (.int .u32 0) ∧ w'.cell? ⟨w.heap.size, 3, none⟩ = some (.int .u32 0) ∧ w'.cell? ⟨w.heap.size, 4, none⟩ = some (.slice none 0 0) ∧ w'.cell? ⟨w.heap.size, 5, none⟩ = some (.int .i64 z) ∧ w'.cell? ⟨w.heap.size, 6, none⟩ = some (.slice a l c) ∧ w'.cell? ⟨w.heap.size, 7, none⟩ = some (.bool h) ∧ w'.cell? ⟨w.heap.size + 1, 1, none⟩ = some (.string ⟨#[]⟩) ∧ w'.cell? ⟨w.heap.size + 1, 2, none⟩ = some (.string ⟨#[]⟩) ∧ w'.cell? ⟨w.heap.size + 1, 3, none⟩ = some (.int .i64 0) ∧ w'.cell? ⟨w.heap.size + 1, 4, none⟩ = some (.slice none 0 0) ∧ w'.cell? ⟨w.heap.size + 1, 5, none⟩ = some (.slice none 0 0))
    (first | with_reducible exact kb | with_reducible exact ⟨x0, x1, x2, x3, x4, x5, x6, x7, x8, x9, y1, y2, y3, y4, y5⟩ | go_keep)
    ((go_at_call 12; refine HC.out.mono ?_; rintro e w2 ⟨rfl, hb2⟩; have HB2 : Hid (Below w.heap.size w w2) := Lib.hid (HB.out.drew.trans (hb2.mono HB.out.size)); have kb := HKP.out _ ((Below.refl _ _).drew.trans hb2); clear hb2))
  all_goals
    go_wp2_with fail
    go_ret
    exact ⟨rfl, HB2.out⟩
set_option maxRecDepth 100000 in
set_option maxHeartbeats 4000000 in
theorem match_text (s : ByteArray) (z : Int) (a : Option Addr) (l c : Nat) (h r : Bool) (w : World) (HA : AskOk 21 10 s 0 z (.slice a l c) h r w) :
    Calls Tryz.prog 9 #[.agg (shownC z (.slice a l c) h), .agg (keyC 10 s 0)] w fun e w' => e = .returned (.bool r) ∧ Below w.heap.size w w' := by
  have HAW := Lib.hid HA
  clear HA
  unfold shownC keyC
  go_enter Tryz.func9, Tryz.ntmps9
  go_wp2_with fail
  obtain ⟨W, hW, hL, hK, hF, hb⟩ : ∃ W, W = (((w.alloc (.cells (shownC z (.slice a l c) h) 37)).alloc (.cells (keyC 10 s 0) 33)).alloc (.cells asksC 42)) ∧
      W.heap[w.heap.size]? = some (.cells (shownC z (.slice a l c) h) 37 (0, 0)) ∧ W.heap[w.heap.size + 1]? = some (.cells (keyC 10 s 0) 33 (0, 0)) ∧ W.heap[w.heap.size + 1 + 1]? = some (.cells asksC 42 (0, 0)) ∧ Below w.heap.size w W := three_rows w _ _ _
  unfold shownC keyC asksC at hW
  rw [← hW]
  clear hW
  have fl := fun j => cell_of_row W w.heap.size j _ _ _ hL
  have fk := fun j => cell_of_row W (w.heap.size + 1) j _ _ _ hK
  have hkp : ∀ W2, Below W.heap.size W W2 → (fun w' : World => w'.cell? ⟨w.heap.size + 1, 0, none⟩ = some (.int .i64 10) ∧ w'.cell? ⟨w.heap.size + 1 + 1, 10, none⟩ = some (.func (.func 21) #[] #[]) ∧ w'.cell? ⟨w.heap.size, 0, none⟩ = some (.int .u32 0) ∧ w'.cell? ⟨w.heap.size, 1, none⟩ = some (.int .u32 0) ∧ w'.cell? ⟨w.heap.size, 2, none⟩ = some (.int .u32 0) ∧ w'.cell? ⟨w.heap.size, 3, none⟩ = some (.int .u32 0) ∧ w'.cell? ⟨w.heap.size, 4, none⟩ = some (.slice none 0 0) ∧ w'.cell? ⟨w.heap.size, 5, none⟩ = some (.int .i64 z) ∧ w'.cell? ⟨w.heap.size, 6, none⟩ = some (.slice a l c) ∧ w'.cell? ⟨w.heap.size, 7, none⟩ = some (.bool h) ∧ w'.cell? ⟨w.heap.size + 1, 1, none⟩ = some (.string s) ∧ w'.cell? ⟨w.heap.size + 1, 2, none⟩ = some (.string ⟨#[]⟩) ∧ w'.cell? ⟨w.heap.size + 1, 3, none⟩ = some (.int .i64 0) ∧ w'.cell? ⟨w.heap.size + 1, 4, none⟩ = some (.slice none 0 0) ∧ w'.cell? ⟨w.heap.size + 1, 5, none⟩ = some (.slice none 0 0)) W2 := fun W2 h2 => by
    have gL := (h2.block _ (Array.getElem?_eq_some_iff.1 hL).1).trans hL
    have gK := (h2.block _ (Array.getElem?_eq_some_iff.1 hK).1).trans hK
    have gF := (h2.block _ (Array.getElem?_eq_some_iff.1 hF).1).trans hF
    have fl := fun j => cell_of_row W2 w.heap.size j _ _ _ gL
    have fk := fun j => cell_of_row W2 (w.heap.size + 1) j _ _ _ gK
    exact ⟨fk 0, cell_of_row W2 (w.heap.size + 1 + 1) 10 _ _ _ gF, fl 0, fl 1, fl 2, fl 3, fl 4, fl 5, fl 6, fl 7, fk 1, fk 2, fk 3, fk 4, fk 5⟩
  have HKP := Lib.hid hkp
  clear hkp
  have hS : (fun w' : World => w'.cell? ⟨w.heap.size + 1, 0, none⟩ = some (.int .i64 10) ∧ w'.cell? ⟨w.heap.size + 1 + 1, 10, none⟩ = some (.func (.func 21) #[] #[]) ∧ w'.cell? ⟨w.heap.size, 0, none⟩ = some (.int .u32 0) ∧ w'.cell? ⟨w.heap.size, 1, none⟩ = some (.int .u32 0) ∧ w'.cell? ⟨w.heap.size, 2, none⟩ = some (.int .u32 0) ∧ w'.cell? ⟨w.heap.size, 3, none⟩ = some (.int .u32 0) ∧ w'.cell? ⟨w.heap.size, 4, none⟩ = some (.slice none 0 0) ∧ w'.cell? ⟨w.heap.size, 5, none⟩ = some (.int .i64 z) ∧ w'.cell? ⟨w.heap.size, 6, none⟩ = some (.slice a l c) ∧ w'.cell? ⟨w.heap.size, 7, none⟩ = some (.bool h) ∧ w'.cell? ⟨w.heap.size + 1, 1, none⟩ = some (.string s) ∧ w'.cell? ⟨w.heap.size + 1, 2, none⟩ = some (.string ⟨#[]⟩) ∧ w'.cell? ⟨w.heap.size + 1, 3, none⟩ = some (.int .i64 0) ∧ w'.cell? ⟨w.heap.size + 1, 4, none⟩ = some (.slice none 0 0) ∧ w'.cell? ⟨w.heap.size + 1, 5, none⟩ = some (.slice none 0 0)) W := ⟨fk 0, cell_of_row W (w.heap.size + 1 + 1) 10 _ _ _ hF, fl 0, fl 1, fl 2, fl 3, fl 4, fl 5, fl 6, fl 7, fk 1, fk 2, fk 3, fk 4, fk 5⟩
  have HC := Lib.hid (HAW.out W.drew hb.drew)
  have HB := Lib.hid hb
  clear fl fk hL hK hF hb HAW
  obtain ⟨x0, x1, x2, x3, x4, x5, x6, x7, x8, x9, y1, y2, y3, y4, y5⟩ := hS
  go_region_held3 (fun w' => w'.cell? ⟨w.heap.size + 1, 0, none⟩ = some (.int .i64 10) ∧ w'.cell? ⟨w.heap.size + 1 + 1, 10, none⟩ = some (.func (.func 21) #[] #[]) ∧ w'.cell? ⟨w.heap.size, 0, none⟩ = some (.int .u32 0) ∧ w'.cell? ⟨w.heap.size, 1, none⟩ = some (.int .u32 0) ∧ w'.cell? ⟨w.heap.size, 2, none⟩ = some (.int .u32 0) ∧ w'.cell? ⟨w.heap.size, 3, none⟩ = some (.int .u32 0) ∧ w'.cell? ⟨w.heap.size, 4, none⟩ = some (.slice none 0 0) ∧ w'.cell? ⟨w.heap.size, 5, none⟩ = some (.int .i64 z) ∧ w'.cell? ⟨w.heap.size, 6, none⟩ = some (.slice a l c) ∧ w'.cell? ⟨w.heap.size, 7, none⟩ = some (.bool h) ∧ w'.cell? ⟨w.heap.size + 1, 1, none⟩ = some (.string s) ∧ w'.cell? ⟨w.heap.size + 1, 2, none⟩ = some (.string ⟨#[]⟩) ∧ w'.cell? ⟨w.heap.size + 1, 3, none⟩ = some (.int .i64 0) ∧ w'.cell? ⟨w.heap.size + 1, 4, none⟩ = some (.slice none 0 0) ∧ w'.cell? ⟨w.heap.size + 1, 5, none⟩ = some (.slice none 0 0))
    (first | with_reducible exact kb | with_reducible exact ⟨x0, x1, x2, x3, x4, x5, x6, x7, x8, x9, y1, y2, y3, y4, y5⟩ | go_keep)
    ((go_at_call 21; refine HC.out.mono ?_; rintro e w2 ⟨rfl, hb2⟩; have HB2 : Hid (Below w.heap.size w w2) := Lib.hid (HB.out.drew.trans (hb2.mono HB.out.size)); have kb := HKP.out _ ((Below.refl _ _).drew.trans hb2); clear hb2))
  all_goals
    go_wp2_with fail
    go_ret
    exact ⟨rfl, HB2.out⟩
set_option maxRecDepth 100000 in
set_option maxHeartbeats 4000000 in
theorem match_larger (n : Int) (z : Int) (a : Option Addr) (l c : Nat) (h r : Bool) (w : World) (HA : AskOk 23 12 ⟨#[]⟩ n z (.slice a l c) h r w) :
    Calls Tryz.prog 9 #[.agg (shownC z (.slice a l c) h), .agg (keyC 12 ⟨#[]⟩ n)] w fun e w' => e = .returned (.bool r) ∧ Below w.heap.size w w' := by
  have HAW := Lib.hid HA
  clear HA
  unfold shownC keyC
  go_enter Tryz.func9, Tryz.ntmps9
  go_wp2_with fail
  obtain ⟨W, hW, hL, hK, hF, hb⟩ : ∃ W, W = (((w.alloc (.cells (shownC z (.slice a l c) h) 37)).alloc (.cells (keyC 12 ⟨#[]⟩ n) 33)).alloc (.cells asksC 42)) ∧
      W.heap[w.heap.size]? = some (.cells (shownC z (.slice a l c) h) 37 (0, 0)) ∧ W.heap[w.heap.size + 1]? = some (.cells (keyC 12 ⟨#[]⟩ n) 33 (0, 0)) ∧ W.heap[w.heap.size + 1 + 1]? = some (.cells asksC 42 (0, 0)) ∧ Below w.heap.size w W := three_rows w _ _ _
  unfold shownC keyC asksC at hW
  rw [← hW]
  clear hW
  have fl := fun j => cell_of_row W w.heap.size j _ _ _ hL
  have fk := fun j => cell_of_row W (w.heap.size + 1) j _ _ _ hK
  have hkp : ∀ W2, Below W.heap.size W W2 → (fun w' : World => w'.cell? ⟨w.heap.size + 1, 0, none⟩ = some (.int .i64 12) ∧ w'.cell? ⟨w.heap.size + 1 + 1, 12, none⟩ = some (.func (.func 23) #[] #[]) ∧ w'.cell? ⟨w.heap.size, 0, none⟩ = some (.int .u32 0) ∧ w'.cell? ⟨w.heap.size, 1, none⟩ = some (.int .u32 0) ∧ w'.cell? ⟨w.heap.size, 2, none⟩ = some (.int .u32 0) ∧ w'.cell? ⟨w.heap.size, 3, none⟩ = some (.int .u32 0) ∧ w'.cell? ⟨w.heap.size, 4, none⟩ = some (.slice none 0 0) ∧ w'.cell? ⟨w.heap.size, 5, none⟩ = some (.int .i64 z) ∧ w'.cell? ⟨w.heap.size, 6, none⟩ = some (.slice a l c) ∧ w'.cell? ⟨w.heap.size, 7, none⟩ = some (.bool h) ∧ w'.cell? ⟨w.heap.size + 1, 1, none⟩ = some (.string ⟨#[]⟩) ∧ w'.cell? ⟨w.heap.size + 1, 2, none⟩ = some (.string ⟨#[]⟩) ∧ w'.cell? ⟨w.heap.size + 1, 3, none⟩ = some (.int .i64 n) ∧ w'.cell? ⟨w.heap.size + 1, 4, none⟩ = some (.slice none 0 0) ∧ w'.cell? ⟨w.heap.size + 1, 5, none⟩ = some (.slice none 0 0)) W2 := fun W2 h2 => by
    have gL := (h2.block _ (Array.getElem?_eq_some_iff.1 hL).1).trans hL
    have gK := (h2.block _ (Array.getElem?_eq_some_iff.1 hK).1).trans hK
    have gF := (h2.block _ (Array.getElem?_eq_some_iff.1 hF).1).trans hF
    have fl := fun j => cell_of_row W2 w.heap.size j _ _ _ gL
    have fk := fun j => cell_of_row W2 (w.heap.size + 1) j _ _ _ gK
    exact ⟨fk 0, cell_of_row W2 (w.heap.size + 1 + 1) 12 _ _ _ gF, fl 0, fl 1, fl 2, fl 3, fl 4, fl 5, fl 6, fl 7, fk 1, fk 2, fk 3, fk 4, fk 5⟩
  have HKP := Lib.hid hkp
  clear hkp
  have hS : (fun w' : World => w'.cell? ⟨w.heap.size + 1, 0, none⟩ = some (.int .i64 12) ∧ w'.cell? ⟨w.heap.size + 1 + 1, 12, none⟩ = some (.func (.func 23) #[] #[]) ∧ w'.cell? ⟨w.heap.size, 0, none⟩ = some (.int .u32 0) ∧ w'.cell? ⟨w.heap.size, 1, none⟩ = some (.int .u32 0) ∧ w'.cell? ⟨w.heap.size, 2, none⟩ = some (.int .u32 0) ∧ w'.cell? ⟨w.heap.size, 3, none⟩ = some (.int .u32 0) ∧ w'.cell? ⟨w.heap.size, 4, none⟩ = some (.slice none 0 0) ∧ w'.cell? ⟨w.heap.size, 5, none⟩ = some (.int .i64 z) ∧ w'.cell? ⟨w.heap.size, 6, none⟩ = some (.slice a l c) ∧ w'.cell? ⟨w.heap.size, 7, none⟩ = some (.bool h) ∧ w'.cell? ⟨w.heap.size + 1, 1, none⟩ = some (.string ⟨#[]⟩) ∧ w'.cell? ⟨w.heap.size + 1, 2, none⟩ = some (.string ⟨#[]⟩) ∧ w'.cell? ⟨w.heap.size + 1, 3, none⟩ = some (.int .i64 n) ∧ w'.cell? ⟨w.heap.size + 1, 4, none⟩ = some (.slice none 0 0) ∧ w'.cell? ⟨w.heap.size + 1, 5, none⟩ = some (.slice none 0 0)) W := ⟨fk 0, cell_of_row W (w.heap.size + 1 + 1) 12 _ _ _ hF, fl 0, fl 1, fl 2, fl 3, fl 4, fl 5, fl 6, fl 7, fk 1, fk 2, fk 3, fk 4, fk 5⟩
  have HC := Lib.hid (HAW.out W.drew hb.drew)
  have HB := Lib.hid hb
  clear fl fk hL hK hF hb HAW
  obtain ⟨x0, x1, x2, x3, x4, x5, x6, x7, x8, x9, y1, y2, y3, y4, y5⟩ := hS
  go_region_held3 (fun w' => w'.cell? ⟨w.heap.size + 1, 0, none⟩ = some (.int .i64 12) ∧ w'.cell? ⟨w.heap.size + 1 + 1, 12, none⟩ = some (.func (.func 23) #[] #[]) ∧ w'.cell? ⟨w.heap.size, 0, none⟩ = some (.int .u32 0) ∧ w'.cell? ⟨w.heap.size, 1, none⟩ = some (.int .u32 0) ∧ w'.cell? ⟨w.heap.size, 2, none⟩ = some (.int .u32 0) ∧ w'.cell? ⟨w.heap.size, 3, none⟩ = some (.int .u32 0) ∧ w'.cell? ⟨w.heap.size, 4, none⟩ = some (.slice none 0 0) ∧ w'.cell? ⟨w.heap.size, 5, none⟩ = some (.int .i64 z) ∧ w'.cell? ⟨w.heap.size, 6, none⟩ = some (.slice a l c) ∧ w'.cell? ⟨w.heap.size, 7, none⟩ = some (.bool h) ∧ w'.cell? ⟨w.heap.size + 1, 1, none⟩ = some (.string ⟨#[]⟩) ∧ w'.cell? ⟨w.heap.size + 1, 2, none⟩ = some (.string ⟨#[]⟩) ∧ w'.cell? ⟨w.heap.size + 1, 3, none⟩ = some (.int .i64 n) ∧ w'.cell? ⟨w.heap.size + 1, 4, none⟩ = some (.slice none 0 0) ∧ w'.cell? ⟨w.heap.size + 1, 5, none⟩ = some (.slice none 0 0))
    (first | with_reducible exact kb | with_reducible exact ⟨x0, x1, x2, x3, x4, x5, x6, x7, x8, x9, y1, y2, y3, y4, y5⟩ | go_keep)
    ((go_at_call 23; refine HC.out.mono ?_; rintro e w2 ⟨rfl, hb2⟩; have HB2 : Hid (Below w.heap.size w w2) := Lib.hid (HB.out.drew.trans (hb2.mono HB.out.size)); have kb := HKP.out _ ((Below.refl _ _).drew.trans hb2); clear hb2))
  all_goals
    go_wp2_with fail
    go_ret
    exact ⟨rfl, HB2.out⟩
set_option maxRecDepth 100000 in
set_option maxHeartbeats 4000000 in
theorem match_smaller (n : Int) (z : Int) (a : Option Addr) (l c : Nat) (h r : Bool) (w : World) (HA : AskOk 24 13 ⟨#[]⟩ n z (.slice a l c) h r w) :
    Calls Tryz.prog 9 #[.agg (shownC z (.slice a l c) h), .agg (keyC 13 ⟨#[]⟩ n)] w fun e w' => e = .returned (.bool r) ∧ Below w.heap.size w w' := by
  have HAW := Lib.hid HA
  clear HA
  unfold shownC keyC
  go_enter Tryz.func9, Tryz.ntmps9
  go_wp2_with fail
  obtain ⟨W, hW, hL, hK, hF, hb⟩ : ∃ W, W = (((w.alloc (.cells (shownC z (.slice a l c) h) 37)).alloc (.cells (keyC 13 ⟨#[]⟩ n) 33)).alloc (.cells asksC 42)) ∧
      W.heap[w.heap.size]? = some (.cells (shownC z (.slice a l c) h) 37 (0, 0)) ∧ W.heap[w.heap.size + 1]? = some (.cells (keyC 13 ⟨#[]⟩ n) 33 (0, 0)) ∧ W.heap[w.heap.size + 1 + 1]? = some (.cells asksC 42 (0, 0)) ∧ Below w.heap.size w W := three_rows w _ _ _
  unfold shownC keyC asksC at hW
  rw [← hW]
  clear hW
  have fl := fun j => cell_of_row W w.heap.size j _ _ _ hL
  have fk := fun j => cell_of_row W (w.heap.size + 1) j _ _ _ hK
  have hkp : ∀ W2, Below W.heap.size W W2 → (fun w' : World => w'.cell? ⟨w.heap.size + 1, 0, none⟩ = some (.int .i64 13) ∧ w'.cell? ⟨w.heap.size + 1 + 1, 13, none⟩ = some (.func (.func 24) #[] #[]) ∧ w'.cell? ⟨w.heap.size, 0, none⟩ = some (.int .u32 0) ∧ w'.cell? ⟨w.heap.size, 1, none⟩ = some (.int .u32 0) ∧ w'.cell? ⟨w.heap.size, 2, none⟩ = some (.int .u32 0) ∧ w'.cell? ⟨w.heap.size, 3, none⟩ = some (.int .u32 0) ∧ w'.cell? ⟨w.heap.size, 4, none⟩ = some (.slice none 0 0) ∧ w'.cell? ⟨w.heap.size, 5, none⟩ = some (.int .i64 z) ∧ w'.cell? ⟨w.heap.size, 6, none⟩ = some (.slice a l c) ∧ w'.cell? ⟨w.heap.size, 7, none⟩ = some (.bool h) ∧ w'.cell? ⟨w.heap.size + 1, 1, none⟩ = some (.string ⟨#[]⟩) ∧ w'.cell? ⟨w.heap.size + 1, 2, none⟩ = some (.string ⟨#[]⟩) ∧ w'.cell? ⟨w.heap.size + 1, 3, none⟩ = some (.int .i64 n) ∧ w'.cell? ⟨w.heap.size + 1, 4, none⟩ = some (.slice none 0 0) ∧ w'.cell? ⟨w.heap.size + 1, 5, none⟩ = some (.slice none 0 0)) W2 := fun W2 h2 => by
    have gL := (h2.block _ (Array.getElem?_eq_some_iff.1 hL).1).trans hL
    have gK := (h2.block _ (Array.getElem?_eq_some_iff.1 hK).1).trans hK
    have gF := (h2.block _ (Array.getElem?_eq_some_iff.1 hF).1).trans hF
    have fl := fun j => cell_of_row W2 w.heap.size j _ _ _ gL
    have fk := fun j => cell_of_row W2 (w.heap.size + 1) j _ _ _ gK
    exact ⟨fk 0, cell_of_row W2 (w.heap.size + 1 + 1) 13 _ _ _ gF, fl 0, fl 1, fl 2, fl 3, fl 4, fl 5, fl 6, fl 7, fk 1, fk 2, fk 3, fk 4, fk 5⟩
  have HKP := Lib.hid hkp
  clear hkp
  have hS : (fun w' : World => w'.cell? ⟨w.heap.size + 1, 0, none⟩ = some (.int .i64 13) ∧ w'.cell? ⟨w.heap.size + 1 + 1, 13, none⟩ = some (.func (.func 24) #[] #[]) ∧ w'.cell? ⟨w.heap.size, 0, none⟩ = some (.int .u32 0) ∧ w'.cell? ⟨w.heap.size, 1, none⟩ = some (.int .u32 0) ∧ w'.cell? ⟨w.heap.size, 2, none⟩ = some (.int .u32 0) ∧ w'.cell? ⟨w.heap.size, 3, none⟩ = some (.int .u32 0) ∧ w'.cell? ⟨w.heap.size, 4, none⟩ = some (.slice none 0 0) ∧ w'.cell? ⟨w.heap.size, 5, none⟩ = some (.int .i64 z) ∧ w'.cell? ⟨w.heap.size, 6, none⟩ = some (.slice a l c) ∧ w'.cell? ⟨w.heap.size, 7, none⟩ = some (.bool h) ∧ w'.cell? ⟨w.heap.size + 1, 1, none⟩ = some (.string ⟨#[]⟩) ∧ w'.cell? ⟨w.heap.size + 1, 2, none⟩ = some (.string ⟨#[]⟩) ∧ w'.cell? ⟨w.heap.size + 1, 3, none⟩ = some (.int .i64 n) ∧ w'.cell? ⟨w.heap.size + 1, 4, none⟩ = some (.slice none 0 0) ∧ w'.cell? ⟨w.heap.size + 1, 5, none⟩ = some (.slice none 0 0)) W := ⟨fk 0, cell_of_row W (w.heap.size + 1 + 1) 13 _ _ _ hF, fl 0, fl 1, fl 2, fl 3, fl 4, fl 5, fl 6, fl 7, fk 1, fk 2, fk 3, fk 4, fk 5⟩
  have HC := Lib.hid (HAW.out W.drew hb.drew)
  have HB := Lib.hid hb
  clear fl fk hL hK hF hb HAW
  obtain ⟨x0, x1, x2, x3, x4, x5, x6, x7, x8, x9, y1, y2, y3, y4, y5⟩ := hS
  go_region_held3 (fun w' => w'.cell? ⟨w.heap.size + 1, 0, none⟩ = some (.int .i64 13) ∧ w'.cell? ⟨w.heap.size + 1 + 1, 13, none⟩ = some (.func (.func 24) #[] #[]) ∧ w'.cell? ⟨w.heap.size, 0, none⟩ = some (.int .u32 0) ∧ w'.cell? ⟨w.heap.size, 1, none⟩ = some (.int .u32 0) ∧ w'.cell? ⟨w.heap.size, 2, none⟩ = some (.int .u32 0) ∧ w'.cell? ⟨w.heap.size, 3, none⟩ = some (.int .u32 0) ∧ w'.cell? ⟨w.heap.size, 4, none⟩ = some (.slice none 0 0) ∧ w'.cell? ⟨w.heap.size, 5, none⟩ = some (.int .i64 z) ∧ w'.cell? ⟨w.heap.size, 6, none⟩ = some (.slice a l c) ∧ w'.cell? ⟨w.heap.size, 7, none⟩ = some (.bool h) ∧ w'.cell? ⟨w.heap.size + 1, 1, none⟩ = some (.string ⟨#[]⟩) ∧ w'.cell? ⟨w.heap.size + 1, 2, none⟩ = some (.string ⟨#[]⟩) ∧ w'.cell? ⟨w.heap.size + 1, 3, none⟩ = some (.int .i64 n) ∧ w'.cell? ⟨w.heap.size + 1, 4, none⟩ = some (.slice none 0 0) ∧ w'.cell? ⟨w.heap.size + 1, 5, none⟩ = some (.slice none 0 0))
    (first | with_reducible exact kb | with_reducible exact ⟨x0, x1, x2, x3, x4, x5, x6, x7, x8, x9, y1, y2, y3, y4, y5⟩ | go_keep)
    ((go_at_call 24; refine HC.out.mono ?_; rintro e w2 ⟨rfl, hb2⟩; have HB2 : Hid (Below w.heap.size w w2) := Lib.hid (HB.out.drew.trans (hb2.mono HB.out.size)); have kb := HKP.out _ ((Below.refl _ _).drew.trans hb2); clear hb2))
  all_goals
    go_wp2_with fail
    go_ret
    exact ⟨rfl, HB2.out⟩
end Go.Proofs.YtopocmihbmaamaaGreatDoor
