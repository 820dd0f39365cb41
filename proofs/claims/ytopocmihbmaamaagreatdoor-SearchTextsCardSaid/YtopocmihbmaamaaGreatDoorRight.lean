/-
  Right, match, Match of a key of no others.
-/
import Derived.Test.YtopocmihbmaamaaGreatDoorFlag
import Derived.Laws.EntriesVeiled
import Derived.Deep.CutBlock
import Derived.Deep.CutRange
import Derived.Deep.DeepCutAuto
namespace Go.Proofs.YtopocmihbmaamaaGreatDoor
set_option linter.unusedVariables false
open Go.RowKit

def OwnOk (k : Int) (s : ByteArray) (n : Int) : Prop := ∀ (p : Nat) (W : World), KeyR W p k s n → Calls Tryz.prog 11 #[.pointer (some ⟨p, 0, none⟩)] W fun e w' => e = .returned (.bool true) ∧ Below W.heap.size W w'
set_option maxRecDepth 100000 in
set_option maxHeartbeats 4000000 in
theorem right_of (k : Int) (s : ByteArray) (n : Int) (HO : OwnOk k s n) (w : World) : Calls Tryz.prog 8 #[.agg (keyC k s n)] w fun e w' => e = .returned (.bool true) ∧ Below w.heap.size w w' := by
  have HOW := Lib.hid HO
  clear HO
  unfold keyC
  go_enter Tryz.func8, Tryz.ntmps8
  go_upto_region 3 with (fail)
  obtain ⟨p, hp⟩ : ∃ p, w.heap.size = p := ⟨_, rfl⟩
  obtain ⟨W, hW, hk, hc, hcf, hr, hrf, hb⟩ : ∃ W, W = (((w.alloc (.cells #[.int .i64 k, .string s, .string ⟨#[]⟩, .int .i64 n, .slice none 0 0, .slice none 0 0] 33)).alloc (.cells #[.int .i64 0] 3)).alloc (.cells #[.nilFunc] 38)) ∧
      KeyR W w.heap.size k s n ∧ W.cell? ⟨w.heap.size + 1, 0, none⟩ = some (.int .i64 0) ∧ W.frozen? ⟨w.heap.size + 1, 0, none⟩ = false ∧ W.cell? ⟨w.heap.size + 1 + 1, 0, none⟩ = some .nilFunc ∧ W.frozen? ⟨w.heap.size + 1 + 1, 0, none⟩ = false ∧ Below w.heap.size w W := by
    have h1 := heap_alloc_new w (.cells (keyC k s n) 33)
    have h2 := heap_alloc_new (w.alloc (.cells (keyC k s n) 33)) (.cells #[.int .i64 0] 3)
    have h3 := heap_alloc_new ((w.alloc (.cells (keyC k s n) 33)).alloc (.cells #[.int .i64 0] 3)) (.cells #[.nilFunc] 38)
    have b1 := (Below.refl (w.alloc (.cells (keyC k s n) 33)).heap.size (w.alloc (.cells (keyC k s n) 33))).alloc (Nat.le_refl _) (.cells #[.int .i64 0] 3)
    have b2 := (Below.refl ((w.alloc (.cells (keyC k s n) 33)).alloc (.cells #[.int .i64 0] 3)).heap.size ((w.alloc (.cells (keyC k s n) 33)).alloc (.cells #[.int .i64 0] 3))).alloc (Nat.le_refl _) (.cells #[.nilFunc] 38)
    have b0 := (Below.refl w.heap.size w).alloc (Nat.le_refl _) (.cells (keyC k s n) 33)
    rw [World.size_alloc] at h2
    rw [World.size_alloc, World.size_alloc] at h3
    have h2' := (b2.block (w.heap.size + 1) (by simp)).trans h2
    refine ⟨_, rfl, ?_, cell_of_row _ _ 0 _ _ _ h2', frozen_of_row _ _ _ _ _ h2', cell_of_row _ _ 0 _ _ _ h3, frozen_of_row _ _ _ _ _ h3, ?_⟩
    · exact (b2.block w.heap.size (by simp; omega)).trans ((b1.block w.heap.size (by simp)).trans h1)
    · exact (b0.alloc b0.size _).alloc (by simp; omega) _
  rw [← hW]
  have HK := Lib.hid hk
  have HB := Lib.hid hb
  have HWS := Lib.hid (World.block_lt_of_cell? W _ hr)
  clear hW hk hb
  rw [hp] at hc hcf hr hrf HK HB HWS ⊢
  have HPE := Lib.hid hp
  clear hp
  go_wp2_with (first | (go_at_call 10; go_in))
  have hbb : Below p W ((W.setCell ⟨p + 1 + 1, 0, none⟩ (.func (.func 10) #[] #[.pointer (some ⟨p + 1, 0, none⟩), .pointer (some ⟨p + 1 + 1, 0, none⟩)])).setCell ⟨p + 1, 0, none⟩ (.int .i64 1)) := below_set1 (below_set1 (Below.refl p W) (by omega) _) (by omega) _
  have hbk : Below (p + 1) W ((W.setCell ⟨p + 1 + 1, 0, none⟩ (.func (.func 10) #[] #[.pointer (some ⟨p + 1, 0, none⟩), .pointer (some ⟨p + 1 + 1, 0, none⟩)])).setCell ⟨p + 1, 0, none⟩ (.int .i64 1)) := below_set1 (below_set1 (Below.refl (p + 1) W) (by omega) _) (by omega) _
  have hk2 := HK.out.below hbk (Nat.lt_succ_self p)
  refine (HOW.out p _ hk2).mono ?_
  rintro e w2 ⟨rfl, hb2⟩
  obtain ⟨d0, d1, d2, d3, d4, d5⟩ := (hk2.below hb2 hk2.lt).at
  have hsz := hbb.size
  have hps : p ≤ W.heap.size := by have := HWS.out; omega
  have HB2 := Lib.hid (HB.out.trans (hbb.trans (hb2.mono (Nat.le_trans hps hsz))))
  clear hbb hbk hk2 hb2 hsz hps
  go_wp2_with fail
  refine wp_loop_rounds 1 ?_
  rw [rounds_succ]
  go_wp2_with fail
  go_ret
  exact ⟨rfl, by rw [HPE.out]; exact HB2.out⟩
end Go.Proofs.YtopocmihbmaamaaGreatDoor
