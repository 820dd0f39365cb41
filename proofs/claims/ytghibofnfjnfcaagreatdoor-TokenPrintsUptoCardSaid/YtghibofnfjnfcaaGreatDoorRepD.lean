/-
  sync.Once around buildOnce: one goroutine.
-/
import Derived.Test.YtghibofnfjnfcaaGreatDoorRepC
import Derived.Tactics2
import Derived.Defers
import Derived.Laws.Pointers
import Derived.Laws.LoneSync
import Derived.RegionTactic
import Derived.RegionCalls
import Derived.ChangeAlike
namespace Go.Proofs.YtghibofnfjnfcaaGreatDoor
set_option linter.unusedVariables false
open Go.RowKit

theorem Built.keep {S B : Nat} {w w' : World} (h : Built S w B) (hk : ∀ k, S ≤ k → k < w.heap.size → w'.heap[k]? = w.heap[k]?) : Built S w' B := by
  obtain ⟨q, cq, s, cs, t, ct, h1, h2, h3, h4, h5, a, b, c, d⟩ := h
  have hc : ∀ g j v, S ≤ g → w.cell? ⟨g, j, none⟩ = some v → w'.cell? ⟨g, j, none⟩ = some v := fun g j v hg hv => (World.cell?_of_block (hk g hg (World.block_lt_of_cell? w _ hv))).trans hv
  exact ⟨q, cq, s, cs, t, ct, by unfold BsR; rw [hk B a h1.lt]; exact h1, fun j hj => hc q j _ b (h2 j hj), fun j hj => hc s j _ c (h3 j hj), hc t 0 _ d h4, hc t 1 _ d h5, a, b, c, d⟩
theorem Built.set {S B P j : Nat} {w : World} (h : Built S w B) (hP : P < S) (v : Value) : Built S (w.setCell ⟨P, j, none⟩ v) B := h.keep fun k hk _ => Below.heap_setCell _ _ _ _ (by simp; omega)

set_option maxRecDepth 100000 in
set_option maxHeartbeats 2000000 in
theorem buildOnce_any (P h c : Nat) (d s m : Int) (w : World) (hR : R5 w P d s m .nilIface (.slice (some ⟨h, 0, none⟩) 4 c)) (hc : ∀ j (k : j < oldnew.length), w.cell? ⟨h, j, none⟩ = some (.string oldnew[j])) :
    Calls Tryz.prog 41 #[.pointer (some ⟨P, 0, none⟩)] w fun e w' => e = .returned (.tuple #[]) ∧ ∃ B, R5 w' P d s m (.iface 101 (.pointer (some ⟨B, 0, none⟩))) (.slice none 0 0) ∧ Built w.heap.size w' B ∧ Below P w w' := by
  have HR := Lib.hid hR
  have HB := Lib.hid (build_any P h c d s m .nilIface w hR hc)
  have hP := hR.lt
  clear hR hc
  go_enter Tryz.func41, Tryz.ntmps41
  go_wp2_with fail
  refine HB.out.mono ?_
  rintro e w1 ⟨B, rfl, hbt, hb1⟩
  have hr1 := HR.out.below hb1 hP
  obtain ⟨p0, p1, p2, p3, p4⟩ := hr1.cells
  have f3 := hr1.froz 3
  have f4 := hr1.froz 4
  have hr2 := hr1.setR (.iface 101 (.pointer (some ⟨B, 0, none⟩)))
  have q4 := hr2.cells.2.2.2.2
  have HR3 := Lib.hid (hr2.setO (.slice none 0 0))
  have HBT := Lib.hid ((hbt.set hP (j := 3) (.iface 101 (.pointer (some ⟨B, 0, none⟩)))).set hP (j := 4) (.slice none 0 0))
  have HB1 := Lib.hid (below_setZ (below_setZ (hb1.mono (show P ≤ w.heap.size by omega)) (Nat.le_refl P) (j := 3) (.iface 101 (.pointer (some ⟨B, 0, none⟩)))) (Nat.le_refl P) (j := 4) (.slice none 0 0))
  clear hbt hb1 hr1 hr2
  go_wp2_with fail
  go_end0
  exact ⟨rfl, B, HR3.out, HBT.out, HB1.out⟩
theorem disable (w : World) : (callFunc 78 #[]).run Tryz.prog w = .ok (.value (.tuple #[])) w := run_call_mark0 Tryz.func78 (by kernel_rfl) (by kernel_rfl) (by kernel_rfl) .disable (by kernel_rfl) w
theorem enable (w : World) : (callFunc 80 #[]).run Tryz.prog w = .ok (.value (.tuple #[])) w := run_call_mark0 Tryz.func80 (by kernel_rfl) (by kernel_rfl) (by kernel_rfl) .enable (by kernel_rfl) w
theorem acquire (a : Addr) (w : World) : (callFunc 81 #[.pointer (some a)]).run Tryz.prog w = .ok (.value (.tuple #[])) w := run_call_marked Tryz.func81 (by kernel_rfl) (by kernel_rfl) (by kernel_rfl) .acquire (by kernel_rfl) a w
theorem releaseMerge (a : Addr) (w : World) : (callFunc 83 #[.pointer (some a)]).run Tryz.prog w = .ok (.value (.tuple #[])) w := run_call_marked Tryz.func83 (by kernel_rfl) (by kernel_rfl) (by kernel_rfl) .releaseMerge (by kernel_rfl) a w

set_option maxRecDepth 100000 in
/-- '(*sync/atomic.Bool).Store(true)', entered as a deferred call -/
theorem store_deferred (a : Addr) (x : Value) (u : FrameMode) (w : World) (hc : w.cell? a = some x) (hz : w.frozen? a = false) :
    CallsD Tryz.prog 57 #[.pointer (some a), .bool true] u w fun e u' w' => u' = u ∧ (e = .returned (.tuple #[]) ∧ w' = w.drew.setCell a (.int .u32 1)) := by
  have hc' : w.drew.cell? a = some x := by go_simp
  have hz' : w.drew.frozen? a = false := by go_simp
  have hst := run_call_store (P := Tryz.prog) Tryz.func67 (by kernel_rfl) (by kernel_rfl) (by kernel_rfl) (by kernel_rfl) (k := .u32) (y := 1) hc' hz'
  go_enter_d Tryz.func57, Tryz.ntmps57
  go_wp2
  go_region_calls
  all_goals (go_end0; exact ⟨rfl, rfl⟩)
set_option maxRecDepth 100000 in
/-- '(*sync.Mutex).Unlock', entered as a deferred call, the lock held and nobody waiting -/
theorem unlock_deferred (a : Addr) (u : FrameMode) (w : World) (hc : w.cell? a = some (.int .i32 1)) (hz : w.frozen? a = false) :
    CallsD Tryz.prog 56 #[.pointer (some a)] u w fun e u' w' => u' = u ∧ (e = .returned (.tuple #[]) ∧ w' = w.setCell a (.int .i32 0)) := by
  have hd := disable
  have he := enable
  have hr := releaseMerge
  have hadd := run_call_add (P := Tryz.prog) Tryz.func84 (by kernel_rfl) (by kernel_rfl) (by kernel_rfl) .i32 (by kernel_rfl) (y := -1) (s := 0) hc hz (by simp [go_sem]; rfl)
  have hcv := run_convert_to_unsafe (P := Tryz.prog) (src := 131) (dst := 135) Tryz.underlying131 Tryz.underlying135 (by kernel_rfl) hc
  go_enter_d Tryz.func56, Tryz.ntmps56
  go_wp2
  go_end0
  go_wp2
  go_end0
  exact ⟨rfl, rfl⟩
set_option maxRecDepth 100000 in
/-- '(*sync.Mutex).Lock', the lock free -/
theorem lock_free (a : Addr) (w : World) (hc : w.cell? a = some (.int .i32 0)) (hz : w.frozen? a = false) :
    Calls Tryz.prog 55 #[.pointer (some a)] w fun e w' => e = .returned (.tuple #[]) ∧ w' = w.setCell a (.int .i32 1) := by
  have hd := disable
  have he := enable
  have ha := acquire
  have hcas := run_call_cas_hit (P := Tryz.prog) Tryz.func79 (by kernel_rfl) (by kernel_rfl) (by kernel_rfl) .i32 (by kernel_rfl) (y := 1) hc hz
  have hc' : (w.setCell a (.int .i32 1)).cell? a = some (.int .i32 1) := World.cell?_setCell_same w a _ hc
  have hcv := run_convert_to_unsafe (P := Tryz.prog) (src := 131) (dst := 135) Tryz.underlying131 Tryz.underlying135 (by kernel_rfl) hc'
  go_enter Tryz.func55, Tryz.ntmps55
  go_wp2
  first | go_end0 | (simp only [Exit.inBlock, Exit.then]; refine bodyPost_ret (results_none rfl _ _ _) rfl ?_) | refine bodyPost_ret (results_none rfl _ _ _) rfl ?_
  go_wp2
  go_end0
  exact ⟨rfl, rfl⟩
end Go.Proofs.YtghibofnfjnfcaaGreatDoor
