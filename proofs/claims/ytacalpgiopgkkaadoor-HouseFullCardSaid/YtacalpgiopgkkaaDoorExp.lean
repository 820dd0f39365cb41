/-
  Expunge of the one message that is marked so.
-/
import Derived.Test.YtacalpgiopgkkaaDoorPutE
namespace Go.Proofs.YtacalpgiopgkkaaDoor
set_option linter.unusedVariables false
open Go.RowKit Go.MapKept
attribute [local go_sem] Oper.semAt_some

def delT : S9.Tx := [92, 68, 101, 108, 101, 116, 101, 100]
def delB : ByteArray := ⟨#[92, 68, 101, 108, 101, 116, 101, 100]⟩
theorem small_del (w : World) : Calls Tryd.prog 24 #[.string delB] w fun e w' => e = .returned (.string ⟨#[92, 100, 101, 108, 101, 116, 101, 100]⟩) ∧ Below w.heap.size w w' := by
  have h := S9.small_t delT (by decide) w
  have e1 : S9.strL delT = delB := rfl
  have e2 : S9.strL (S9.foldL delT) = ⟨#[92, 100, 101, 108, 101, 116, 101, 100]⟩ := by decide +kernel
  rw [e1, e2] at h
  exact h
set_option maxRecDepth 100000 in
set_option maxHeartbeats 2000000 in
theorem has_del (g c : Nat) (w : World) (h : w.cell? ⟨g, 0, none⟩ = some (.string delB)) : Calls Tryd.prog 28 #[.slice (some ⟨g, 0, none⟩) 1 c, .string delB] w fun e w' => e = .returned (.bool true) ∧ Below w.heap.size w w' := by
  have hg := World.block_lt_of_cell? w _ h
  have HH := Lib.hid h
  clear h
  go_enter Tryd.func28, Tryd.ntmps28
  go_upto_region 2 with (go_at_call 24; refine (small_del _).mono ?_; rintro e w1 ⟨rfl, hb1⟩)
  have h1 := (hb1.cell (p := ⟨g, 0, none⟩) hg).trans HH.out
  have HB := Lib.hid hb1
  clear hb1
  go_wp2_with fail
  go_loopw [12] (fun i wr => i = .int .i64 0 ∧ wr = w1) (fun _ _ => 0)
  case atStart => exact ⟨rfl, rfl⟩
  case round =>
    obtain ⟨rfl, rfl⟩ := hrel
    go_wp2_with (go_at_call 24; refine (small_del _).mono ?_; rintro e w2 ⟨rfl, hb2⟩)
    go_ret
    exact ⟨rfl, HB.out.trans (hb2.mono HB.out.size)⟩
set_option maxRecDepth 100000 in
set_option maxHeartbeats 2000000 in
theorem index_one (g c : Nat) (w : World) (h : w.cell? ⟨g, 0, none⟩ = some (.int .u32 1)) : Calls Tryd.prog 40 #[.slice (some ⟨g, 0, none⟩) 1 c, .int .u32 1] w fun e w' => e = .returned (.int .i64 0) ∧ w = w' := by
  go_enter Tryd.func40, Tryd.ntmps40
  go_wp2_with fail
  go_loopw [8] (fun i wr => i = .int .i64 0 ∧ wr = w) (fun _ _ => 0)
  case atStart => exact ⟨rfl, rfl⟩
  case round =>
    obtain ⟨rfl, rfl⟩ := hrel
    go_wp2_with fail
    go_ret
    exact ⟨rfl, rfl⟩
set_option maxRecDepth 100000 in
theorem contains_one (g c : Nat) (w : World) (h : w.cell? ⟨g, 0, none⟩ = some (.int .u32 1)) : Calls Tryd.prog 29 #[.slice (some ⟨g, 0, none⟩) 1 c, .int .u32 1] w fun e w' => e = .returned (.bool true) ∧ w = w' := by
  have H := Lib.hid (index_one g c w h)
  clear h
  go_enter Tryd.func29, Tryd.ntmps29
  go_wp2_with (go_at_call 40; refine H.out.mono ?_; rintro e w2 ⟨rfl, rfl⟩)
  go_ret
  exact ⟨rfl, rfl⟩
end Go.Proofs.YtacalpgiopgkkaaDoor
