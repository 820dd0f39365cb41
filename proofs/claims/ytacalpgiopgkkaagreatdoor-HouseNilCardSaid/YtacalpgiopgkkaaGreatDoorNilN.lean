/-
  Expunge of a nil house; two mailboxes that are none.
-/
import Derived.Test.YtacalpgiopgkkaaGreatDoorAwk
namespace Go.Proofs.YtacalpgiopgkkaaGreatDoor
set_option linter.unusedVariables false
open Go.RowKit Go.MapKept
attribute [local go_sem] Oper.semAt_some

set_option maxRecDepth 100000 in
set_option maxHeartbeats 2000000 in
theorem expunge_nil (s : ByteArray) (v : Value) (xs : List Int) (w : World) (h : S9.RowV w 1 v xs.length (S9.u32s xs)) (hs : xs.length ≤ 35184372087808) :
    Calls Tryz.prog 14 #[.pointer none, .string s, v] w fun e w' => e = .returned (.tuple #[.slice none 0 0, .int .i64 2]) ∧ Below w.heap.size w w' := by
  obtain ⟨ua, uc, rfl, -⟩ := id h
  have HC := Lib.hid (clone_u32 _ xs w h hs)
  clear h hs
  go_enter Tryz.func14, Tryz.ntmps14
  go_upto_region 2 with (go_at_call 28; refine HC.out.mono ?_; rintro e w1 ⟨o, rfl, ho, hb1⟩; obtain ⟨oa, oc, rfl⟩ := owns_one ho; have HB := Lib.hid hb1; clear ho hb1)
  have hb2 := HB.out.alloc HB.out.size (.cells #[.pointer none, .int .u32 0, .slice oa xs.length oc, .int .i64 0, .slice none 0 0, .string ⟨#[]⟩, .slice none 0 0] 70)
  have HB2 := Lib.hid hb2
  clear hb2
  go_wp2_with (go_at_call 23; refine (change_nil _ _ _ _).mono ?_; rintro e w2 ⟨rfl, rfl⟩)
  exact bodyPost_ret (results_tmp2 rfl _ _ _) rfl ⟨rfl, HB2.out⟩
set_option maxRecDepth 100000 in
set_option maxHeartbeats 2000000 in
theorem same_nil (f : Value) (w : World) : Calls Tryz.prog 34 #[.slice none 0 0, .slice none 0 0, f] w fun e w' => e = .returned (.bool true) ∧ w = w' := by
  go_enter Tryz.func34, Tryz.ntmps34
  go_wp2_with fail
  go_loopw [7] (fun i wr => i = .int .i64 0 ∧ wr = w) (fun _ _ => 0)
  case atStart => exact ⟨rfl, rfl⟩
  case round =>
    obtain ⟨rfl, rfl⟩ := hrel
    go_wp2_with fail
    go_ret
    exact ⟨rfl, rfl⟩
set_option maxRecDepth 100000 in
set_option maxHeartbeats 2000000 in
theorem boxes_nil (w : World) : Calls Tryz.prog 18 #[.agg #[.string ⟨#[]⟩, .int .u32 0, .int .u32 0, .slice none 0 0], .agg #[.string ⟨#[]⟩, .int .u32 0, .int .u32 0, .slice none 0 0]] w fun e w' => e = .returned (.bool true) ∧ Below w.heap.size w w' := by
  have hb := ((Below.refl w.heap.size w).alloc (Nat.le_refl _) (.cells #[.string ⟨#[]⟩, .int .u32 0, .int .u32 0, .slice none 0 0] 45)).alloc (by simp) (.cells #[.string ⟨#[]⟩, .int .u32 0, .int .u32 0, .slice none 0 0] 45)
  have HB := Lib.hid hb
  clear hb
  go_enter Tryz.func18, Tryz.ntmps18
  go_wp2_with (go_at_call 34; refine (same_nil _ _).mono ?_; rintro e w2 ⟨rfl, rfl⟩)
  go_ret
  exact ⟨rfl, HB.out⟩
end Go.Proofs.YtacalpgiopgkkaaGreatDoor
