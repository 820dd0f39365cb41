/-
  (*sync.Once).Do of a Replacer, the first time.
-/
import Derived.Test.YtghibofnfjnfcaaGreatDoorRepD
namespace Go.Proofs.YtghibofnfjnfcaaGreatDoor
set_option linter.unusedVariables false
open Go.RowKit

theorem R5.drew {w : World} {P : Nat} {d s m : Int} {r o : Value} (h : R5 w P d s m r o) : R5 w.drew P d s m r o := h
set_option maxRecDepth 100000 in
set_option maxHeartbeats 4000000 in
theorem slow_any (P h c : Nat) (m : Int) (w : World) (hR : R5 w P 0 0 m .nilIface (.slice (some ⟨h, 0, none⟩) 4 c)) (hc : ∀ j (k : j < oldnew.length), w.cell? ⟨h, j, none⟩ = some (.string oldnew[j])) (hhP : h ≠ P) :
    Calls Tryz.prog 49 #[.pointer (some ⟨P, 0, none⟩), .func (.func 41) #[.pointer (some ⟨P, 0, none⟩)] #[]] w fun e w' => e = .returned (.tuple #[]) ∧ ∃ B, R5 w' P 1 0 m (.iface 101 (.pointer (some ⟨B, 0, none⟩))) (.slice none 0 0) ∧ Built w.heap.size w' B ∧ Below P w w' := by
  obtain ⟨p0, p1, p2, p3, p4⟩ := hR.cells
  have f1 := hR.froz 1
  have hr1 := hR.setS 1
  have hl := run_call_load (P := Tryz.prog) Tryz.func54 (by kernel_rfl) (by kernel_rfl) (by kernel_rfl) .u32 (by kernel_rfl) (w := w.setCell ⟨P, 1, none⟩ (.int .i32 1)) (a := ⟨P, 0, none⟩) (x := 0) hr1.cells.1
  have hnot : ∀ (x : Bool) (w : World), (Op.unary .not (.bool x)).run Tryz.prog w = .ok (.bool (!x)) w := fun _ _ => rfl
  have hsz : (w.setCell ⟨P, 1, none⟩ (.int .i32 1)).heap.size = w.heap.size := by simp [World.setCell]
  have hbo := buildOnce_any P h c 0 1 m (w.setCell ⟨P, 1, none⟩ (.int .i32 1)) hr1 (fun j k => (World.cell?_setCell_other _ _ _ _ (fun e => hhP (by have := congrArg Addr.block e; simpa using this.symm))).trans (hc j k))
  rw [hsz] at hbo
  have HBO := Lib.hid hbo
  have HB1 : Hid (Below P w (w.setCell ⟨P, 1, none⟩ (.int .i32 1))) := Lib.hid (below_setZ (Below.refl _ _) (Nat.le_refl P) _)
  have hP := hR.lt
  clear hR hc hr1 hbo p2 p3 p4
  go_enter_defers Tryz.func49, Tryz.ntmps49
  go_wp2_with (first
    | (go_at_call 55; refine (lock_free ⟨P, 1, none⟩ _ p1 f1).mono ?_; rintro e w' ⟨rfl, rfl⟩)
    | (go_at_call 48; go_in)
    | (go_at_call 41; refine HBO.out.mono ?_; rintro e w2 ⟨rfl, B, hr2, hbt, hb2⟩; have HR2 := Lib.hid hr2; have HBT := Lib.hid hbt; have HB2 := Lib.hid (HB1.out.trans hb2); clear hr2 hbt hb2))
  obtain ⟨q0, q1, -⟩ := HR2.out.cells
  have g0 := HR2.out.froz 0
  have hr3 := HR2.out.drew.setD 1
  have HR4 := Lib.hid (hr3.setS 0)
  have hbt3 := (HBT.out.keep (w' := w2.drew) (fun k _ _ => rfl)).set hP (j := 0) (.int .u32 1)
  have HBT4 := Lib.hid (hbt3.set hP (j := 1) (.int .i32 0))
  have HB4 := Lib.hid (below_setZ (below_setZ HB2.out.drew (Nat.le_refl P) (j := 0) (.int .u32 1)) (Nat.le_refl P) (j := 1) (.int .i32 0))
  refine leaves_cons (f := 57) (args := #[.pointer (some ⟨P, 0, none⟩), .bool true]) (by simp) (by simp [go_sem]) ?_
  refine (store_deferred ⟨P, 0, none⟩ (.int .u32 0) .returning _ q0 g0).mono ?_
  rintro e u' w'' ⟨rfl, rfl, rfl⟩
  refine leaves_cons (f := 56) (args := #[.pointer (some ⟨P, 1, none⟩)]) (by simp [settle]) (by simp [go_sem]) ?_
  refine (unlock_deferred ⟨P, 1, none⟩ _ _ hr3.cells.2.1 (hr3.froz 1)).mono ?_
  rintro e u' w'' ⟨rfl, rfl, rfl⟩
  simp only [Leaves, settle]
  exact ⟨.tuple #[], by simp [results, Tryz.results49, go_sem], rfl, B, HR4.out, HBT4.out, HB4.out⟩

set_option maxRecDepth 100000 in
set_option maxHeartbeats 4000000 in
theorem do_any (P h c : Nat) (m : Int) (w : World) (hR : R5 w P 0 0 m .nilIface (.slice (some ⟨h, 0, none⟩) 4 c)) (hc : ∀ j (k : j < oldnew.length), w.cell? ⟨h, j, none⟩ = some (.string oldnew[j])) (hhP : h ≠ P) :
    Calls Tryz.prog 40 #[.pointer (some ⟨P, 0, none⟩), .func (.func 41) #[.pointer (some ⟨P, 0, none⟩)] #[]] w fun e w' => e = .returned (.tuple #[]) ∧ ∃ B, R5 w' P 1 0 m (.iface 101 (.pointer (some ⟨B, 0, none⟩))) (.slice none 0 0) ∧ Built w.heap.size w' B ∧ Below P w w' := by
  have hl := run_call_load (P := Tryz.prog) Tryz.func54 (by kernel_rfl) (by kernel_rfl) (by kernel_rfl) .u32 (by kernel_rfl) (w := w) (a := ⟨P, 0, none⟩) (x := 0) hR.cells.1
  have hnot : ∀ (x : Bool) (w : World), (Op.unary .not (.bool x)).run Tryz.prog w = .ok (.bool (!x)) w := fun _ _ => rfl
  have HS := Lib.hid (slow_any P h c m w hR hc hhP)
  clear hR hc
  go_enter Tryz.func40, Tryz.ntmps40
  go_wp2_with (first | (go_at_call 48; go_in) | (go_at_call 49; refine HS.out.mono ?_; rintro e w2 ⟨rfl, h2⟩; have H2 := Lib.hid h2; clear h2))
  go_end0
  exact ⟨rfl, H2.out⟩
end Go.Proofs.YtghibofnfjnfcaaGreatDoor
