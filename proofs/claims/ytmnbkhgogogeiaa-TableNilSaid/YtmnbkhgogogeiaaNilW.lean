/-
  TableNil: the walk.
-/
import Derived.Test.YtmnbkhgogogeiaaWake
import Derived.Test.YtmnbkhgogogeiaaNil4
import Derived.Test.YtmnbkhgogogeiaaRange
namespace Go.Proofs.Ytmnbkhgogogeiaa
set_option linter.unusedVariables false
open Go.RowKit

set_option maxRecDepth 100000 in
set_option maxHeartbeats 4000000 in
theorem scan0_on (n p B : Nat) (Kp : World → World → Prop) :
    SeqOn Fence.wide n Try.prog 39 #[.pointer (some ⟨p, 0, none⟩)] (fun (_ : Unit) => #[undef, undef]) B Kp [] (fun W => W.cell? ⟨p, 0, none⟩ = some (.slice none 0 0)) := by
  intro y J Jx W hc hJ hJx hY h0
  refine callsIn_of_wp Try.func39 rfl trivial ?_ rfl
  simp only [Try.ntmps39, List.size_toArray, List.length_cons, List.length_nil, Nat.reduceAdd, Nat.reduceSub, Array.replicate_succ, Array.replicate_zero, List.push_toArray, List.append_toArray, List.nil_append, List.cons_append]
  gi_wp2
  gi_loopw [7] (fun i wr => i = .int .i64 0 ∧ wr = W) (fun _ _ => 0)
  case atStart => exact ⟨rfl, rfl⟩
  case round =>
    obtain ⟨rfl, rfl⟩ := hrel
    gi_wp2
    go_end0
    exact ⟨⟨_, rfl⟩, .inl h0⟩

set_option maxRecDepth 100000 in
theorem run_fn_nil (w : World) (p : Nat) : (binOp .eql 50 (.func (.func 39) #[] #[.pointer (some ⟨p, 0, none⟩)]) .nilFunc).run Try.prog w = .ok (.bool false) w := by
  first
    | rfl
    | kernel_rfl
set_option maxRecDepth 100000 in
set_option maxHeartbeats 8000000 in
theorem tnil_walk (v0 v1 : Value) (w : World) : Calls Try.prog 6 #[v0, v1] w fun e w' => e = .returned (.bool true) ∧ Below w.heap.size w w' := by
  refine (callsIn_wide (n := 3)).1 ?_
  refine callsIn_of_wp_marks Try.func6 rfl trivial ?_ rfl
  simp only [Try.ntmps6, List.size_toArray, List.length_cons, List.length_nil, Nat.reduceAdd, Nat.reduceSub, Array.replicate_succ, Array.replicate_zero, List.push_toArray, List.append_toArray, List.nil_append, List.cons_append]
  gi_wp2_with (first
    | (refine ⟨trivial, ?_⟩; refine (callsIn_wide.2 (topen_nil _)).mono ?_; rintro e w' ⟨rfl, rfl⟩)
    | (refine ⟨trivial, ?_⟩; refine (callsIn_wide.2 (get_nil _ _)).mono ?_; rintro e w' ⟨rfl, rfl⟩)
    | (refine ⟨trivial, ?_⟩; refine (callsIn_wide.2 (scan_nil _ _)).mono ?_; rintro e w' ⟨rfl, rfl⟩)
    | (refine ⟨trivial, ?_⟩; refine (callsIn_wide.2 (twake_any _)).mono ?_; rintro e w5 ⟨rfl, hb5⟩; have HB5 := Lib.hid hb5; clear hb5))
  have hbx : Boxed w5 w.heap.size 4 (.bool false) := (HB5.out.block w.heap.size (by simp; omega)).trans ((Boxed.new w 4 (.bool false)).alloc _)
  have hbp : Boxed w5 (w.heap.size + 1) 66 (.slice none 0 0) := by
    refine (HB5.out.block (w.heap.size + 1) (by simp)).trans ?_
    have := heap_alloc_new (w.alloc (.cells #[.bool false] 4)) (.cells #[.slice none 0 0] 66)
    rwa [World.size_alloc] at this
  rw [run_fn_nil]
  simp only [Result.andThen]
  rw [Oper.uponIn_value]
  gi_wp2
  have hA : Below w.heap.size w ((w.alloc (.cells #[.bool false] 4)).alloc (.cells #[.slice none 0 0] 66)) := ((Below.refl _ _).alloc (Nat.le_refl _) _).alloc (by simp) _
  have hbw : Below w.heap.size w w5 := hA.trans (HB5.out.mono hA.size)
  refine range_on (α := Unit) rfl (by omega) (gf := 39) (lb := #[.pointer (some ⟨w.heap.size + 1, 0, none⟩)]) rfl trivial (enters_of Try.func39 (by kernel_rfl) rfl)
    (scan0_on 2 (w.heap.size + 1) (w.heap.size + 1) (fun _ _ => True)) hbp.lt (fun r => ((hbp.alloc _).alloc _).cell) (fun _ _ => trivial) (fun _ _ _ _ => trivial) (fun _ => rfl)
    (fun pre W => Boxed W w.heap.size 4 (.bool false) ∧ Below w.heap.size w W) (fun _ _ _ => False)
    (OwnFrom.and (Own.from (boxed_own _ _ (fun _ => .bool false)) _) (ownFrom_below (Nat.le_refl _) hbw.size)) (fun c s A C row h => h.elim)
    (fun s A C hs hg => ⟨hs.1.kept hg (by simp), hs.2.grown hg hs.2.size (fun k e => by cases e; omega)⟩) (fun c s A C h => h.elim) ⟨hbx, hbw⟩ ?a1 ?assign ?body ?done ?stop
  case assign =>
    intro x W K hK
    gi_wp2
    exact hK
  case body =>
    intro pre x rest W hx
    simp at hx
  case done =>
    rintro W ⟨hbx, hB⟩ hK
    have hcx := hbx.cell
    have hfx := hbx.frozen
    have HBX := Lib.hid hbx
    have HB := Lib.hid hB
    have HK := Lib.hid hK
    clear hbx hB hK
    gi_wp2_with (first
      | (refine ⟨trivial, ?_⟩; refine (callsIn_wide.2 (do_nil _ _)).mono ?_; rintro e w' ⟨rfl, rfl⟩)
      | (refine ⟨trivial, ?_⟩; refine (callsIn_wide.2 (compact_nil _)).mono ?_; rintro e w' ⟨rfl, rfl⟩)
      | (refine ⟨trivial, ?_⟩; refine (callsIn_wide.2 (len_nil _)).mono ?_; rintro e w' ⟨rfl, rfl⟩)
      | (refine ⟨trivial, ?_⟩; refine (callsIn_wide.2 (room_nil _)).mono ?_; rintro e w' ⟨rfl, m, rfl⟩))
    have hkf : ((W.drewN m).setCell ⟨w.heap.size, 0, none⟩ (.bool true)).heap[w5.heap.size]? = some (.deferred (some [])) := (Below.heap_setCell _ _ _ _ (by have := hbx.lt; show w5.heap.size ≠ w.heap.size; omega)).trans HK.out
    have hbf : Boxed (((W.drewN m).setCell ⟨w.heap.size, 0, none⟩ (.bool true)).putObj w5.heap.size (.deferred none)) w.heap.size 4 (.bool true) := (World.putObj_heap_other (by have := hbx.lt; omega)).trans (Boxed.set (W := W.drewN m) (.bool true) HBX.out)
    have hcf := hbf.cell
    refine ⟨by simp, .inl ⟨_, _, rfl, run_takeDeferred hkf, ?_⟩⟩
    refine ⟨.bool true, ?_, rfl, ?_⟩
    · have h6 : Try.f6.results = #[.cell 4 4] := rfl
      simp only [results, h6]
      simp [go_sem, hcf]
    · exact ((below_drewN HB.out m).setCell (p := ⟨w.heap.size, 0, none⟩) (Nat.le_refl _) _).trans (belowK_b (w := w) (Nat.le_refl _) _ _ _ _ (by have := hbx.lt; omega) hkf rfl rfl)
  case stop =>
    rintro c pre W _ h
    exact h.elim
end Go.Proofs.Ytmnbkhgogogeiaa
