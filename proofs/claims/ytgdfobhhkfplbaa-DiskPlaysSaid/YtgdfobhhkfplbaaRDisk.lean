/-
  The reference's disk in its block; its small functions.
-/
import Derived.Test.YtgdfobhhkfplbaaRest
namespace Go.Proofs.Ytgdfobhhkfplbaa
set_option linter.unusedVariables false
open Go.RowKit

def RV (w : World) (q : Nat) (sv uv : Value) (arm : Int) (off : Bool) : Prop := w.heap[q]? = some (.cells #[sv, uv, .int .i64 arm, .bool off] 42 (0, 0))
theorem RV.cell0 {w : World} {q : Nat} {sv uv : Value} {arm : Int} {off : Bool} (h : RV w q sv uv arm off) : w.cell? ⟨q, 0, none⟩ = some sv := by unfold RV at h; simp [World.cell?, h]
theorem RV.cell1 {w : World} {q : Nat} {sv uv : Value} {arm : Int} {off : Bool} (h : RV w q sv uv arm off) : w.cell? ⟨q, 1, none⟩ = some uv := by unfold RV at h; simp [World.cell?, h]
theorem RV.cell2 {w : World} {q : Nat} {sv uv : Value} {arm : Int} {off : Bool} (h : RV w q sv uv arm off) : w.cell? ⟨q, 2, none⟩ = some (.int .i64 arm) := by unfold RV at h; simp [World.cell?, h]
theorem RV.cell3 {w : World} {q : Nat} {sv uv : Value} {arm : Int} {off : Bool} (h : RV w q sv uv arm off) : w.cell? ⟨q, 3, none⟩ = some (.bool off) := by unfold RV at h; simp [World.cell?, h]
theorem RV.free {w : World} {q : Nat} {sv uv : Value} {arm : Int} {off : Bool} (h : RV w q sv uv arm off) (j : Nat) : w.frozen? ⟨q, j, none⟩ = false := by unfold RV at h; simp [World.frozen?, h]
theorem RV.set1 {w : World} {q : Nat} {sv uv : Value} {arm : Int} {off : Bool} (h : RV w q sv uv arm off) (v : Value) : RV (w.setCell ⟨q, 1, none⟩ v) q sv v arm off := by unfold RV at h ⊢; rw [heap_setCell_same w q 1 _ 42 _ h]; rfl
theorem RV.set2 {w : World} {q : Nat} {sv uv : Value} {arm : Int} {off : Bool} (h : RV w q sv uv arm off) (v : Int) : RV (w.setCell ⟨q, 2, none⟩ (.int .i64 v)) q sv uv v off := by unfold RV at h ⊢; rw [heap_setCell_same w q 2 _ 42 _ h]; rfl
theorem RV.set3 {w : World} {q : Nat} {sv uv : Value} {arm : Int} {off : Bool} (h : RV w q sv uv arm off) (v : Bool) : RV (w.setCell ⟨q, 3, none⟩ (.bool v)) q sv uv arm v := by unfold RV at h ⊢; rw [heap_setCell_same w q 3 _ 42 _ h]; rfl
theorem RV.beside {w w' : World} {q : Nat} {sv uv : Value} {arm : Int} {off : Bool} {own : Nat → Prop} (h : RV w q sv uv arm off) (hb : Beside own w w') (hn : ¬ own q) : RV w' q sv uv arm off := by
  unfold RV at h ⊢
  rw [hb.block q (lt_of_block h) hn, h]

structure RDk (w : World) (q : Nat) (sv uv : Value) (S : List (List Nat)) (W : List (Nat × List Nat)) (arm : Nat) (off : Bool) : Prop where
  row : RV w q sv uv arm off
  kept : w.ownsRow 0 65 64 sv S.length (secs S)
  waits : w.ownsRow 0 72 65 uv W.length (wcells W)
def RMine (q : Nat) (sv uv : Value) (k : Nat) : Prop := k = q ∨ sv.ownBlock = some k ∨ uv.ownBlock = some k
theorem RDk.beside {w w' : World} {q : Nat} {sv uv : Value} {S : List (List Nat)} {W : List (Nat × List Nat)} {arm : Nat} {off : Bool} {own : Nat → Prop} (h : RDk w q sv uv S W arm off) (hb : Beside own w w') (hn : ∀ k, RMine q sv uv k → ¬ own k) : RDk w' q sv uv S W arm off :=
  ⟨h.row.beside hb (hn q (.inl rfl)), ownsRow_beside h.kept hb (fun k hk => hn k (.inr (.inl hk))), ownsRow_beside h.waits hb (fun k hk => hn k (.inr (.inr hk)))⟩

/-- what a call leaves of the reference's disk -/
def REnd (w : World) (q : Nat) (sv uv : Value) (S : List (List Nat)) (W : List (Nat × List Nat)) (arm : Nat) (off : Bool) (v : Value) (e : Ending) (w' : World) : Prop :=
  ∃ sv' uv', e = .returned v ∧ RDk w' q sv' uv' S W arm off ∧ Beside (RMine q sv uv) w w' ∧ ∀ k, RMine q sv' uv' k → RMine q sv uv k ∨ (w.heap.size ≤ k ∧ k < w'.heap.size)
theorem Beside.mine {w w' : World} {q : Nat} {sv uv : Value} (h : Beside (· = q) w w') : Beside (RMine q sv uv) w w' := h.mono fun k _ hk => .inl hk
/-- its own block alone has changed -/
theorem RDk.turned {w w' : World} {q : Nat} {sv uv : Value} {S : List (List Nat)} {W : List (Nat × List Nat)} {arm a' : Nat} {off o' : Bool} (h : RDk w q sv uv S W arm off) (hv : RV w' q sv uv a' o') (hb : Beside (· = q) w w') : RDk w' q sv uv S W a' o' :=
  ⟨hv, ownsRow_beside h.kept hb (fun k hk => ownsRow_ne h.kept h.row (by decide) k hk), ownsRow_beside h.waits hb (fun k hk => ownsRow_ne h.waits h.row (by decide) k hk)⟩
theorem RDk.forgot {w w' : World} {q : Nat} {sv uv : Value} {S : List (List Nat)} {W : List (Nat × List Nat)} {arm a' : Nat} {off o' : Bool} (h : RDk w q sv uv S W arm off) (hv : RV w' q sv (.slice none 0 0) a' o') (hb : Beside (· = q) w w') : RDk w' q sv (.slice none 0 0) S [] a' o' :=
  ⟨hv, ownsRow_beside h.kept hb (fun k hk => ownsRow_ne h.kept h.row (by decide) k hk), World.ownsRow_nil _ _ _ _⟩
theorem rmine_nil {q : Nat} {sv uv : Value} : ∀ k, RMine q sv (.slice none 0 0) k → RMine q sv uv k := by
  rintro k (h | h | h)
  · exact .inl h
  · exact .inr (.inl h)
  · simp [Value.ownBlock] at h

theorem Try.info65 : (Try.prog.info? 65).map (fun i => (i.zero, i.size, i.bytes)) = some (some zsec, 64, 64) := by kernel_rfl

def RNewEnd (n : Nat) (w : World) (e : Ending) (w' : World) : Prop :=
  ∃ q sv, e = .returned (.pointer (some ⟨q, 0, none⟩)) ∧ RDk w' q sv (.slice none 0 0) (List.replicate n (zeros 64)) [] 0 false ∧ Below w.heap.size w w' ∧ ∀ k, RMine q sv (.slice none 0 0) k → w.heap.size ≤ k ∧ k < w'.heap.size
theorem rnew (n : Nat) (w : World) (h2 : n ≤ 65536) : Calls Try.prog 9 #[.int .i64 (n : Int)] w fun e w' => RNewEnd n w e w' := by
  obtain ⟨i0, hi, hz0, hz1, hz2⟩ := info_parts Try.info65
  go_enter Try.func9, Try.ntmps9
  go_wp2_with (at_make; go_loud (refine make_secs rfl _ _ 39 65 rfl i0 Try.underlying39 hi hz0 hz1 hz2 n rfl rfl h2 ?_))
  intro w1 hown0 hgr
  have HO := Lib.hid hown0
  have HG := Lib.hid hgr
  clear hown0 hgr
  go_wp2_with fail
  go_ret
  have hs := HG.out.size
  have hl := (World.ownsRow.lt HO.out _ rfl).2
  refine ⟨_, _, rfl, ⟨heap_alloc_new w1 _, ?_, World.ownsRow_nil _ _ _ _⟩, ?_, ?_⟩
  · have := (World.ownsRow.mono (base' := 0) HO.out (Nat.zero_le _)).alloc (Obj.cells #[Value.slice (some { block := w.heap.size, off := 0 }) n n, Value.slice none 0 0, Value.int IntKind.i64 0, Value.bool false] 42)
    rw [List.length_replicate]
    exact this
  · exact ((Below.refl _ _).grown HG.out (Nat.le_refl _) (by simp)).alloc hs _
  · rintro k (rfl | hk | hk)
    · simp only [World.size_alloc]; omega
    · simp [Value.ownBlock] at hk
      simp only [World.size_alloc]; omega
    · simp [Value.ownBlock] at hk

theorem rhit {w : World} {q : Nat} {sv uv : Value} {arm : Nat} (h : RV w q sv uv arm false) (ha : arm ≤ 9223372036854775807) : Calls Try.prog 38 #[.pointer (some ⟨q, 0, none⟩)] w fun e w' => e = .returned (.bool (hitOf arm).2) ∧ RV w' q sv uv (hitOf arm).1 (hitOf arm).2 ∧ Beside (· = q) w w' := by
  have c2 := h.cell2
  have c3 := h.cell3
  have f2 := h.free 2
  have f3 := h.free 3
  have H := Lib.hid h
  clear h
  by_cases h0 : arm = 0
  · subst h0
    go_enter Try.func38, Try.ntmps38
    go_wp2_with fail
    go_ret
    exact ⟨rfl, H.out, Beside.refl _ _⟩
  · by_cases h1 : arm = 1
    · subst h1
      go_enter Try.func38, Try.ntmps38
      go_wp2_with fail
      go_ret
      exact ⟨rfl, (H.out.set2 0).set3 true, ((Beside.refl _ _).set _).set _⟩
    · have n0 : (0 : Int) < (arm : Int) := by omega
      have n1 : ((arm : Int) - 1 == 0) = false := beq_eq_false_iff_ne.2 (by omega)
      have e : hitOf arm = (arm - 1, false) := by simp [hitOf, h0, h1]
      rw [e]
      go_enter Try.func38, Try.ntmps38
      go_wp2_with fail
      go_ret
      refine ⟨rfl, ?_, (Beside.refl _ _).set _⟩
      have := H.out.set2 ((arm - 1 : Nat) : Int)
      rw [show ((arm - 1 : Nat) : Int) = (arm : Int) - 1 from by omega] at this ⊢
      exact this

theorem rstart {w : World} {q : Nat} {sv uv : Value} {S : List (List Nat)} {W : List (Nat × List Nat)} {arm : Nat} {off : Bool} (h : RDk w q sv uv S W arm off) :
    Calls Try.prog 21 #[.pointer (some ⟨q, 0, none⟩)] w fun e w' => REnd w q sv uv S (if off then [] else W) 0 false (.tuple #[]) e w' := by
  have c2 := h.row.cell2
  have c3 := h.row.cell3
  have c1 := h.row.cell1
  have f1 := h.row.free 1
  have f2 := h.row.free 2
  have f3 := h.row.free 3
  have H := Lib.hid h
  clear h
  cases off
  · go_enter Try.func21, Try.ntmps21
    go_wp2_with fail
    go_end0
    have hb : Beside (· = q) w ((w.setCell ⟨q, 2, none⟩ (.int .i64 0)).setCell ⟨q, 3, none⟩ (.bool false)) := ((Beside.refl _ _).set _).set _
    exact ⟨sv, uv, rfl, H.out.turned ((H.out.row.set2 0).set3 false) hb, hb.mine, fun k hk => .inl hk⟩
  · go_enter Try.func21, Try.ntmps21
    go_wp2_with fail
    go_end0
    have hb : Beside (· = q) w (((w.setCell ⟨q, 2, none⟩ (.int .i64 0)).setCell ⟨q, 1, none⟩ (.slice none 0 0)).setCell ⟨q, 3, none⟩ (.bool false)) := (((Beside.refl _ _).set _).set _).set _
    exact ⟨sv, _, rfl, H.out.forgot (((H.out.row.set2 0).set1 _).set3 false) hb, hb.mine, fun k hk => .inl (rmine_nil k hk)⟩

theorem run_loadVar65 {w : World} {g : Nat} {d : List Nat} (hd : d.length = 64) (h : w.heap[g]? = some (.cells (u8s d).toArray 65 (0, 0))) : (loadVar 65 ⟨g, 0, none⟩).run Try.prog w = .ok (.agg (u8s d).toArray) w :=
  run_loadVar_mid w g 0 65 (u8s d) _ (fun j v hj => by rw [Nat.zero_add, cell_of_row _ _ j _ 65 (0, 0) h]; simpa using hj) Try.underlying65 rfl (by obtain ⟨i0, hi, hz0, hz1, hz2⟩ := info_parts Try.info65; rw [hi]; simp [hz1, hd])
end Go.Proofs.Ytgdfobhhkfplbaa
