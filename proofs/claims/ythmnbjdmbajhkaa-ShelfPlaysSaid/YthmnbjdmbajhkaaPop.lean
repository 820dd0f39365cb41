/-
  The contracts of the heap's Pop at an order of one thing.
-/
import Derived.Test.YthmnbjdmbajhkaaPutTwo
namespace Go.Proofs.Ythmnbjdmbajhkaa
set_option linter.unusedVariables false
open Go.RowKit

theorem setCell_id {w : World} {b o : Nat} {v : Value} (h : w.cell? ⟨b, o, none⟩ = some v) : w.setCell ⟨b, o, none⟩ v = w := by
  unfold World.cell? at h
  simp only at h
  obtain ⟨heap, tape, drawn, os, out⟩ := w
  unfold World.setCell
  simp only at h ⊢
  congr 1
  apply Array.ext_getElem?
  intro i
  rw [Array.getElem?_modify]
  by_cases e : b = i
  · subst e
    rw [if_pos rfl]
    cases hh : heap[b]? with
    | none => rfl
    | some ob =>
      rw [hh] at h
      cases ob <;> simp at h ⊢
      apply Array.ext_getElem?
      intro j
      by_cases ej : o = j
      · subst ej
        rw [Array.getElem?_setIfInBounds_self_of_lt (by exact (Array.getElem?_eq_some_iff.1 h).1), h]
      · rw [Array.getElem?_setIfInBounds_ne ej]
  · rw [if_neg e]

set_option maxHeartbeats 1000000 in
theorem swap00 (g t cap : Nat) (w : World) (hg : w.cell? ⟨g, 0, none⟩ = some (.pointer (some ⟨t, 0, none⟩))) (hgf : w.frozen? ⟨g, 0, none⟩ = false) (p4 : w.cell? ⟨t, 4, none⟩ = some (.int .i64 0)) (pf : w.frozen? ⟨t, 4, none⟩ = false) (hgt : g ≠ t) (hgl : g < w.heap.size) (htl : t < w.heap.size) :
    Calls Try.prog 50 #[.slice (some ⟨g, 0, none⟩) 1 cap, .int .i64 0, .int .i64 0] w fun e w' => e = .returned (.tuple #[]) ∧ ∃ n, w' = w.drewN n := by
  have hgt' : t ≠ g := hgt.symm
  have id1 := setCell_id hg
  have id2 := setCell_id p4
  go_enter Try.func50, Try.ntmps50
  go_wp2_with fail
  go_region_held3 (fun w' => w'.cell? ⟨g, 0, none⟩ = some (.pointer (some ⟨t, 0, none⟩))) (go_keep) (fail)
  all_goals
    go_wp2_with fail
    go_region_held3 (fun w' => w'.cell? ⟨g, 0, none⟩ = some (.pointer (some ⟨t, 0, none⟩))) (go_keep) (fail)
    all_goals
      go_wp2_with fail
      exact bodyPost_end (v := .tuple #[]) (by simp [results, Try.results50, go_sem]) rfl ⟨rfl, 2, rfl⟩
set_option maxHeartbeats 1000000 in
theorem down0 (x : Value) (w : World) : Calls Try.prog 30 #[x, .int .i64 0, .int .i64 0] w fun e w' => e = .returned (.bool false) ∧ w = w' := by
  go_enter Try.func30, Try.ntmps30
  go_wp2_with fail
  refine wp_loop_rounds 1 ?_
  rw [rounds_succ]
  go_wp2_with fail
  go_ret
  exact ⟨rfl, rfl⟩
set_option maxHeartbeats 1000000 in
theorem pop56 (p g t cap : Nat) (w : World) (hc : w.cell? ⟨p, 3, none⟩ = some (.slice (some ⟨g, 0, none⟩) 1 cap)) (hf : w.frozen? ⟨p, 3, none⟩ = false) (hg : w.cell? ⟨g, 0, none⟩ = some (.pointer (some ⟨t, 0, none⟩))) (tf : w.frozen? ⟨t, 4, none⟩ = false) (t4 : w.cell? ⟨t, 4, none⟩ = some (.int .i64 0)) (hpt : p ≠ t) :
    Calls Try.prog 56 #[.pointer (some ⟨p, 3, none⟩)] w fun e w' => e = .returned (.iface 57 (.pointer (some ⟨t, 0, none⟩))) ∧ w' = (w.setCell ⟨p, 3, none⟩ (.slice (some ⟨g, 0, none⟩) 0 cap)).setCell ⟨t, 4, none⟩ (.int .i64 (-1)) := by
  have hpt' : t ≠ p := hpt.symm
  go_enter Try.func56, Try.ntmps56
  go_wp2_with fail
  go_ret
  exact ⟨rfl, rfl⟩

set_option maxHeartbeats 1000000 in
theorem hpop_any (p g t cap : Nat) (w : World) (hc : w.cell? ⟨p, 3, none⟩ = some (.slice (some ⟨g, 0, none⟩) 1 cap)) (hf : w.frozen? ⟨p, 3, none⟩ = false) (hg : w.cell? ⟨g, 0, none⟩ = some (.pointer (some ⟨t, 0, none⟩))) (hgf : w.frozen? ⟨g, 0, none⟩ = false) (tf : w.frozen? ⟨t, 4, none⟩ = false) (t4 : w.cell? ⟨t, 4, none⟩ = some (.int .i64 0)) (hpt : p ≠ t) (hgt : g ≠ t) (hgl : g < w.heap.size) (htl : t < w.heap.size) :
    Calls Try.prog 29 #[.iface 62 (.pointer (some ⟨p, 3, none⟩))] w fun e w' => e = .returned (.iface 57 (.pointer (some ⟨t, 0, none⟩))) ∧ ∃ n, w' = ((w.drewN n).setCell ⟨p, 3, none⟩ (.slice (some ⟨g, 0, none⟩) 0 cap)).setCell ⟨t, 4, none⟩ (.int .i64 (-1)) := by
  have hl := meth_len ⟨p, 3, none⟩ w _ (load54 hc)
  have hs := meth_swap ⟨p, 3, none⟩ w _ (load54 hc)
  have HS := Lib.hid (swap00 g t cap w hg hgf t4 tf hgt hgl htl)
  have HP := Lib.hid (fun n => pop56 p g t cap (w.drewN n) hc hf hg tf t4 hpt)
  have hi := inv_pop
  clear hc hf hg hgf tf t4
  go_enter Try.func29, Try.ntmps29
  go_wp2_with fail
  refine (len_any _ _ _ _).mono ?_
  rintro e w1 ⟨rfl, rfl⟩
  go_wp2_with fail
  refine HS.out.mono ?_
  rintro e w1 ⟨rfl, n, rfl⟩
  go_wp2_with fail
  refine (down0 _ _).mono ?_
  rintro e w1 ⟨rfl, rfl⟩
  go_wp2_with fail
  refine (HP.out n).mono ?_
  rintro e w1 ⟨rfl, rfl⟩
  go_wp2_with fail
  go_ret
  exact ⟨rfl, n, rfl⟩
end Go.Proofs.Ythmnbjdmbajhkaa
