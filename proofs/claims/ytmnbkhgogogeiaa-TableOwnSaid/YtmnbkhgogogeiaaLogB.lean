/-
  A log's small calls: none, cells, clone, take.
-/
import Derived.Test.YtmnbkhgogogeiaaLogA
import Derived.Deep.AppendLies
import Derived.Deep.RegionLaw
import Derived.BigRegion
namespace Go.Proofs.Ytmnbkhgogogeiaa
set_option linter.unusedVariables false
open Go.RowKit

theorem none_ok {w : World} {pl pd : Nat} {ev : Value} {s : LgS} {down : Bool} (h : LgV w pl (.pointer (some ⟨pd, 0, none⟩)) ev s down) :
    Calls Try.prog 60 #[.pointer (some ⟨pl, 0, none⟩)] w fun e w' => e = .returned (.bool false) ∧ w = w' := by
  have c0 := h.cells.1
  go_enter Try.func60, Try.ntmps60
  go_wp2_with fail
  go_ret
  exact ⟨rfl, rfl⟩
theorem none_nil (w : World) : Calls Try.prog 60 #[.pointer none] w fun e w' => e = .returned (.bool true) ∧ w = w' := by
  go_enter Try.func60, Try.ntmps60
  go_wp2_with fail
  go_ret
  exact ⟨rfl, rfl⟩
def cellsN (n : Nat) : Nat := max 1 ((n + 39) / 40)
theorem cells_any (n : Nat) (hn : n ≤ 65536) (w : World) : Calls Try.prog 91 #[.int .i64 (n : Nat)] w fun e w' => e = .returned (.int .i64 (cellsN n : Nat)) ∧ w = w' := by
  have h1 : (n : Int) + 40 - 1 = ((n + 39 : Nat) : Int) := by omega
  obtain ⟨q, hq⟩ : ∃ q, (n + 39) / 40 = q := ⟨_, rfl⟩
  have h2 : ((n : Int) + 40 - 1).tdiv 40 = (q : Int) := by rw [h1, Int.tdiv_eq_ediv_of_nonneg (by omega)]; omega
  have h3 : max 1 (q : Int) = (cellsN n : Int) := by unfold cellsN; rw [hq]; omega
  have hqb : q ≤ 2000 := by omega
  have h4 : wrap64 (q : Int) = (q : Int) := by unfold wrap64; omega
  clear h1 hq
  generalize cellsN n = c at *
  go_enter Try.func91, Try.ntmps91
  go_wp2_with fail
  go_ret
  exact ⟨rfl, rfl⟩
theorem first_ok {w : World} {pl : Nat} {d ev : Value} {s : LgS} {down : Bool} (h : LgV w pl d ev s down) :
    Calls Try.prog 43 #[.pointer (some ⟨pl, 0, none⟩)] w fun e w' => e = .returned (.int .u64 (s.first : Nat)) ∧ w = w' := by
  obtain ⟨c0, c1, c2, c3, c4, c5, c6, c7, c8, c9, c10, c11⟩ := h.cells
  go_enter Try.func43, Try.ntmps43
  go_wp2_with fail
  go_ret
  exact ⟨rfl, rfl⟩
theorem first_nil (w : World) : Calls Try.prog 43 #[.pointer none] w fun e w' => e = .returned (.int .u64 0) ∧ w = w' := by
  go_enter Try.func43, Try.ntmps43
  go_wp2_with fail
  go_ret
  exact ⟨rfl, rfl⟩
theorem next_nil (w : World) : Calls Try.prog 42 #[.pointer none] w fun e w' => e = .returned (.int .u64 0) ∧ w = w' := by
  go_enter Try.func42, Try.ntmps42
  go_wp2_with fail
  go_ret
  exact ⟨rfl, rfl⟩
theorem next_ok {w : World} {pl B : Nat} {d ev : Value} {s : LgS} {down : Bool} {L : List (Ent × Value)} (h : LgV w pl d ev s down) (he : EntR w B ev L) (hL : L.length ≤ 1000000) (hf : s.first ≤ 1000000000000) :
    Calls Try.prog 42 #[.pointer (some ⟨pl, 0, none⟩)] w fun e w' => e = .returned (.int .u64 (s.first + L.length : Nat)) ∧ w.drew = w' := by
  obtain ⟨c0, c1, c2, c3, c4, c5, c6, c7, c8, c9, c10, c11⟩ := h.cells
  obtain ⟨ea, ec, rfl⟩ := own_shape he.row
  have e2 : ((s.first + L.length : Nat) : Int) = (s.first : Int) + (L.length : Int) := by omega
  rw [e2]
  clear e2 he h
  generalize L.length = n at *
  go_enter Try.func42, Try.ntmps42
  go_wp2_with go_region
  go_ret
  exact ⟨rfl, rfl⟩

theorem bclone_any (v : Value) (l : List Nat) (w : World) (hr : RowB w v l) (hs : l.length ≤ 140737488351232) : Calls Try.prog 37 #[v] w fun e w' => ∃ o, e = .returned o ∧ OwnB w' w.heap.size o l ∧ Below w.heap.size w w' := by
  obtain ⟨i0, hi, hz0, hz1, hz2⟩ := info_parts Try.info5
  obtain ⟨a, len, cap, rfl, hl, hc, hm, hw, hn, hcell⟩ := hr
  cases a with
  | none =>
    obtain ⟨rfl, rfl⟩ := hn rfl
    obtain rfl : l = [] := List.eq_nil_of_length_eq_zero hl
    have he := Lib.run_eql_slice_nil (P := Try.prog)
    go_enter Try.func37, Try.ntmps37
    go_wp2_with fail
    go_ret
    exact ⟨_, rfl, World.ownsRow_nil _ _ _ _, Below.refl _ _⟩
  | some x =>
    have he := fun (w : World) => Lib.run_eql_slice_nil (P := Try.prog) w 23 5 (some x) len cap 0 0 Try.underlying23
    have hown0 := World.ownsRow_lit (base := w.heap.size) (e := 5) (size := 1) w #[] 0 (Nat.le_refl _) (by decide) rfl
    have hnews : ∀ j u, (u8s l)[j]? = some u → (w.alloc (.cells #[] 5)).cell? (x.add j) = some u := by
      intro j u hj
      have hjl : j < l.length := by have := (List.getElem?_eq_some_iff.1 hj).1; simpa using this
      rw [u8s_get l j hjl] at hj
      cases hj
      have hx := hcell x rfl j hjl
      rw [Below.cell ((Below.refl w.heap.size w).alloc (Nat.le_refl _) _) (World.block_lt_of_cell? w _ hx)]
      exact hx
    have one : ∀ u ∈ u8s l, u.oneCell' = true := by
      intro u hu
      obtain ⟨_, _, rfl⟩ := List.mem_map.1 hu
      rfl
    have Hcell := Lib.hid hcell
    have Hl := Lib.hid hl
    have Hnews := Lib.hid hnews
    have hsl : len ≤ 140737488351232 := by omega
    clear hcell hl hnews hs
    go_enter Try.func37, Try.ntmps37
    go_wp2_with (at_builtin; go_loud (refine wpList_append_own _ rfl (.tmp 5) (.tmp 6) 23 rfl (w.heap.size) 5 i0 (.int .u8 0) 1 1 Try.underlying23 hi hz0 hz1 hz2 rfl (by decide) _ _ _ rfl hown0 x len cap (u8s l) rfl (by rw [u8s_length, Hl.out]; simp) Hnews.out one (by simp [maxLen]; omega) (by simp; omega) (by simp) ?_))
    intro o w1 ho hgr _
    go_wp2_with fail
    go_ret
    refine ⟨_, rfl, ?_, ?_⟩
    · unfold OwnB
      rw [Hl.out]
      simpa using ho
    · exact ((Below.refl _ _).alloc (Nat.le_refl _) _).grown hgr (by simp) (by intro k hk; simp [Value.ownBlock] at hk; omega)
theorem LgV.ne {w : World} {pl g : Nat} {d ev : Value} {s : LgS} {down : Bool} (h : LgV w pl d ev s down) {cs : Array Value} {t : TypeId} {fr : Nat × Nat} (hg : w.heap[g]? = some (.cells cs t fr)) (ht : t ≠ 91) : pl ≠ g := by
  rintro rfl
  unfold LgV at h
  rw [h] at hg
  simp at hg
  exact ht hg.2.1.symm
theorem LgV.set6 {w : World} {pl : Nat} {d ev : Value} {s : LgS} {down : Bool} (h : LgV w pl d ev s down) (v : Value) : LgV (w.setCell ⟨pl, 6, none⟩ v) pl d v s down := by
  unfold LgV at h ⊢
  rw [heap_setCell_same w pl 6 _ 91 _ h]
  rfl
theorem LgV.set7 {w : World} {pl : Nat} {d ev : Value} {s : LgS} {down : Bool} (h : LgV w pl d ev s down) (n : Nat) : LgV (w.setCell ⟨pl, 7, none⟩ (.int .i64 (n : Nat))) pl d ev { s with place := n } down := by
  unfold LgV at h ⊢
  rw [heap_setCell_same w pl 7 _ 91 _ h]
  rfl
theorem LgV.set8 {w : World} {pl : Nat} {d ev : Value} {s : LgS} {down : Bool} (h : LgV w pl d ev s down) (n : Nat) : LgV (w.setCell ⟨pl, 8, none⟩ (.int .i64 (n : Nat))) pl d ev { s with used := n } down := by
  unfold LgV at h ⊢
  rw [heap_setCell_same w pl 8 _ 91 _ h]
  rfl
theorem LgV.set9 {w : World} {pl : Nat} {d ev : Value} {s : LgS} {down : Bool} (h : LgV w pl d ev s down) (n : Nat) : LgV (w.setCell ⟨pl, 9, none⟩ (.int .u64 (n : Nat))) pl d ev { s with last := n } down := by
  unfold LgV at h ⊢
  rw [heap_setCell_same w pl 9 _ 91 _ h]
  rfl
theorem LgV.set10 {w : World} {pl : Nat} {d ev : Value} {s : LgS} {down : Bool} (h : LgV w pl d ev s down) (n : Nat) : LgV (w.setCell ⟨pl, 10, none⟩ (.int .u64 (n : Nat))) pl d ev { s with number := n } down := by
  unfold LgV at h ⊢
  rw [heap_setCell_same w pl 10 _ 91 _ h]
  rfl
theorem LgV.beside {w w' : World} {pl : Nat} {d ev : Value} {s : LgS} {down : Bool} {own : Nat → Prop} (h : LgV w pl d ev s down) (hb : Beside own w w') (hn : ¬ own pl) : LgV w' pl d ev s down := by
  have hl := lt_of_block h
  unfold LgV at h ⊢
  rw [hb.block pl hl hn, h]
theorem LgV.drew {w : World} {pl : Nat} {d ev : Value} {s : LgS} {down : Bool} (h : LgV w pl d ev s down) : LgV w.drew pl d ev s down := h

theorem Try.info98 : (Try.prog.info? 98).map (fun i => (i.zero, i.size, i.bytes)) = some (some (.agg #[.int .i64 0, .int .u64 0, .int .i64 0, .slice none 0 0]), 4, 48) := by kernel_rfl
theorem ecells_one (L : List (Ent × Value)) (h : ∀ x ∈ L, x.2.oneCell' = true) : ∀ u ∈ ecells L, u.oneCell' = true := by
  intro u hu
  obtain ⟨x, hx, hu⟩ := List.mem_flatMap.1 hu
  simp [ecell] at hu
  rcases hu with rfl | rfl | rfl | rfl
  · rfl
  · rfl
  · rfl
  · exact h x hx
end Go.Proofs.Ytmnbkhgogogeiaa
