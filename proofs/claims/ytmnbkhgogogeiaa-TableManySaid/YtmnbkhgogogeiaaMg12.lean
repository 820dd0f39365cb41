/-
  Several texts of one proof, each in a section of its own: LogA, LogB.
-/
import Derived.Test.YtmnbkhgogogeiaaMg11
import Derived.Lib.MinMax
import Derived.Deep.AppendLies
import Derived.Deep.RegionLaw
import Derived.BigRegion
namespace Go.Proofs.Ytmnbkhgogogeiaa
section
set_option linter.unusedVariables false
open Go.RowKit

theorem shown_mem {S : List (List Nat)} {W : List (Nat × List Nat)} {a : Nat} (ha : a < S.length) : shown S W a ∈ S ∨ ∃ x ∈ W, shown S W a = x.2 := by
  unfold shown
  cases h : lastIdx W a with
  | none =>
    left
    simp [List.getD, ha]
  | some i =>
    right
    obtain ⟨hi, _⟩ := lastIdx_some h
    exact ⟨W[i], List.getElem_mem hi, by simp [hi]⟩
theorem shown_64 {S : List (List Nat)} {W : List (Nat × List Nat)} (h : Good S W) {a : Nat} (ha : a < S.length) : (shown S W a).length = 64 := by
  rcases shown_mem (W := W) ha with h1 | ⟨x, hx, e⟩
  · exact h.s64 _ h1
  · rw [e]; exact h.w64 x hx
theorem shown_256 {S : List (List Nat)} {W : List (Nat × List Nat)} (h : Good S W) {a : Nat} (ha : a < S.length) : ∀ n ∈ shown S W a, n < 256 := by
  rcases shown_mem (W := W) ha with h1 | ⟨x, hx, e⟩
  · exact h.s256 _ h1
  · rw [e]; exact h.w256 x hx
set_option maxRecDepth 100000 in
theorem write_any {B : Nat} {w0 w : World} {pl pd : Nat} {kv : Value} {S : List (List Nat)} {W : List (Nat × List Nat)} (hd : Held B w0 w pd kv S W 0 false) (hc : ∃ cs, w.heap[pl]? = some (.cells cs 91 (0, 0)) ∧ cs[0]? = some (.pointer (some ⟨pd, 0, none⟩)))
    (a : Nat) (ha : a < S.length) {g : Nat} {l : List Nat} (hr : Row8 w g l) (hl : l.length = 64) (h256 : ∀ n ∈ l, n < 256) (hwl : W.length < 1000000) (hB : B ≤ g) :
    Calls Try.prog 72 #[.pointer (some ⟨pl, 0, none⟩), .int .i64 (a : Nat), .slice (some ⟨g, 0, none⟩) 64 64] w fun e w' => e = .returned (.bool true) ∧ Held B w0 w' pd kv S (W ++ [(a, sealL l (shown S W a))]) 0 false ∧ QB g w w' := by
  obtain ⟨cs, hcs, hc0⟩ := hc
  have c0 := (cell_of_row w pl 0 _ _ _ hcs).trans hc0
  have hgood : Good S W := by obtain ⟨wv, mv, hdk, _⟩ := hd.dk; exact hdk.good
  have hsl : (shown S W a).length = 64 := shown_64 hgood ha
  have hs256 : ∀ n ∈ shown S W a, n < 256 := shown_256 hgood ha
  have HH := Lib.hid hd
  have HR := Lib.hid hr
  have HRD := Lib.hid (read_held hd a ha)
  have HS := Lib.hid hsl
  have HS2 := Lib.hid hs256
  have H256 := Lib.hid h256
  have HCS := Lib.hid hcs
  clear hd hr hgood hsl hs256 h256
  go_enter Try.func72, Try.ntmps72
  go_wp2_with fail
  refine HRD.out.mono ?_
  rintro e w1 ⟨o, rfl, ho, hb1⟩
  have hrow : RowB w1 o (shown S W a) := ho.rowB HS2.out
  have hr1 : Row8 w1 g l := HR.out.beside (own := fun _ => False) ⟨hb1.os, hb1.tape, hb1.output, hb1.size, fun k hk _ => hb1.block k hk⟩ (fun h => h)
  have HE := Lib.hid (seal_any hr1 hl (Nat.le_refl _) hrow HS.out)
  obtain ⟨oa, oc, rfl⟩ := ho.shape
  have HB1 := Lib.hid hb1
  have HD1 := Lib.hid (HH.out.below' hb1)
  have HR1 := Lib.hid hr1
  clear ho hrow hb1 hr1
  go_wp2_with fail
  refine HE.out.mono ?_
  rintro e w2 ⟨rfl, hr2, hb2⟩
  have hal : Alien w1 (.slice (some ⟨g, 0, none⟩) 64 64) := row8_alien HR1.out
  have hd2 := HD1.out.beside' (v := .slice (some ⟨g, 0, none⟩) 64 64) (hb2.mono (fun k _ e => by subst e; simp [Value.ownBlock])) hal (fun k hk => by
    obtain rfl : g = k := by simpa [Value.ownBlock] using hk
    exact hB)
  have hgl := HR1.out.lt
  have hq2 : QB g w w2 := (Below.qb (HB1.out.mono (Nat.le_of_lt HR.out.lt))).trans (hb2.qb (fun k hk => by omega))
  have HQ2 := Lib.hid hq2
  have HWR := Lib.hid (write_qb hd2 a ha _ _ (row8_rowB hr2 (by rw [sealL_length]; exact hl) (sealL_lt H256.out HS2.out)) (by rw [sealL_length]; exact hl) (row8_alien hr2) hwl g)
  have hpg : pl ≠ g := fun e => by
    have h1 := HCS.out
    have h2 := HR.out
    unfold Row8 at h2
    rw [e, h2] at h1
    simp at h1
  have c1 : w2.cell? ⟨pl, 0, none⟩ = some (.pointer (some ⟨pd, 0, none⟩)) := by
    have h1 : w2.heap[pl]? = some (.cells cs 91 (0, 0)) := by
      rw [hb2.block pl (Nat.lt_of_lt_of_le (lt_of_block HCS.out) HB1.out.size) hpg, HB1.out.block pl (lt_of_block HCS.out), HCS.out]
    exact (cell_of_row w2 pl 0 _ _ _ h1).trans hc0
  clear hr2 hb2 hal hd2 hq2 hgl hpg c0
  go_wp2_with fail
  refine HWR.out.mono ?_
  rintro e w3 ⟨rfl, hd3, hq3⟩
  go_wp2_with fail
  go_ret
  exact ⟨rfl, hd3, HQ2.out.trans hq3⟩
end
section
set_option linter.unusedVariables false
open Go.RowKit

theorem none_ok {w : World} {pl pd : Nat} {ev : Value} {s : LgS} {down : Bool} (h : LgV w pl (.pointer (some ⟨pd, 0, none⟩)) ev s down) :
    Calls Try.prog 60 #[.pointer (some ⟨pl, 0, none⟩)] w fun e w' => e = .returned (.bool false) ∧ w = w' := by
  have c0 := h.cells.1
  go_enter Try.func60, Try.ntmps60
  go_wp2_with fail
  go_ret
  exact ⟨rfl, rfl⟩
theorem none_nil (w : World) : Calls Try.prog 60 #[.pointer none] w fun e w' => e = .returned (.bool true) ∧ w = w' := by
  go_enter Try.func60, Try.ntmps60
  go_wp2_with fail
  go_ret
  exact ⟨rfl, rfl⟩
def cellsN (n : Nat) : Nat := max 1 ((n + 39) / 40)
theorem cells_any (n : Nat) (hn : n ≤ 65536) (w : World) : Calls Try.prog 91 #[.int .i64 (n : Nat)] w fun e w' => e = .returned (.int .i64 (cellsN n : Nat)) ∧ w = w' := by
  have h1 : (n : Int) + 40 - 1 = ((n + 39 : Nat) : Int) := by omega
  obtain ⟨q, hq⟩ : ∃ q, (n + 39) / 40 = q := ⟨_, rfl⟩
  have h2 : ((n : Int) + 40 - 1).tdiv 40 = (q : Int) := by rw [h1, Int.tdiv_eq_ediv_of_nonneg (by omega)]; omega
  have h3 : max 1 (q : Int) = (cellsN n : Int) := by unfold cellsN; rw [hq]; omega
  have hqb : q ≤ 2000 := by omega
  have h4 : wrap64 (q : Int) = (q : Int) := by unfold wrap64; omega
  clear h1 hq
  generalize cellsN n = c at *
  go_enter Try.func91, Try.ntmps91
  go_wp2_with fail
  go_ret
  exact ⟨rfl, rfl⟩
theorem first_ok {w : World} {pl : Nat} {d ev : Value} {s : LgS} {down : Bool} (h : LgV w pl d ev s down) :
    Calls Try.prog 43 #[.pointer (some ⟨pl, 0, none⟩)] w fun e w' => e = .returned (.int .u64 (s.first : Nat)) ∧ w = w' := by
  obtain ⟨c0, c1, c2, c3, c4, c5, c6, c7, c8, c9, c10, c11⟩ := h.cells
  go_enter Try.func43, Try.ntmps43
  go_wp2_with fail
  go_ret
  exact ⟨rfl, rfl⟩
theorem first_nil (w : World) : Calls Try.prog 43 #[.pointer none] w fun e w' => e = .returned (.int .u64 0) ∧ w = w' := by
  go_enter Try.func43, Try.ntmps43
  go_wp2_with fail
  go_ret
  exact ⟨rfl, rfl⟩
theorem next_nil (w : World) : Calls Try.prog 42 #[.pointer none] w fun e w' => e = .returned (.int .u64 0) ∧ w = w' := by
  go_enter Try.func42, Try.ntmps42
  go_wp2_with fail
  go_ret
  exact ⟨rfl, rfl⟩
theorem next_ok {w : World} {pl B : Nat} {d ev : Value} {s : LgS} {down : Bool} {L : List (Ent × Value)} (h : LgV w pl d ev s down) (he : EntR w B ev L) (hL : L.length ≤ 1000000) (hf : s.first ≤ 1000000000000) :
    Calls Try.prog 42 #[.pointer (some ⟨pl, 0, none⟩)] w fun e w' => e = .returned (.int .u64 (s.first + L.length : Nat)) ∧ w.drew = w' := by
  obtain ⟨c0, c1, c2, c3, c4, c5, c6, c7, c8, c9, c10, c11⟩ := h.cells
  obtain ⟨ea, ec, rfl⟩ := own_shape he.row
  have e2 : ((s.first + L.length : Nat) : Int) = (s.first : Int) + (L.length : Int) := by omega
  rw [e2]
  clear e2 he h
  generalize L.length = n at *
  go_enter Try.func42, Try.ntmps42
  go_wp2_with go_region
  go_ret
  exact ⟨rfl, rfl⟩

theorem bclone_any (v : Value) (l : List Nat) (w : World) (hr : RowB w v l) (hs : l.length ≤ 140737488351232) : Calls Try.prog 37 #[v] w fun e w' => ∃ o, e = .returned o ∧ OwnB w' w.heap.size o l ∧ Below w.heap.size w w' := by
  obtain ⟨i0, hi, hz0, hz1, hz2⟩ := info_parts Try.info5
  obtain ⟨a, len, cap, rfl, hl, hc, hm, hw, hn, hcell⟩ := hr
  cases a with
  | none =>
    obtain ⟨rfl, rfl⟩ := hn rfl
    obtain rfl : l = [] := List.eq_nil_of_length_eq_zero hl
    have he := Lib.run_eql_slice_nil (P := Try.prog)
    go_enter Try.func37, Try.ntmps37
    go_wp2_with fail
    go_ret
    exact ⟨_, rfl, World.ownsRow_nil _ _ _ _, Below.refl _ _⟩
  | some x =>
    have he := fun (w : World) => Lib.run_eql_slice_nil (P := Try.prog) w 23 5 (some x) len cap 0 0 Try.underlying23
    have hown0 := World.ownsRow_lit (base := w.heap.size) (e := 5) (size := 1) w #[] 0 (Nat.le_refl _) (by decide) rfl
    have hnews : ∀ j u, (u8s l)[j]? = some u → (w.alloc (.cells #[] 5)).cell? (x.add j) = some u := by
      intro j u hj
      have hjl : j < l.length := by have := (List.getElem?_eq_some_iff.1 hj).1; simpa using this
      rw [u8s_get l j hjl] at hj
      cases hj
      have hx := hcell x rfl j hjl
      rw [Below.cell ((Below.refl w.heap.size w).alloc (Nat.le_refl _) _) (World.block_lt_of_cell? w _ hx)]
      exact hx
    have one : ∀ u ∈ u8s l, u.oneCell' = true := by
      intro u hu
      obtain ⟨_, _, rfl⟩ := List.mem_map.1 hu
      rfl
    have Hcell := Lib.hid hcell
    have Hl := Lib.hid hl
    have Hnews := Lib.hid hnews
    have hsl : len ≤ 140737488351232 := by omega
    clear hcell hl hnews hs
    go_enter Try.func37, Try.ntmps37
    go_wp2_with (at_builtin; go_loud (refine wpList_append_own _ rfl (.tmp 5) (.tmp 6) 23 rfl (w.heap.size) 5 i0 (.int .u8 0) 1 1 Try.underlying23 hi hz0 hz1 hz2 rfl (by decide) _ _ _ rfl hown0 x len cap (u8s l) rfl (by rw [u8s_length, Hl.out]; simp) Hnews.out one (by simp [maxLen]; omega) (by simp; omega) (by simp) ?_))
    intro o w1 ho hgr _
    go_wp2_with fail
    go_ret
    refine ⟨_, rfl, ?_, ?_⟩
    · unfold OwnB
      rw [Hl.out]
      simpa using ho
    · exact ((Below.refl _ _).alloc (Nat.le_refl _) _).grown hgr (by simp) (by intro k hk; simp [Value.ownBlock] at hk; omega)
theorem LgV.ne {w : World} {pl g : Nat} {d ev : Value} {s : LgS} {down : Bool} (h : LgV w pl d ev s down) {cs : Array Value} {t : TypeId} {fr : Nat × Nat} (hg : w.heap[g]? = some (.cells cs t fr)) (ht : t ≠ 91) : pl ≠ g := by
  rintro rfl
  unfold LgV at h
  rw [h] at hg
  simp at hg
  exact ht hg.2.1.symm
theorem LgV.set6 {w : World} {pl : Nat} {d ev : Value} {s : LgS} {down : Bool} (h : LgV w pl d ev s down) (v : Value) : LgV (w.setCell ⟨pl, 6, none⟩ v) pl d v s down := by
  unfold LgV at h ⊢
  rw [heap_setCell_same w pl 6 _ 91 _ h]
  rfl
theorem LgV.set7 {w : World} {pl : Nat} {d ev : Value} {s : LgS} {down : Bool} (h : LgV w pl d ev s down) (n : Nat) : LgV (w.setCell ⟨pl, 7, none⟩ (.int .i64 (n : Nat))) pl d ev { s with place := n } down := by
  unfold LgV at h ⊢
  rw [heap_setCell_same w pl 7 _ 91 _ h]
  rfl
theorem LgV.set8 {w : World} {pl : Nat} {d ev : Value} {s : LgS} {down : Bool} (h : LgV w pl d ev s down) (n : Nat) : LgV (w.setCell ⟨pl, 8, none⟩ (.int .i64 (n : Nat))) pl d ev { s with used := n } down := by
  unfold LgV at h ⊢
  rw [heap_setCell_same w pl 8 _ 91 _ h]
  rfl
theorem LgV.set9 {w : World} {pl : Nat} {d ev : Value} {s : LgS} {down : Bool} (h : LgV w pl d ev s down) (n : Nat) : LgV (w.setCell ⟨pl, 9, none⟩ (.int .u64 (n : Nat))) pl d ev { s with last := n } down := by
  unfold LgV at h ⊢
  rw [heap_setCell_same w pl 9 _ 91 _ h]
  rfl
theorem LgV.set10 {w : World} {pl : Nat} {d ev : Value} {s : LgS} {down : Bool} (h : LgV w pl d ev s down) (n : Nat) : LgV (w.setCell ⟨pl, 10, none⟩ (.int .u64 (n : Nat))) pl d ev { s with number := n } down := by
  unfold LgV at h ⊢
  rw [heap_setCell_same w pl 10 _ 91 _ h]
  rfl
theorem LgV.beside {w w' : World} {pl : Nat} {d ev : Value} {s : LgS} {down : Bool} {own : Nat → Prop} (h : LgV w pl d ev s down) (hb : Beside own w w') (hn : ¬ own pl) : LgV w' pl d ev s down := by
  have hl := lt_of_block h
  unfold LgV at h ⊢
  rw [hb.block pl hl hn, h]
theorem LgV.drew {w : World} {pl : Nat} {d ev : Value} {s : LgS} {down : Bool} (h : LgV w pl d ev s down) : LgV w.drew pl d ev s down := h

theorem Try.info98 : (Try.prog.info? 98).map (fun i => (i.zero, i.size, i.bytes)) = some (some (.agg #[.int .i64 0, .int .u64 0, .int .i64 0, .slice none 0 0]), 4, 48) := by kernel_rfl
theorem ecells_one (L : List (Ent × Value)) (h : ∀ x ∈ L, x.2.oneCell' = true) : ∀ u ∈ ecells L, u.oneCell' = true := by
  intro u hu
  obtain ⟨x, hx, hu⟩ := List.mem_flatMap.1 hu
  simp [ecell] at hu
  rcases hu with rfl | rfl | rfl | rfl
  · rfl
  · rfl
  · rfl
  · exact h x hx
end
end Go.Proofs.Ytmnbkhgogogeiaa
