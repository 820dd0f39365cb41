/-
  Several texts of one proof, each in a section of its own: LogB, Take.
-/
import Derived.Test.YtmnbkhgogogeiaaRg9
import Derived.Deep.AppendLies
import Derived.Deep.RegionLaw
import Derived.BigRegion
import Derived.Deep.CutBlock
import Derived.Deep.CutRange
import Derived.Deep.DeepCutAuto
namespace Go.Proofs.Ytmnbkhgogogeiaa
section
set_option linter.unusedVariables false
open Go.RowKit

theorem none_ok {w : World} {pl pd : Nat} {ev : Value} {s : LgS} {down : Bool} (h : LgV w pl (.pointer (some ⟨pd, 0, none⟩)) ev s down) :
    Calls Try.prog 60 #[.pointer (some ⟨pl, 0, none⟩)] w fun e w' => e = .returned (.bool false) ∧ w = w' := by
  have c0 := h.cells.1
  go_enter Try.func60, Try.ntmps60
  go_wp2_with fail
  go_ret
  exact ⟨rfl, rfl⟩
theorem none_nil (w : World) : Calls Try.prog 60 #[.pointer none] w fun e w' => e = .returned (.bool true) ∧ w = w' := by
  go_enter Try.func60, Try.ntmps60
  go_wp2_with fail
  go_ret
  exact ⟨rfl, rfl⟩
def cellsN (n : Nat) : Nat := max 1 ((n + 39) / 40)
theorem cells_any (n : Nat) (hn : n ≤ 65536) (w : World) : Calls Try.prog 91 #[.int .i64 (n : Nat)] w fun e w' => e = .returned (.int .i64 (cellsN n : Nat)) ∧ w = w' := by
  have h1 : (n : Int) + 40 - 1 = ((n + 39 : Nat) : Int) := by omega
  obtain ⟨q, hq⟩ : ∃ q, (n + 39) / 40 = q := ⟨_, rfl⟩
  have h2 : ((n : Int) + 40 - 1).tdiv 40 = (q : Int) := by rw [h1, Int.tdiv_eq_ediv_of_nonneg (by omega)]; omega
  have h3 : max 1 (q : Int) = (cellsN n : Int) := by unfold cellsN; rw [hq]; omega
  have hqb : q ≤ 2000 := by omega
  have h4 : wrap64 (q : Int) = (q : Int) := by unfold wrap64; omega
  clear h1 hq
  generalize cellsN n = c at *
  go_enter Try.func91, Try.ntmps91
  go_wp2_with fail
  go_ret
  exact ⟨rfl, rfl⟩
theorem first_ok {w : World} {pl : Nat} {d ev : Value} {s : LgS} {down : Bool} (h : LgV w pl d ev s down) :
    Calls Try.prog 43 #[.pointer (some ⟨pl, 0, none⟩)] w fun e w' => e = .returned (.int .u64 (s.first : Nat)) ∧ w = w' := by
  obtain ⟨c0, c1, c2, c3, c4, c5, c6, c7, c8, c9, c10, c11⟩ := h.cells
  go_enter Try.func43, Try.ntmps43
  go_wp2_with fail
  go_ret
  exact ⟨rfl, rfl⟩
theorem first_nil (w : World) : Calls Try.prog 43 #[.pointer none] w fun e w' => e = .returned (.int .u64 0) ∧ w = w' := by
  go_enter Try.func43, Try.ntmps43
  go_wp2_with fail
  go_ret
  exact ⟨rfl, rfl⟩
theorem next_nil (w : World) : Calls Try.prog 42 #[.pointer none] w fun e w' => e = .returned (.int .u64 0) ∧ w = w' := by
  go_enter Try.func42, Try.ntmps42
  go_wp2_with fail
  go_ret
  exact ⟨rfl, rfl⟩
theorem next_ok {w : World} {pl B : Nat} {d ev : Value} {s : LgS} {down : Bool} {L : List (Ent × Value)} (h : LgV w pl d ev s down) (he : EntR w B ev L) (hL : L.length ≤ 1000000) (hf : s.first ≤ 1000000000000) :
    Calls Try.prog 42 #[.pointer (some ⟨pl, 0, none⟩)] w fun e w' => e = .returned (.int .u64 (s.first + L.length : Nat)) ∧ w.drew = w' := by
  obtain ⟨c0, c1, c2, c3, c4, c5, c6, c7, c8, c9, c10, c11⟩ := h.cells
  obtain ⟨ea, ec, rfl⟩ := own_shape he.row
  have e2 : ((s.first + L.length : Nat) : Int) = (s.first : Int) + (L.length : Int) := by omega
  rw [e2]
  clear e2 he h
  generalize L.length = n at *
  go_enter Try.func42, Try.ntmps42
  go_wp2_with go_region
  go_ret
  exact ⟨rfl, rfl⟩

theorem bclone_any (v : Value) (l : List Nat) (w : World) (hr : RowB w v l) (hs : l.length ≤ 140737488351232) : Calls Try.prog 37 #[v] w fun e w' => ∃ o, e = .returned o ∧ OwnB w' w.heap.size o l ∧ Below w.heap.size w w' := by
  obtain ⟨i0, hi, hz0, hz1, hz2⟩ := info_parts Try.info5
  obtain ⟨a, len, cap, rfl, hl, hc, hm, hw, hn, hcell⟩ := hr
  cases a with
  | none =>
    obtain ⟨rfl, rfl⟩ := hn rfl
    obtain rfl : l = [] := List.eq_nil_of_length_eq_zero hl
    have he := Lib.run_eql_slice_nil (P := Try.prog)
    go_enter Try.func37, Try.ntmps37
    go_wp2_with fail
    go_ret
    exact ⟨_, rfl, World.ownsRow_nil _ _ _ _, Below.refl _ _⟩
  | some x =>
    have he := fun (w : World) => Lib.run_eql_slice_nil (P := Try.prog) w 23 5 (some x) len cap 0 0 Try.underlying23
    have hown0 := World.ownsRow_lit (base := w.heap.size) (e := 5) (size := 1) w #[] 0 (Nat.le_refl _) (by decide) rfl
    have hnews : ∀ j u, (u8s l)[j]? = some u → (w.alloc (.cells #[] 5)).cell? (x.add j) = some u := by
      intro j u hj
      have hjl : j < l.length := by have := (List.getElem?_eq_some_iff.1 hj).1; simpa using this
      rw [u8s_get l j hjl] at hj
      cases hj
      have hx := hcell x rfl j hjl
      rw [Below.cell ((Below.refl w.heap.size w).alloc (Nat.le_refl _) _) (World.block_lt_of_cell? w _ hx)]
      exact hx
    have one : ∀ u ∈ u8s l, u.oneCell' = true := by
      intro u hu
      obtain ⟨_, _, rfl⟩ := List.mem_map.1 hu
      rfl
    have Hcell := Lib.hid hcell
    have Hl := Lib.hid hl
    have Hnews := Lib.hid hnews
    have hsl : len ≤ 140737488351232 := by omega
    clear hcell hl hnews hs
    go_enter Try.func37, Try.ntmps37
    go_wp2_with (at_builtin; go_loud (refine wpList_append_own _ rfl (.tmp 5) (.tmp 6) 23 rfl (w.heap.size) 5 i0 (.int .u8 0) 1 1 Try.underlying23 hi hz0 hz1 hz2 rfl (by decide) _ _ _ rfl hown0 x len cap (u8s l) rfl (by rw [u8s_length, Hl.out]; simp) Hnews.out one (by simp [maxLen]; omega) (by simp; omega) (by simp) ?_))
    intro o w1 ho hgr _
    go_wp2_with fail
    go_ret
    refine ⟨_, rfl, ?_, ?_⟩
    · unfold OwnB
      rw [Hl.out]
      simpa using ho
    · exact ((Below.refl _ _).alloc (Nat.le_refl _) _).grown hgr (by simp) (by intro k hk; simp [Value.ownBlock] at hk; omega)
theorem LgV.ne {w : World} {pl g : Nat} {d ev : Value} {s : LgS} {down : Bool} (h : LgV w pl d ev s down) {cs : Array Value} {t : TypeId} {fr : Nat × Nat} (hg : w.heap[g]? = some (.cells cs t fr)) (ht : t ≠ 91) : pl ≠ g := by
  rintro rfl
  unfold LgV at h
  rw [h] at hg
  simp at hg
  exact ht hg.2.1.symm
theorem LgV.set6 {w : World} {pl : Nat} {d ev : Value} {s : LgS} {down : Bool} (h : LgV w pl d ev s down) (v : Value) : LgV (w.setCell ⟨pl, 6, none⟩ v) pl d v s down := by
  unfold LgV at h ⊢
  rw [heap_setCell_same w pl 6 _ 91 _ h]
  rfl
theorem LgV.set7 {w : World} {pl : Nat} {d ev : Value} {s : LgS} {down : Bool} (h : LgV w pl d ev s down) (n : Nat) : LgV (w.setCell ⟨pl, 7, none⟩ (.int .i64 (n : Nat))) pl d ev { s with place := n } down := by
  unfold LgV at h ⊢
  rw [heap_setCell_same w pl 7 _ 91 _ h]
  rfl
theorem LgV.set8 {w : World} {pl : Nat} {d ev : Value} {s : LgS} {down : Bool} (h : LgV w pl d ev s down) (n : Nat) : LgV (w.setCell ⟨pl, 8, none⟩ (.int .i64 (n : Nat))) pl d ev { s with used := n } down := by
  unfold LgV at h ⊢
  rw [heap_setCell_same w pl 8 _ 91 _ h]
  rfl
theorem LgV.set9 {w : World} {pl : Nat} {d ev : Value} {s : LgS} {down : Bool} (h : LgV w pl d ev s down) (n : Nat) : LgV (w.setCell ⟨pl, 9, none⟩ (.int .u64 (n : Nat))) pl d ev { s with last := n } down := by
  unfold LgV at h ⊢
  rw [heap_setCell_same w pl 9 _ 91 _ h]
  rfl
theorem LgV.set10 {w : World} {pl : Nat} {d ev : Value} {s : LgS} {down : Bool} (h : LgV w pl d ev s down) (n : Nat) : LgV (w.setCell ⟨pl, 10, none⟩ (.int .u64 (n : Nat))) pl d ev { s with number := n } down := by
  unfold LgV at h ⊢
  rw [heap_setCell_same w pl 10 _ 91 _ h]
  rfl
theorem LgV.beside {w w' : World} {pl : Nat} {d ev : Value} {s : LgS} {down : Bool} {own : Nat → Prop} (h : LgV w pl d ev s down) (hb : Beside own w w') (hn : ¬ own pl) : LgV w' pl d ev s down := by
  have hl := lt_of_block h
  unfold LgV at h ⊢
  rw [hb.block pl hl hn, h]
theorem LgV.drew {w : World} {pl : Nat} {d ev : Value} {s : LgS} {down : Bool} (h : LgV w pl d ev s down) : LgV w.drew pl d ev s down := h

theorem Try.info98 : (Try.prog.info? 98).map (fun i => (i.zero, i.size, i.bytes)) = some (some (.agg #[.int .i64 0, .int .u64 0, .int .i64 0, .slice none 0 0]), 4, 48) := by kernel_rfl
theorem ecells_one (L : List (Ent × Value)) (h : ∀ x ∈ L, x.2.oneCell' = true) : ∀ u ∈ ecells L, u.oneCell' = true := by
  intro u hu
  obtain ⟨x, hx, hu⟩ := List.mem_flatMap.1 hu
  simp [ecell] at hu
  rcases hu with rfl | rfl | rfl | rfl
  · rfl
  · rfl
  · rfl
  · exact h x hx
end
section
set_option linter.unusedVariables false
open Go.RowKit

/-- a row that lies, by other blocks -/
theorem ownsRow_qb {w w' : World} {B N : Nat} {t : TypeId} {sz : Nat} {v : Value} {n : Nat} {xs : List Value} (h : w.ownsRow B t sz v n xs) (hq : QB N w w') (hN : ∀ k, v.ownBlock = some k → k < N) (h1 : t ≠ 62) (h2 : t ≠ 143) (h3 : t ≠ 145) : w'.ownsRow B t sz v n xs := by
  refine ⟨h.1, ?_⟩
  rcases h.2 with h4 | ⟨g, cap, cur, rfl, hg, hh, r⟩
  · exact .inl h4
  · exact .inr ⟨g, cap, cur, rfl, hg, hq.keep g _ _ _ (hN g (by simp [Value.ownBlock])) hh h1 h2 h3, r⟩
theorem own_ne {w : World} {B C : Nat} {t u : TypeId} {sz zs : Nat} {v x : Value} {n m : Nat} {xs ys : List Value} (h : w.ownsRow B t sz v n xs) (h2 : w.ownsRow C u zs x m ys) (hn : t ≠ u) : ∀ k, v.ownBlock = some k → ∀ j, x.ownBlock = some j → k ≠ j := by
  intro k hk j hj e
  subst e
  rcases h.2 with ⟨rfl, _⟩ | ⟨g, cap, cur, rfl, _, hh, _⟩
  · cases hk
  · obtain rfl : g = k := by simpa [Value.ownBlock] using hk
    exact ownsRow_ne h2 hh hn _ hj rfl

theorem EntR.beside {w w' : World} {B : Nat} {ev : Value} {L : List (Ent × Value)} {own : Nat → Prop} (h : EntR w B ev L) (hb : Beside own w w') (hn : ∀ k, own k → ∀ cs t fr, w.heap[k]? = some (.cells cs t fr) → t ≠ 98 ∧ t ≠ 5) : EntR w' B ev L := by
  refine ⟨ownsRow_beside h.row hb (fun k hk ho => ?_), fun x hx => ownsRow_beside (h.own x hx) hb (fun k hk ho => ?_)⟩
  · rcases h.row.2 with ⟨e, _⟩ | ⟨g, cap, cur, e, _, hh, _⟩
    · rw [e] at hk; cases hk
    · rw [e] at hk
      obtain rfl : g = k := by simpa [Value.ownBlock] using hk
      exact (hn _ ho _ _ _ hh).1 rfl
  · rcases (h.own x hx).2 with ⟨e, _⟩ | ⟨g, cap, cur, e, _, hh, _⟩
    · rw [e] at hk; cases hk
    · rw [e] at hk
      obtain rfl : g = k := by simpa [Value.ownBlock] using hk
      exact (hn _ ho _ _ _ hh).2 rfl
theorem EntR.set {w : World} {B pl : Nat} {d e2 ev : Value} {s : LgS} {down : Bool} {L : List (Ent × Value)} (h : EntR w B ev L) (hl : LgV w pl d e2 s down) (j : Nat) (u : Value) : EntR (w.setCell ⟨pl, j, none⟩ u) B ev L :=
  h.beside (own := fun k => k = pl) ((Beside.refl (fun k => k = pl) w).setCell (p := ⟨pl, j, none⟩) (.inl rfl) u) (fun k hk cs t fr hh => by
    subst hk
    unfold LgV at hl
    rw [hl] at hh
    simp at hh
    rw [← hh.2.1]
    decide)
theorem EntR.drew {w : World} {B : Nat} {ev : Value} {L : List (Ent × Value)} (h : EntR w B ev L) : EntR w.drew B ev L := ⟨h.row, fun x hx => h.own x hx⟩
theorem EntR.grown {w w' : World} {B g cap n : Nat} {ev : Value} {L : List (Ent × Value)} {x : Ent} {v : Value} (h : EntR w B ev L) (hv : OwnB w B v x.data) (hg : w.grownBy w' ev.ownBlock) (hn : L.length = n)
    (ho : w'.ownsRow B 98 4 (.slice (some ⟨g, 0, none⟩) (n + 1) cap) (n + 1) (ecells L ++ [.int .i64 (x.place : Nat), .int .u64 (x.behind : Nat), .int .i64 (x.cells : Nat), v])) : EntR w' B (.slice (some ⟨g, 0, none⟩) (n + 1) cap) (L ++ [(x, v)]) := by
  subst hn
  have hb : Beside (fun k => ev.ownBlock = some k) w w' := ⟨hg.os, hg.tape, hg.output, hg.size, fun k hk hn => hg.block k hk (fun e => hn e.symm)⟩
  have hk : ∀ (y : Value) (l : List Nat), OwnB w B y l → OwnB w' B y l := fun y l hy => ownsRow_beside hy hb (fun k hk hn => own_ne h.row hy (by decide) k hn k hk rfl)
  refine ⟨?_, fun y hy => ?_⟩
  · rw [ecells_append, List.length_append]
    exact ho
  · rcases List.mem_append.1 hy with hy | hy
    · exact hk _ _ (h.own y hy)
    · obtain rfl := List.mem_singleton.1 hy
      exact hk _ _ hv
set_option maxRecDepth 100000 in
set_option maxHeartbeats 4000000 in
theorem take_any {w : World} {pl B : Nat} {d ev : Value} {s : LgS} {L : List (Ent × Value)} (h : LgV w pl d ev s false) (he : EntR w B ev L) (hB : B ≤ w.heap.size) (hL : L.length ≤ 1000000)
    (x : Ent) {v : Value} (hv : OwnB w B v x.data) (last : Nat) (hr0 : 0 < s.ring) (hrb : s.ring ≤ 65536) (hp : s.place ≤ 65536) (hc : x.cells ≤ 65536) (hu : s.used ≤ 65536) :
    Calls Try.prog 78 #[.pointer (some ⟨pl, 0, none⟩), .agg #[.int .i64 (x.place : Nat), .int .u64 (x.behind : Nat), .int .i64 (x.cells : Nat), v], .int .u64 (last : Nat)] w fun e w' => e = .returned (.tuple #[]) ∧
      ∃ ev', LgV w' pl d ev' { s with place := (s.place + x.cells) % s.ring, used := s.used + x.cells, last := last } false ∧ EntR w' B ev' (L ++ [(x, v)]) ∧ Beside (fun k => k = pl ∨ ev.ownBlock = some k) w w' := by
  obtain ⟨va, vc, rfl⟩ := hv.shape
  have hps := lt_of_block h
  obtain ⟨W, hW, hbox, hbW⟩ : ∃ W, W = w.alloc (.cells #[.int .i64 (x.place : Nat), .int .u64 (x.behind : Nat), .int .i64 (x.cells : Nat), .slice va x.data.length vc] 98) ∧ W.heap[w.heap.size]? = some (.cells #[.int .i64 (x.place : Nat), .int .u64 (x.behind : Nat), .int .i64 (x.cells : Nat), .slice va x.data.length vc] 98 (0, 0)) ∧ Below w.heap.size w W :=
    ⟨_, rfl, heap_alloc_new w _, (Below.refl _ _).alloc (Nat.le_refl _) _⟩
  have hWs : W.heap.size = w.heap.size + 1 := by rw [hW]; simp
  have hLW : LgV W pl d ev s false := h.qb (Below.qb hbW) (Nat.le_refl _)
  have heW : EntR W B ev L := he.qb (Below.qb hbW) (Nat.le_refl _)
  have hvW : OwnB W B (.slice va x.data.length vc) x.data := (Below.qb hbW).own (Nat.le_refl _) hv
  have hevlt : ∀ k, ev.ownBlock = some k → k < w.heap.size := fun k hk => (World.ownsRow.lt he.row k hk).2
  have hbx := fun j => cell_of_row W w.heap.size j _ _ _ hbox
  have b0 : W.cell? ⟨w.heap.size, 0, none⟩ = some (.int .i64 (x.place : Nat)) := hbx 0
  have b1 : W.cell? ⟨w.heap.size, 1, none⟩ = some (.int .u64 (x.behind : Nat)) := hbx 1
  have b2 : W.cell? ⟨w.heap.size, 2, none⟩ = some (.int .i64 (x.cells : Nat)) := hbx 2
  have b3 : W.cell? ⟨w.heap.size, 3, none⟩ = some (.slice va x.data.length vc) := hbx 3
  obtain ⟨c0, c1, c2, c3, c4, c5, c6, c7, c8, c9, c10, c11⟩ := hLW.cells
  obtain ⟨ea, ec, rfl⟩ := own_shape he.row
  obtain ⟨i0, hi0, hz0, hz1, hz2⟩ := info_parts Try.info98
  have HI0 := Lib.hid hi0
  have hwd : Below W.heap.size W ((W.alloc (.cells #[.int .i64 (x.place : Nat), .int .u64 (x.behind : Nat), .int .i64 (x.cells : Nat), .slice va x.data.length vc] 98)).drew) := ((Below.refl _ _).alloc (Nat.le_refl _) _).drew
  have hdz : ((W.alloc (.cells #[.int .i64 (x.place : Nat), .int .u64 (x.behind : Nat), .int .i64 (x.cells : Nat), .slice va x.data.length vc] 98)).drew).heap.size = W.heap.size + 1 := by show (W.heap.push _).size = _; simp
  have HEX := Lib.hid (heW.qb (Below.qb hwd) (Nat.le_refl _))
  have HLX := Lib.hid (hLW.qb (Below.qb hwd) (Nat.le_refl _))
  have HVX := Lib.hid ((Below.qb hwd).own (Nat.le_refl _) hvW)
  have HNX : Hid (((W.alloc (.cells #[.int .i64 (x.place : Nat), .int .u64 (x.behind : Nat), .int .i64 (x.cells : Nat), .slice va x.data.length vc] 98)).drew).heap[W.heap.size]? = some (.cells #[.int .i64 (x.place : Nat), .int .u64 (x.behind : Nat), .int .i64 (x.cells : Nat), .slice va x.data.length vc] 98 (0, 0))) := Lib.hid (heap_alloc_new W _)
  have hCX : B ≤ ((W.alloc (.cells #[.int .i64 (x.place : Nat), .int .u64 (x.behind : Nat), .int .i64 (x.cells : Nat), .slice va x.data.length vc] 98)).drew).heap.size := by omega
  have HBX := Lib.hid (hbW.trans (hwd.mono (by omega)))
  have HBOX := Lib.hid ((hwd.block w.heap.size (by omega)).trans hbox)
  have HEV := Lib.hid hevlt
  have HW := Lib.hid hW
  have HPS := Lib.hid hps
  have HH := Lib.hid h
  have HHE := Lib.hid he
  have HLN := Lib.hid hL
  have f6 := hLW.free 6
  have HE0 : Hid (∀ y ∈ L, y.2.oneCell' = true) := Lib.hid fun y hy => by obtain ⟨a, c, e⟩ := (he.own y hy).shape; rw [e]; rfl
  have HDZ := Lib.hid hdz
  have HCX := Lib.hid hCX
  have HWS := Lib.hid hWs
  clear hdz hCX hWs hwd hi0 heW hvW hv hLW hbx h he hevlt hps hL hbW hbox
  generalize hn : L.length = n at *
  go_enter Try.func78, Try.ntmps78
  go_upto_region 1 with (fail)
  rw [← hW]
  clear hW
  have x6 := HLX.out.cells.2.2.2.2.2.2.1
  go_cut [] (fun wx => ∃ ev', LgV wx pl d ev' s false ∧ EntR wx B ev' (L ++ [(x, .slice va x.data.length vc)]) ∧ wx.heap[w.heap.size]? = some (.cells #[.int .i64 (x.place : Nat), .int .u64 (x.behind : Nat), .int .i64 (x.cells : Nat), .slice va x.data.length vc] 98 (0, 0)) ∧ Beside (fun k => k = pl ∨ (Value.slice ea n ec).ownBlock = some k) w wx)
  case first =>
    go_region_law (first
      | (refine step_append_lies _ (by rfl) _ _ _ (by rfl) B 98 i0 _ 4 48 Try.underlying89 HI0.out hz0 hz1 hz2 rfl (by decide) (.slice ea n ec) n (ecells L) (by rfl) (by have := HEX.out.row; rwa [hn] at this) ⟨W.heap.size, 0, none⟩ 1 1 [.int .i64 (x.place : Nat), .int .u64 (x.behind : Nat), .int .i64 (x.cells : Nat), .slice va x.data.length vc] (by rfl) (by rfl) (World.news_of_block (cs := #[.int .i64 (x.place : Nat), .int .u64 (x.behind : Nat), .int .i64 (x.cells : Nat), .slice va x.data.length vc]) (t := 98) (fr := (0, 0)) HNX.out) (by simp [Value.oneCell']) (by omega) (by have := HLN.out; unfold maxLen; omega) (by have := HLN.out; omega) HCX.out (W.heap.size + 1) HDZ.out ?_
         intro gg cap w4 hown4 hgrow hat hlt4
         have hnl : (Value.slice ea n ec).ownBlock = some pl → False := fun e => ownsRow_ne HEX.out.row HLX.out (by decide) _ e rfl
         have HL4 : Hid (LgV w4 pl d (.slice ea n ec) s false) := Lib.hid (HLX.out.beside (own := fun k => (Value.slice ea n ec).ownBlock = some k) ⟨hgrow.os, hgrow.tape, hgrow.output, hgrow.size, fun k hk hn => hgrow.block k hk (fun e => hn e.symm)⟩ hnl)
         have HE4 := Lib.hid (HEX.out.grown HVX.out hgrow hn hown4)
         have HX4 : Hid (w4.heap[w.heap.size]? = some (.cells #[.int .i64 (x.place : Nat), .int .u64 (x.behind : Nat), .int .i64 (x.cells : Nat), .slice va x.data.length vc] 98 (0, 0))) := Lib.hid ((hgrow.block w.heap.size (by have := HDZ.out; have := HWS.out; omega) (fun e => by have := HEV.out _ e.symm; omega)).trans HBOX.out)
         have HB4 : Hid (Beside (fun k => k = pl ∨ (Value.slice ea n ec).ownBlock = some k) w w4) := Lib.hid ⟨hgrow.os.trans HBX.out.os, hgrow.tape.trans HBX.out.tape, hgrow.output.trans HBX.out.output, Nat.le_trans HBX.out.size hgrow.size, fun k hk hno => (hgrow.block k (Nat.lt_of_lt_of_le hk HBX.out.size) (fun e => hno (.inr e.symm))).trans (HBX.out.block k hk)⟩
         have k6 := HL4.out.cells.2.2.2.2.2.2.1
         have f6 := HL4.out.free 6
         clear hown4 hgrow hat hlt4 hnl))
    all_goals (go_wp2_with fail; go_meet; exact ⟨_, HL4.out.set6 _, HE4.out.set HL4.out _ _, (Below.heap_setCell _ _ _ _ (by have := HPS.out; show w.heap.size ≠ pl; omega)).trans HX4.out, HB4.out.setCell (p := ⟨pl, 6, none⟩) (.inl (.inl rfl)) _⟩)
  case rest =>
    obtain ⟨ev', hl1, he1, hx1, hb1⟩ := hcut
    obtain ⟨q, hq⟩ : ∃ q : Nat, (s.place + x.cells) % s.ring = q := ⟨_, rfl⟩
    have hmod : ((s.place : Int) + (x.cells : Int)).tmod (s.ring : Int) = (q : Int) := by
      rw [Int.tmod_eq_emod_of_nonneg (by omega), ← hq, ← Int.natCast_add]
      exact (Int.natCast_emod _ _).symm
    have hqb : q ≤ 65536 := by have := Nat.mod_lt (s.place + x.cells) hr0; omega
    have hring : ((s.ring : Int) == 0) = false := by simp; omega
    have hw64 : wrap64 (q : Int) = (q : Int) := by unfold wrap64; omega
    obtain ⟨u2, hun⟩ : ∃ u2 : Nat, s.used + x.cells = u2 := ⟨_, rfl⟩
    have hu2 : (s.used : Int) + (x.cells : Int) = (u2 : Int) := by omega
    have HUN := Lib.hid hun
    clear hun
    have HL1 := Lib.hid hl1
    have HE1 := Lib.hid he1
    have HX1 := Lib.hid hx1
    have HB1 := Lib.hid hb1
    have HQ := Lib.hid hq
    have hpw : pl ≠ w.heap.size := fun e => by have := HPS.out; omega
    have HPW := Lib.hid hpw
    obtain ⟨-, a1, -, -, -, -, -, a7, -, -, -, -⟩ := hl1.cells
    have g7 := hl1.free 7
    have y2 : wc.cell? ⟨w.heap.size, 2, none⟩ = some (.int .i64 (x.cells : Nat)) := cell_of_row wc w.heap.size 2 _ _ _ hx1
    clear hl1 he1 hx1 hb1 hq hpw b0 b1 b2 b3 c0 c1 c2 c3 c4 c5 c6 c7 c8 c9 c10 c11
    go_wp2_with go_region
    have HL2 := Lib.hid (HL1.out.set7 q).drew
    have HE2 : Hid (EntR (wc.setCell ⟨pl, 7, none⟩ (.int .i64 (q : Nat))).drew B ev' (L ++ [(x, .slice va x.data.length vc)])) := Lib.hid (HE1.out.set HL1.out 7 _).drew
    have HX2 : Hid ((wc.setCell ⟨pl, 7, none⟩ (.int .i64 (q : Nat))).drew.heap[w.heap.size]? = some (.cells #[.int .i64 (x.place : Nat), .int .u64 (x.behind : Nat), .int .i64 (x.cells : Nat), .slice va x.data.length vc] 98 (0, 0))) := Lib.hid ((Below.heap_setCell _ _ _ _ (fun e => HPW.out e.symm)).trans HX1.out)
    have HB2 : Hid (Beside (fun k => k = pl ∨ (Value.slice ea n ec).ownBlock = some k) w (wc.setCell ⟨pl, 7, none⟩ (.int .i64 (q : Nat))).drew) := Lib.hid (HB1.out.setCell (p := ⟨pl, 7, none⟩) (.inl (.inl rfl)) _).drew
    clear HL1 HE1 HX1 HB1 a1 a7 g7 y2 hmod hring
    generalize (wc.setCell ⟨pl, 7, none⟩ (.int .i64 (q : Nat))).drew = w2 at *
    obtain ⟨-, -, -, -, -, -, -, -, a8, a9, -, -⟩ := HL2.out.cells
    have g8 := HL2.out.free 8
    have g9 := HL2.out.free 9
    have y2 : w2.cell? ⟨w.heap.size, 2, none⟩ = some (.int .i64 (x.cells : Nat)) := cell_of_row w2 w.heap.size 2 _ _ _ HX2.out
    simp only at a8 a9
    have HL3 := Lib.hid ((HL2.out.set8 u2).drew.set9 last)
    have HE3 := Lib.hid (((HE2.out.set HL2.out 8 (.int .i64 (u2 : Nat))).drew).set (HL2.out.set8 u2).drew 9 (.int .u64 (last : Nat)))
    have HB3 := Lib.hid (((HB2.out.setCell (p := ⟨pl, 8, none⟩) (.inl (.inl rfl)) (.int .i64 (u2 : Nat))).drew).setCell (p := ⟨pl, 9, none⟩) (.inl (.inl rfl)) (.int .u64 (last : Nat)))
    go_wp2_with go_region
    refine bodyPost_end (v := .tuple #[]) (by simp [results, Try.results78, go_sem]) rfl ⟨rfl, ev', ?_, HE3.out, HB3.out⟩
    rw [HQ.out, HUN.out]
    exact HL3.out
end
end Go.Proofs.Ytmnbkhgogogeiaa
