/-
  WriteRune of a sign below 128 to the writer's builder; String.
-/
import Derived.Test.YtcddppgnmephnaaDoorBld
import Derived.Shelf.RegionOpenPlain
namespace Go.Proofs.YtcddppgnmephnaaDoor
set_option linter.unusedVariables false
open Go.RowKit Go.Lib

set_option maxHeartbeats 1000000 in
set_option maxRecDepth 100000 in
theorem appendRune_ascii (B : Nat) (v : Value) (n : Nat) (xs : List Value) (r : Int) (h0 : 0 ≤ r) (h1 : r ≤ 127) (w : World) (hown : w.ownsRowF B 5 1 v n xs) (hlen : n + 4 ≤ 140737488355328) (hBw : B ≤ w.heap.size) :
    Calls Tryd.prog 26 #[v, .int .i32 r] w fun e w' => ∃ v', e = .returned v' ∧ w'.ownsRowF B 5 1 v' (n + 1) (xs ++ [.int .u8 r]) ∧ ∃ o, (w.alloc o).grownBy w' v.ownBlock := by
  obtain ⟨i0, hi, hz0, hz1, hz2⟩ := info_parts info5
  have hw : IntKind.u32.wrap r = r := IntWalk.u32_in r (by omega)
  have hb : IntKind.u8.wrap r = r := IntWalk.u8_in r (by omega)
  go_enter Tryd.func26, Tryd.ntmps26
  go_wp2_with (at_builtin; refine wpList_append_ownF _ rfl _ _ 29 rfl B 5 i0 (.int .u8 0) 1 1 Tryd.underlying29 hi hz0 hz1 hz2 rfl (by decide) _ _ _ rfl (hown.alloc _) ⟨w.heap.size, 0, none⟩ 1 1 [.int .u8 r] rfl rfl ?c1 ?c2 ?c3 ?c4 ?c5 ?_)
  case c1 =>
    intro j u hj
    match j, hj with
    | 0, hj => simp at hj; subst hj; simp [Addr.add]
  case c2 => intro u hu; simp at hu; subst hu; rfl
  case c3 => unfold maxLen; omega
  case c4 => omega
  case c5 => simp; omega
  intro v' w2 hown' hgrow _
  go_wp2
  go_ret
  exact ⟨_, rfl, hown', _, hgrow⟩

set_option maxHeartbeats 1000000 in
set_option maxRecDepth 100000 in
/-- WriteRune of a sign below 128. -/
theorem wr_any (p B : Nat) (W : Wr) (r : Nat) (hr : r ≤ 127) (w : World) (h : WrAt w p B W) (hl : W.out.length + 1 ≤ 100000000) :
    Calls Tryd.prog 32 #[.pointer (some ⟨p, 0, none⟩), .int .i32 (r : Int)] w fun e w' => (∃ x, e = .returned x) ∧ WrAt w' p B { W with out := W.out ++ [r.toUInt8] } ∧ Fr B p w w' := by
  obtain ⟨a, v, ha, hc⟩ := h
  have hcc := copyCheck_any a v p B W w hc ha
  clear hc
  go_enter Tryd.func32, Tryd.ntmps32
  go_wp2_with (go_at_call 40; refine hcc.mono ?_)
  rintro e w1 ⟨rfl, h1, hf1⟩
  have hown := h1.own
  obtain ⟨ao, cap, rfl⟩ : ∃ ao cap, v = .slice ao W.out.length cap := by
    rcases hown.2 with ⟨hv, h0⟩ | ⟨g, cap, cur, fz, hv, _⟩
    · exact ⟨none, 0, by rw [hv, h0]⟩
    · exact ⟨_, _, hv⟩
  obtain ⟨c0, c1, c2, c3, c4, x0, x1, x2, x3, x4, hsh⟩ := h1.at
  have HF := Lib.hid hf1
  have H1 := Lib.hid h1
  have hlt := h1.lt
  have hbase := h1.base
  clear hf1 h1 hsh
  go_wp2_with (go_at_call 26; refine (appendRune_ascii B _ W.out.length (byteCells W.out) (r : Int) (by omega) (by omega) _ hown (by omega) (by omega)).mono ?_)
  rintro e w2 ⟨v', rfl, hown', o, hgrow⟩
  have hne := H1.out.ne
  have hb2 : w2.heap[p]? = some (.cells #[.pointer (some ⟨p, 0, none⟩), .slice ao W.out.length cap, .bool W.inn, .int .u32 (W.acc : Int), .int .i64 (W.bits : Int)] 36 (0, 0)) := by
    rw [hgrow.block p (by simp; omega) (fun e => hne e.symm), Lib.alloc_old w1 _ p hlt]
    exact H1.out.row
  have d0 : w2.cell? ⟨p, 0, none⟩ = some (.pointer (some ⟨p, 0, none⟩)) := by rw [Lib.cell_of_heap hb2]; rfl
  have d1 : w2.cell? ⟨p, 1, none⟩ = some (.slice ao W.out.length cap) := by rw [Lib.cell_of_heap hb2]; rfl
  have f1 : w2.frozen? ⟨p, 1, none⟩ = false := Lib.frozen_of_heap hb2 1
  have hne' : v'.ownBlock ≠ some p := ownBlock_neF hown' hb2 (by decide)
  obtain ⟨g, cap', rfl⟩ : ∃ g cap', v' = .slice (some ⟨g, 0, none⟩) (W.out.length + 1) cap' := by
    rcases hown'.2 with ⟨_, h0⟩ | ⟨g, cap', cur, fz, hv, _⟩
    · omega
    · exact ⟨g, cap', hv⟩
  go_wp2
  go_ret2
  have hfr : Fr B p w1 w2 := ⟨((Below.refl B w1).alloc (by omega) _).grown hgrow (by simp; omega) (fun k hk => (hown.lt k hk).1), ((OthersKept.refl 5 (some p) w1).alloc _).grown hgrow (Lib.ownsRowF_kind (hown.alloc _))⟩
  refine ⟨⟨_, rfl⟩, ⟨_, _, .inr rfl, ⟨heap_setCell_same w2 p 1 _ _ _ hb2, ?_, hne', hbase, fun e => by simp at e⟩⟩, HF.out.trans (hfr.set hbase _)⟩
  have hrt : (r.toUInt8.toNat : Int) = (r : Int) := by rw [Nat.toUInt8_eq, UInt8.toNat_ofNat']; omega
  have e : byteCells (W.out ++ [r.toUInt8]) = byteCells W.out ++ [.int .u8 (r : Int)] := by
    rw [Lib.byteCells_append, ← hrt]; rfl
  simp only [List.length_append, List.length_singleton, e]
  exact ownF_set hown' hne'

set_option maxHeartbeats 2000000 in
set_option maxRecDepth 100000 in
/-- String of the writer's builder. -/
theorem str_any (p B : Nat) (W : Wr) (w : World) (h : WrAt w p B W) :
    Calls Tryd.prog 20 #[.pointer (some ⟨p, 0, none⟩)] w fun e w' => e = .returned (.string ⟨W.out.toArray⟩) ∧ Below B w w' := by
  have mixed : Tryd.prog.follows Departure.mixedOrders = true := by kernel_rfl
  obtain ⟨a, v, ha, hc⟩ := h
  have hbase := hc.base
  obtain ⟨c0, c1, c2, c3, c4, x0, x1, x2, x3, x4, hsh⟩ := hc.at
  by_cases hn : W.out = []
  · have hv := hc.nil hn
    subst hv
    rw [hn]
    clear hc hsh
    have d1 : w.drew.cell? ⟨p, 1, none⟩ = some (.slice none 0 0) := c1
    have hSD : (Builtin.unsafeSliceData_ #[29] 62 #[.slice none 0 0]).run Tryd.prog w.drew = .ok (.pointer none) w.drew := Lib.run_unsafeSliceData_nil _ _ _ _ _
    have hUS : (Builtin.unsafeString_ #[62, 3] 9 #[.pointer none, .int .i64 0]).run Tryd.prog w.drew = .ok (.string .empty) w.drew := Lib.run_unsafeString_none _ _ _ _ _
    go_enter Tryd.func20, Tryd.ntmps20
    go_wp2
    go_region_o
    all_goals (go_wp2; go_ret; exact ⟨rfl, Below.drew (Below.refl B w)⟩)
  · have hl0 : W.out.length ≠ 0 := by simpa using hn
    have hown := hc.own
    obtain ⟨g, cap, cur, fz, rfl, hbg, hg, hfz, hnc, hcm, hcs, htake⟩ : ∃ g cap cur fz, v = .slice (some ⟨g, 0, none⟩) W.out.length cap ∧ B ≤ g ∧ w.heap[g]? = some (.cells cur 5 fz) ∧ fz.2 ≤ W.out.length * 1 ∧ W.out.length ≤ cap ∧ cap ≤ maxLen ∧ cur.size = cap * 1 ∧ cur.toList.take (W.out.length * 1) = Lib.byteCells W.out := by
      rcases hown.2 with ⟨_, hz⟩ | ⟨g, cap, cur, fz, hv, r⟩
      · exact absurd hz hl0
      · exact ⟨g, cap, cur, fz, hv, r⟩
    have d1 : w.drew.cell? ⟨p, 1, none⟩ = some (.slice (some ⟨g, 0, none⟩) W.out.length cap) := c1
    have hSD : (Builtin.unsafeSliceData_ #[29] 62 #[.slice (some ⟨g, 0, none⟩) W.out.length cap]).run Tryd.prog w.drew = .ok (.pointer (some ⟨g, 0, none⟩)) w.drew :=
      Lib.run_unsafeSliceData_row _ _ _ _ _ _ (by omega)
    have hUS : (Builtin.unsafeString_ #[62, 3] 9 #[.pointer (some ⟨g, 0, none⟩), .int .i64 W.out.length]).run Tryd.prog w.drew = .ok (.string ⟨W.out.toArray⟩) (w.drew.freeze ⟨g, 0, none⟩ W.out.length) := by
      refine Lib.run_unsafeString_row w.drew 62 3 9 5 Tryd.underlying62 cells5 g cur.size (by have hg' : w.drew.heap[g]? = some (.cells cur 5 fz) := hg; simp [World.shape?, hg']) W.out hn (by omega) (by unfold maxLen at hcm; omega) ?_
      intro j x hx
      exact hown.cells (g := g) rfl j (.int .u8 x.toNat) (by simp [Lib.byteCells, hx])
    clear hc hsh
    go_enter Tryd.func20, Tryd.ntmps20
    go_wp2
    go_region_o
    all_goals (go_wp2; go_ret; exact ⟨rfl, Lib.below_freeze (Below.drew (Below.refl B w)) (p := ⟨g, 0, none⟩) hbg _⟩)
end Go.Proofs.YtcddppgnmephnaaDoor
