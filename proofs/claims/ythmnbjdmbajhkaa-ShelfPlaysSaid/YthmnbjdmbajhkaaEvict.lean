/-
  The contracts of forget and Evict, where awake calls them.
-/
import Derived.Test.YthmnbjdmbajhkaaPop
import Derived.RegionTactic
namespace Go.Proofs.Ythmnbjdmbajhkaa
set_option linter.unusedVariables false
open Go.RowKit

theorem del2' (m c : Nat) (ty : TypeId) (v u : Value) (w : World) (h : w.heap[m]? = some (.map #[{ key := key 1 1, val := v, born := 0 }, { key := key 1 2, val := u, born := 1 }] c)) : (Builtin.delete_ #[52, 31] ty #[.map (some m), key 1 1]).run Try.prog w = .ok (.tuple #[]) (setMap w m (.map #[{ key := key 1 2, val := u, born := 1 }] c)) := by
  have hk : (Instr.checkKey false 10000 31 (key 1 1)).run Try.prog w = .ok () w := by kernel_rfl
  have hf : (Instr.findKey 31 (key 1 1) [{ key := key 1 1, val := v, born := 0 }, { key := key 1 2, val := u, born := 1 }]).run Try.prog w = .ok (some (0, v)) w := by kernel_rfl
  simp [Builtin.delete_, run_underlying Try.underlying52, getObj, setObj, run_getMap _ _ _ _ _ h, run_setMap _ _ _ _ _ _ h, hk, hf, go_sem]

set_option maxHeartbeats 2000000 in
theorem forget_one (p m t g cap u : Nat) (w : World) (hp : At w p (.cells #[.int .i64 10, .int .i64 12, .map (some m), .slice (some ⟨g, 0, none⟩) 0 cap] 56 (0, 0)))
    (hm : At w m (.map #[{ key := key 1 1, val := .pointer (some ⟨t, 0, none⟩), born := 0 }, { key := key 1 2, val := .pointer (some ⟨u, 0, none⟩), born := 1 }] 2))
    (ht : At w t (.cells #[.int .u32 1, .int .u32 1, .int .i64 6, .int .i64 2, .int .i64 (-1)] 60 (0, 0))) (hpt : p ≠ t) :
    Calls Try.prog 25 #[.pointer (some ⟨p, 0, none⟩), .pointer (some ⟨t, 0, none⟩)] w fun e w' => e = .returned (.tuple #[]) ∧ At w' p (.cells #[.int .i64 10, .int .i64 6, .map (some m), .slice (some ⟨g, 0, none⟩) 0 cap] 56 (0, 0)) ∧ At w' t (.cells #[.int .u32 1, .int .u32 1, .int .i64 6, .int .i64 2, .int .i64 (-1)] 60 (0, 0)) ∧ w.heap.size ≤ w'.heap.size ∧ ∀ B, B ≤ p → B ≤ m → Below B w w' := by
  have hpm : p ≠ m := by
    rintro rfl
    have h := hp.symm.trans hm
    cases h
  have htm : t ≠ m := by
    rintro rfl
    have h := ht.symm.trans hm
    cases h
  have HPP := Lib.hid hp
  have HM := Lib.hid hm
  have HT := Lib.hid ht
  have c2 := hp.cell 2 (.map (some m)) rfl
  have t0 := ht.cell 0 (.int .u32 1) rfl
  have t1 := ht.cell 1 (.int .u32 1) rfl
  have hdel := fun ty => del2' m 2 ty (.pointer (some ⟨t, 0, none⟩)) (.pointer (some ⟨u, 0, none⟩)) w.drew hm
  unfold key at hdel
  have HPS : Hid (At (setMap w.drew m (.map #[{ key := .agg #[.int .u32 1, .int .u32 2], val := .pointer (some ⟨u, 0, none⟩), born := 1 }] 2)) p (.cells #[.int .i64 10, .int .i64 12, .map (some m), .slice (some ⟨g, 0, none⟩) 0 cap] 56 (0, 0))) := Lib.hid (At.otherMap (w := w.drew) hp hpm)
  have HTS : Hid (At (setMap w.drew m (.map #[{ key := .agg #[.int .u32 1, .int .u32 2], val := .pointer (some ⟨u, 0, none⟩), born := 1 }] 2)) t (.cells #[.int .u32 1, .int .u32 1, .int .i64 6, .int .i64 2, .int .i64 (-1)] 60 (0, 0))) := Lib.hid (At.otherMap (w := w.drew) ht htm)
  have HBS : Hid (∀ B, B ≤ p → B ≤ m → Below B w (setMap w.drew m (.map #[{ key := .agg #[.int .u32 1, .int .u32 2], val := .pointer (some ⟨u, 0, none⟩), born := 1 }] 2))) := Lib.hid fun B h1 h2 => setMap_below ((Below.refl _ _).drew) h2
  have hsz : (setMap w.drew m (.map #[{ key := .agg #[.int .u32 1, .int .u32 2], val := .pointer (some ⟨u, 0, none⟩), born := 1 }] 2)).heap.size = w.heap.size := by rw [setMap_size]; rfl
  have s2 := HPS.out.cell 2 (.map (some m)) rfl
  have s0 := HTS.out.cell 0 (.int .u32 1) rfl
  have s1 := HTS.out.cell 1 (.int .u32 1) rfl
  clear hp hm ht
  go_enter Try.func25, Try.ntmps25
  go_wp2_with fail
  go_region_held3 (fun w' => w'.cell? ⟨p, 2, none⟩ = some (.map (some m)) ∧ w'.cell? ⟨t, 0, none⟩ = some (.int .u32 1) ∧ w'.cell? ⟨t, 1, none⟩ = some (.int .u32 1)) (first | with_reducible exact ⟨c2, t0, t1⟩ | with_reducible exact ⟨s2, s0, s1⟩ | go_keep) (fail)
  clear c2 t0 t1 s2 s0 s1 hdel
  generalize setMap w.drew m (.map #[{ key := .agg #[.int .u32 1, .int .u32 2], val := .pointer (some ⟨u, 0, none⟩), born := 1 }] 2) = w2 at *
  have c1 := HPS.out.cell 1 (.int .i64 12) rfl
  have f1 := HPS.out.froz 1
  have t2 := HTS.out.cell 2 (.int .i64 6) rfl
  have hpt' : t ≠ p := hpt.symm
  go_wp2_with fail
  have hw6 : IntKind.i64.wrap 6 = 6 := by decide
  go_region
  all_goals
    go_wp2_with fail
    exact bodyPost_end (v := .tuple #[]) (by simp [results, Try.results25, go_sem]) rfl ⟨rfl, HPS.out.set 1 (.int .i64 6), HTS.out.other hpt', by simp; omega, fun B h1 h2 => ((HBS.out B h1 h2).setCell (p := ⟨p, 1, none⟩) h1 _).drew⟩

theorem Try.info31 : (Try.prog.info? 31).map (fun i => (i.zero, i.size, i.bytes)) = some (some (.agg #[.int .u32 0, .int .u32 0]), 2, 8) := by kernel_rfl
/-- 'append(nil, x)' of one ID -/
theorem appI {ops : Array Oper} {rest : List Oper} {o : Oper} {a : Act} {Q : Exit → Act → World → Prop} (hgd : o.guard = none) (s x : Operand)
    (ho : o.op = .call { callee := .builtin .append, args := #[s, x], argTypes := #[39, 39] }) {wr : World} {b c : Int}
    {g : Nat} (hs : a.eval s = .slice none 0 0) (hx : a.eval x = .slice (some ⟨g, 0, none⟩) 1 1) (hg : g = wr.heap.size)
    (h : ∀ q cap w2, w2.cell? ⟨q, 0, none⟩ = some (.int .u32 b) → w2.cell? ⟨q, 1, none⟩ = some (.int .u32 c) → q < w2.heap.size → wr.heap.size ≤ q → 1 ≤ cap → Below wr.heap.size wr w2 → wpList Try.prog ops Q rest (a.put o.dst (.slice (some ⟨q, 0, none⟩) 1 cap)) w2) :
    wpList Try.prog ops Q (o :: rest) a (wr.alloc (.cells #[.int .u32 b, .int .u32 c] 31)) := by
  subst hg
  obtain ⟨i0, hi, hz0, hz1, hz2⟩ := info_parts Try.info31
  refine wpList_append_own _ hgd s x 39 ho wr.heap.size 31 i0 _ 2 8 Try.underlying39 hi hz0 hz1 hz2 rfl (by decide) (.slice none 0 0) 0 [] hs (owns_nil _ _ _ _) ⟨wr.heap.size, 0, none⟩ 1 1 [.int .u32 b, .int .u32 c] hx rfl (cell_two_new wr _ _ 31) (by simp [Value.oneCell']) (by simp [maxLen]) (by omega) (by simp) ?_
  intro o' w2 ho' hgr _
  obtain ⟨q, cap, cur, rfl, hq, hh, hn, hm, hx⟩ := ho'.2.resolve_left (by rintro ⟨_, h⟩; cases h)
  exact h q cap w2 (World.ownsRow.cellAt ho' 0 (by decide)) (World.ownsRow.cellAt ho' 1 (by decide)) (Array.getElem?_eq_some_iff.1 hh).1 hq hn (((Below.refl _ _).alloc (Nat.le_refl _) _).grown hgr (by simp) (by simp [Value.ownBlock]))

set_option maxRecDepth 8000 in
set_option maxHeartbeats 2000000 in
theorem evict_one (p m t g cap u : Nat) (w : World) (hS : Shelf2 p m t g cap u w) (hpt : p ≠ t) (hgt : g ≠ t) (hgp : g ≠ p) (hgl : g < w.heap.size) :
    Calls Try.prog 15 #[.pointer (some ⟨p, 0, none⟩)] w fun e w' => ∃ q c, e = .returned (.slice (some ⟨q, 0, none⟩) 1 c) ∧ w'.cell? ⟨q, 0, none⟩ = some (.int .u32 1) ∧ w'.cell? ⟨q, 1, none⟩ = some (.int .u32 1) ∧ q < w'.heap.size ∧ ∀ B, B ≤ p → B ≤ m → B ≤ t → B ≤ w.heap.size → Below B w w' := by
  obtain ⟨hr, hm, ht, hgc, hgf, hcap⟩ := hS
  have hpl := hr.lt
  have htl := ht.lt
  have HR := Lib.hid hr
  have HM := Lib.hid hm
  have HT := Lib.hid ht
  have c0 := hr.cell 0 (.int .i64 10) rfl
  have c1 := hr.cell 1 (.int .i64 12) rfl
  have c3 := hr.cell 3 (.slice (some ⟨g, 0, none⟩) 1 cap) rfl
  have HP := Lib.hid (fun n => hpop_any p g t cap (w.drewN n) c3 (hr.froz 3) hgc hgf (ht.froz 4) (ht.cell 4 (.int .i64 0) rfl) hpt hgt hgl htl)
  clear hr hm ht hgf
  go_enter Try.func15, Try.ntmps15
  go_wp2_with fail
  refine wp_loop_rounds 2 ?_
  rw [rounds_succ]
  go_wp2_with fail
  go_quiet (fail)
  go_wp2_with fail
  refine (HP.out nq).mono ?_
  rintro e w1 ⟨rfl, n, rfl⟩
  have hpm : p ≠ m := by
    rintro rfl
    have h := HR.out.symm.trans HM.out
    cases h
  have htm : t ≠ m := by
    rintro rfl
    have h := HT.out.symm.trans HM.out
    cases h
  have A1 : At (((w.drewN nq).drewN n).setCell ⟨p, 3, none⟩ (.slice (some ⟨g, 0, none⟩) 0 cap)) p (.cells #[.int .i64 10, .int .i64 12, .map (some m), .slice (some ⟨g, 0, none⟩) 0 cap] 56 (0, 0)) := At.set (w := (w.drewN nq).drewN n) HR.out 3 _
  have A2 := At.other (w := (w.drewN nq).drewN n) (q := p) (j := 3) (v := .slice (some ⟨g, 0, none⟩) 0 cap) HM.out hpm.symm
  have A3 := At.other (w := (w.drewN nq).drewN n) (q := p) (j := 3) (v := .slice (some ⟨g, 0, none⟩) 0 cap) HT.out hpt.symm
  have B1 := A1.other (q := t) (j := 4) (v := .int .i64 (-1)) hpt
  have B2 := A2.other (q := t) (j := 4) (v := .int .i64 (-1)) htm.symm
  have B3 : At ((((w.drewN nq).drewN n).setCell ⟨p, 3, none⟩ (.slice (some ⟨g, 0, none⟩) 0 cap)).setCell ⟨t, 4, none⟩ (.int .i64 (-1))) t (.cells #[.int .u32 1, .int .u32 1, .int .i64 6, .int .i64 2, .int .i64 (-1)] 60 (0, 0)) := A3.set 4 _
  have HBW : Hid (∀ B, B ≤ p → B ≤ t → Below B w ((((w.drewN nq).drewN n).setCell ⟨p, 3, none⟩ (.slice (some ⟨g, 0, none⟩) 0 cap)).setCell ⟨t, 4, none⟩ (.int .i64 (-1)))) := Lib.hid fun B h1 h2 => ((below_drewN (below_drewN (Below.refl _ _) _) _).setCell (p := ⟨p, 3, none⟩) h1 _).setCell (p := ⟨t, 4, none⟩) h2 _
  have HSZ : Hid (w.heap.size = ((((w.drewN nq).drewN n).setCell ⟨p, 3, none⟩ (.slice (some ⟨g, 0, none⟩) 0 cap)).setCell ⟨t, 4, none⟩ (.int .i64 (-1))).heap.size) := Lib.hid (by simp)
  clear A1 A2 A3 c0 c1 c3 hgc
  have HG1 := Lib.hid B1
  have HG2 := Lib.hid B2
  have HG3 := Lib.hid B3
  clear B1 B2 B3
  generalize ((((w.drewN nq).drewN n).setCell ⟨p, 3, none⟩ (.slice (some ⟨g, 0, none⟩) 0 cap)).setCell ⟨t, 4, none⟩ (.int .i64 (-1))) = w1 at *
  go_wp2_with fail
  refine (forget_one p m t g cap u w1 HG1.out HG2.out HG3.out hpt).mono ?_
  rintro e w2 ⟨rfl, hD1, hD3, hsz2, hB2⟩
  have HB2 := Lib.hid hB2
  have HD1 := Lib.hid hD1
  have t0 := hD3.cell 0 (.int .u32 1) rfl
  have t1 := hD3.cell 1 (.int .u32 1) rfl
  have hp2 := hD1.lt
  clear hB2 hD1 hD3
  go_wp2_with (at_builtin
               refine appI rfl (.tmp 38) (.tmp 43) rfl rfl rfl (by simp) ?_
               intro q cap2 w3 q0 q1 hq hq2 hcap2 hb3)
  have HB3 := Lib.hid hb3
  have E1 := HD1.out.below hb3 hp2
  have c0 := E1.cell 0 (.int .i64 10) rfl
  have c1 := E1.cell 1 (.int .i64 6) rfl
  clear E1 hb3 t0 t1
  rw [rounds_succ]
  go_wp2_with fail
  go_quiet (fail)
  go_wp2_with fail
  go_ret
  have hs1 := HSZ.out
  exact ⟨q, cap2, rfl, q0, q1, hq, fun B h1 h2 h3 h4 => below_drewN (((HBW.out B h1 h3).trans (HB2.out B h1 h2)).trans (HB3.out.mono (by omega))) _⟩
end Go.Proofs.Ythmnbjdmbajhkaa
