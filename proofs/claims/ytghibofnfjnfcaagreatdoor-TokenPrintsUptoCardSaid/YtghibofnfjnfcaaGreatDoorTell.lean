/-
  A token told.
-/
import Derived.Test.YtghibofnfjnfcaaGreatDoorTake
import Derived.OrdersHeld
import Derived.BigRegion
namespace Go.Proofs.YtghibofnfjnfcaaGreatDoor
set_option linter.unusedVariables false
open Go.RowKit

theorem Tryz.info26 : (Tryz.prog.info? 26).map (fun i => (i.zero, i.size, i.bytes)) = some (some (.agg #[.int .i64 0, .string ByteArray.empty]), 2, 24) := by kernel_rfl

/-- 'append(out, token)' within a region that draws its order -/
theorem step_appT {ops : Array Oper} {o : Oper} {a : Act} {w : World} {K : Act → World → Prop} {Q : Exit → Act → World → Prop} {E : Prop}
    (hg : o.guard = none) (s x : Operand) (hop : o.op = Op.call { callee := Callee.builtin Builtin.append, args := #[s, x], argTypes := #[22, 22] })
    {v : Value} {l : List Tk} (hs : a.eval s = v) (hown : OwnT w 0 v l) (g : Nat) (hx : a.eval x = .slice (some ⟨g, 0, none⟩) 1 1) (tk : Tk) (hc0 : w.cell? ⟨g, 0, none⟩ = some (.int .i64 (tk.1 : Nat))) (hc1 : w.cell? ⟨g, 1, none⟩ = some (.string (strN tk.2))) (hn : l.length + 1 ≤ 100000000)
    (hK : ∀ o' w', OwnT w' 0 o' (l ++ [tk]) → w.grownBy w' v.ownBlock → Moved v o' w → K (a.put o.dst o') w') :
    if Region.wanted o (yielded ops a.tmps) = true then Oper.wp Tryz.prog o a w K Q else E := by
  have hw : Region.wanted o (yielded ops a.tmps) = true := by simp [Region.wanted, hg]
  rw [if_pos hw]
  obtain ⟨i0, hi, hz0, hz1, hz2⟩ := info_parts Tryz.info26
  obtain ⟨v', w', hr, h2, h3, h4, h5⟩ := run_append_own_at (P := Tryz.prog) w 0 22 o.type 26 i0 _ 2 24 Tryz.underlying22 hi hz0 hz1 hz2 rfl (by decide) v l.length (tksV l) hown ⟨g, 0, none⟩ 1 1 [.int .i64 (tk.1 : Nat), .string (strN tk.2)] (by simp) (fun j u hj => by
    have hj2 : j < 2 := by
      have := (List.getElem?_eq_some_iff.1 hj).1
      simpa using this
    rw [Addr.add_lit, Nat.zero_add]
    have : j = 0 ∨ j = 1 := by omega
    rcases this with rfl | rfl
    · simp at hj; subst hj; exact hc0
    · simp at hj; subst hj; exact hc1) (by simp [Value.oneCell']) (by simp [maxLen]; omega) (by omega) (Nat.zero_le _)
  have hr2 : (Builtin.append_ #[22, 22] o.type #[v, .slice (some ⟨g, 0, none⟩) 1 1]).run Tryz.prog w = .ok v' w' := hr
  unfold Oper.wp execOp
  simp only [hop, resolve, invoke, builtin, Sem.run_bind, Sem.run_pure, Result.andThen_ok, List.map_toArray, List.map_cons, List.map_nil, hs, hx, hr2]
  refine hK v' w' ?_ h3 ?_
  · unfold OwnT
    rw [tksV_append, List.length_append]
    exact h2
  · rcases h5 with e | e
    · exact .inl e
    · exact .inr (fun g' hg' => by rw [e] at hg'; obtain rfl := Option.some.inj hg'; exact Nat.le_refl _)

theorem LexK.app {w w1 w2 : World} {p k : Nat} {o0 t0 o t : Value} {s : LS} {err : Nat} {u : Value} (h : LexK w w1 p k o0 t0 o t s err u) {o' : Value} {s' : LS} {tk : Tk} (ho : OwnT w2 0 o' (s.out ++ [tk])) (hg : w1.grownBy w2 o.ownBlock) (mv : Moved o o' w1) (hl : s'.left = s.left) (hop : s'.op = s.op) (hx : s'.text = s.text) (hO : s'.out = s.out ++ [tk]) : LexK w (w2.setCell ⟨p, 0, none⟩ o') p k o0 t0 o' t s' err u := by
  have hne := h.ne
  have hop' := ownT_ne h.s.ot h.s.b.row (by decide)
  have hok := ownT_ne h.s.ot h.r.row (by decide)
  have hb2 : LexB w2 p o t (s.left : Nat) s.op (err : Nat) := h.s.b.grown hg hop'
  have same : ∀ b, b < w1.heap.size → o.ownBlock ≠ some b → w2.heap[b]? = w1.heap[b]? := fun b hb hn => hg.block b hb (fun e => hn e.symm)
  have ht2 : OwnB w2 0 t s.text := h.s.tx.same fun g hg' => same g (ownB_type h.s.tx g hg').1 (fun e => own_apart h.s.ot h.s.tx g e hg')
  have hr2 : ResB w2 k u := h.r.same (same k h.r.lt hok)
  refine ⟨⟨by have := hb2.set0 o'; rw [hl, hop]; exact this, by rw [hO]; exact ho.same fun g hg' => heap_setCell_other _ _ _ _ (by rintro rfl; exact ownT_ne ho hb2.row (by decide) hg'), by rw [hx]; exact ht2.off (ownB_ne ht2 hb2.row (by decide))⟩, hr2.same (heap_setCell_other _ _ _ _ (show k ≠ p from fun e => hne e.symm)), ?_, h.mo.trans mv h.f.size, h.mt, h.kw, h.pk⟩
  exact (h.f.trans h.mo h.mt ⟨hg.os, hg.tape, hg.output, hg.size, fun b h1 _ h3 _ => same b h1 h3⟩).set

set_option maxRecDepth 100000 in
set_option maxHeartbeats 4000000 in
theorem tell_any (p : Nat) (o t : Value) (s : LS) (kd : Nat) (hfit : ∀ n ∈ s.text, n < 256) (hlen : s.out.length + 1 ≤ 100000000) (w : World) (k : LexS w p o t s 0) : Calls Tryz.prog 28 #[.pointer (some ⟨p, 0, none⟩), .int .i64 (kd : Int)] w (LexIs w p o t (tellS s kd, 0)) := by
  have HK := Lib.hid (LexK.start k)
  have HFIT := Lib.hid hfit
  clear k hfit
  go_enter Tryz.func28, Tryz.ntmps28
  go_upto_region 1 with fail
  generalize w.alloc (.cells #[.nilFunc] 53) = w1 at *
  have HKD : Hid (LexK w w1.drew p w.heap.size o t o t s 0 .nilFunc) := Lib.hid (HK.out.call ⟨HK.out.s.b.same rfl, HK.out.s.ot.same (fun _ _ => rfl), HK.out.s.tx.same (fun _ _ => rfl)⟩ (Foot2.of_below o t (Below.refl _ _).drew) (Moved.refl _ _) (Moved.refl _ _))
  have HB := Lib.hid HKD.out.s.b
  have HRW : Hid (∀ u : World, (∀ b, t.ownBlock = some b → u.heap[b]? = w1.drew.heap[b]?) → RowB u t s.text) := Lib.hid fun u hu => (HKD.out.s.tx.same hu).row HFIT.out
  refine AnyBut.enter (by kernel_rfl) (fun u => u.heap[p]? = w1.drew.heap[p]? ∧ ∀ b, t.ownBlock = some b → u.heap[b]? = w1.drew.heap[b]?) (fun j => decide (16 ≤ j)) ?_
  generalize w1.drew = w8 at *
  refine AnyBut.take0 (i := 0) (oi := ⟨_, _, _, _, _, _⟩) (v := ?_) rfl (by kernel_rfl) (by kernel_rfl) (by kernel_rfl) (fun _ _ _ h => h) (Or.inl ⟨by rfl, ?_⟩) ?_
  rotate_left
  · intro w; go_simp <;> with_reducible rfl
  simp only [Act.put, List.setIfInBounds_toArray, List.set_cons_zero, List.set_cons_succ]
  refine AnyBut.take0 (i := 1) (oi := ⟨_, _, _, _, _, _⟩) (v := ?_) rfl (by kernel_rfl) (by kernel_rfl) (by kernel_rfl) (fun _ _ _ h => h) (Or.inl ⟨by rfl, ?_⟩) ?_
  rotate_left
  · intro w; go_simp <;> with_reducible rfl
  simp only [Act.put, List.setIfInBounds_toArray, List.set_cons_zero, List.set_cons_succ]
  refine AnyBut.take0 (i := 2) (oi := ⟨_, _, _, _, _, _⟩) (v := ?_) rfl (by kernel_rfl) (by kernel_rfl) (by kernel_rfl) (fun _ _ _ h => h) (Or.inl ⟨by rfl, ?_⟩) ?_
  rotate_left
  · intro w; go_simp <;> with_reducible rfl
  simp only [Act.put, List.setIfInBounds_toArray, List.set_cons_zero, List.set_cons_succ]
  refine AnyBut.take0 (i := 3) (oi := ⟨_, _, _, _, _, _⟩) (v := ?_) rfl (by kernel_rfl) (by kernel_rfl) (by kernel_rfl) (fun _ _ _ h => h) (Or.inl ⟨by rfl, ?_⟩) ?_
  rotate_left
  · intro w; go_simp <;> with_reducible rfl
  simp only [Act.put, List.setIfInBounds_toArray, List.set_cons_zero, List.set_cons_succ]
  refine AnyBut.take (i := 4) (oi := ⟨_, _, _, _, _, _⟩) (v := ?_) rfl (by kernel_rfl) (by kernel_rfl) (by kernel_rfl) (by kernel_rfl) (fun _ _ _ h => h) (Or.inl ⟨by rfl, ?_⟩) ⟨rfl, fun _ _ => rfl⟩ ?_
  rotate_left
  · intro u hSu; have qc := (HB.out.same hSu.1).at.c0; go_simp <;> with_reducible rfl
  simp only [Act.put, List.setIfInBounds_toArray, List.set_cons_zero, List.set_cons_succ]
  refine AnyBut.take0 (i := 5) (oi := ⟨_, _, _, _, _, _⟩) (v := ?_) rfl (by kernel_rfl) (by kernel_rfl) (by kernel_rfl) (fun _ _ _ h => h) (Or.inl ⟨by rfl, ?_⟩) ?_
  rotate_left
  · intro w; go_simp <;> with_reducible rfl
  simp only [Act.put, List.setIfInBounds_toArray, List.set_cons_zero, List.set_cons_succ]
  refine AnyBut.take0 (i := 6) (oi := ⟨_, _, _, _, _, _⟩) (v := ?_) rfl (by kernel_rfl) (by kernel_rfl) (by kernel_rfl) (fun _ _ _ h => h) (Or.inl ⟨by rfl, ?_⟩) ?_
  rotate_left
  · intro w; go_simp <;> with_reducible rfl
  simp only [Act.put, List.setIfInBounds_toArray, List.set_cons_zero, List.set_cons_succ]
  refine AnyBut.take0 (i := 7) (oi := ⟨_, _, _, _, _, _⟩) (v := ?_) rfl (by kernel_rfl) (by kernel_rfl) (by kernel_rfl) (fun _ _ _ h => h) (Or.inl ⟨by rfl, ?_⟩) ?_
  rotate_left
  · intro w; go_simp <;> with_reducible rfl
  simp only [Act.put, List.setIfInBounds_toArray, List.set_cons_zero, List.set_cons_succ]
  refine AnyBut.take0 (i := 8) (oi := ⟨_, _, _, _, _, _⟩) (v := ?_) rfl (by kernel_rfl) (by kernel_rfl) (by kernel_rfl) (fun _ _ _ h => h) (Or.inl ⟨by rfl, ?_⟩) ?_
  rotate_left
  · intro w; go_simp <;> with_reducible rfl
  simp only [Act.put, List.setIfInBounds_toArray, List.set_cons_zero, List.set_cons_succ]
  refine AnyBut.take (i := 9) (oi := ⟨_, _, _, _, _, _⟩) (v := ?_) rfl (by kernel_rfl) (by kernel_rfl) (by kernel_rfl) (by kernel_rfl) (fun _ _ _ h => h) (Or.inl ⟨by rfl, ?_⟩) ⟨rfl, fun _ _ => rfl⟩ ?_
  rotate_left
  · intro u hSu; have qc := (HB.out.same hSu.1).at.c1; go_simp <;> with_reducible rfl
  simp only [Act.put, List.setIfInBounds_toArray, List.set_cons_zero, List.set_cons_succ]
  refine AnyBut.take (i := 10) (oi := ⟨_, _, _, _, _, _⟩) (v := ?_) rfl (by kernel_rfl) (by kernel_rfl) (by kernel_rfl) (by kernel_rfl) (fun _ _ _ h => h) (Or.inl ⟨by rfl, ?_⟩) ⟨rfl, fun _ _ => rfl⟩ ?_
  rotate_left
  · intro u hSu; have qc := run_str (HRW.out u hSu.2); go_simp <;> with_reducible rfl
  simp only [Act.put, List.setIfInBounds_toArray, List.set_cons_zero, List.set_cons_succ]
  refine AnyBut.take0 (i := 11) (oi := ⟨_, _, _, _, _, _⟩) (v := ?_) rfl (by kernel_rfl) (by kernel_rfl) (by kernel_rfl) (fun _ _ _ h => h) (Or.inl ⟨by rfl, ?_⟩) ?_
  rotate_left
  · intro w; go_simp <;> with_reducible rfl
  simp only [Act.put, List.setIfInBounds_toArray, List.set_cons_zero, List.set_cons_succ]
  refine AnyBut.ready (rs := [12]) (by kernel_rfl) (by simp) ?_
  refine ButReady.cons (o := ⟨_, _, _, _, _, _⟩) rfl (fun K hK => ?_) ButReady.nil
  go_simp
  refine hK _ _ (fun _ h => ⟨(Below.heap_alloc w8 _ p (by have := HKD.out.s.b.lt; exact this)).trans h.1, fun b hb => (Below.heap_alloc w8 _ b (ownB_type HKD.out.s.tx b hb).1).trans (h.2 b hb)⟩) ?_
  clear hK K
  have hA : Below w8.heap.size w8 (w8.alloc (.cells #[.int .i64 (kd : Nat), .string (strN s.text)] 26)) := (Below.refl _ _).alloc (Nat.le_refl _) _
  have HKA := Lib.hid (HKD.out.below hA)
  have n0 : (w8.alloc (.cells #[.int .i64 (kd : Nat), .string (strN s.text)] 26)).cell? ⟨w8.heap.size, 0, none⟩ = some (.int .i64 (kd : Nat)) := cell_of_row _ _ 0 _ 26 (0, 0) (heap_alloc_new w8 _)
  have n1 : (w8.alloc (.cells #[.int .i64 (kd : Nat), .string (strN s.text)] 26)).cell? ⟨w8.heap.size, 1, none⟩ = some (.string (strN s.text)) := cell_of_row _ _ 1 _ 26 (0, 0) (heap_alloc_new w8 _)
  generalize w8.alloc (.cells #[.int .i64 (kd : Nat), .string (strN s.text)] 26) = w9 at *
  refine AnyBut.ready (rs := [13]) (by kernel_rfl) (by simp) ?_
  refine ButReady.cons (o := ⟨_, _, _, _, _, _⟩) rfl (fun K hK => ?_) ButReady.nil
  refine step_appT rfl (.tmp 9) (.tmp 17) rfl rfl HKA.out.s.ot w8.heap.size rfl (kd, s.text) n0 n1 hlen (fun o1 w10 oA gA mA => hK _ _ (fun _ h => ⟨(gA.block p HKA.out.s.b.lt (fun e => ownT_ne HKA.out.s.ot HKA.out.s.b.row (by decide) e.symm)).trans h.1, fun b hb => (gA.block b (ownB_type HKA.out.s.tx b hb).1 (fun e => own_apart HKA.out.s.ot HKA.out.s.tx b e.symm hb)).trans (h.2 b hb)⟩) ?_)
  clear hK K
  simp only [Act.put, List.setIfInBounds_toArray, List.set_cons_zero, List.set_cons_succ]
  obtain ⟨oa, oc, rfl⟩ := oA.shape
  simp only [List.length_append, List.length_cons, List.length_nil, Nat.zero_add] at oA mA
  have HOA := Lib.hid oA
  have HGA := Lib.hid gA
  have HMA := Lib.hid mA
  have HBA := Lib.hid (HKA.out.s.b.grown gA (ownT_ne HKA.out.s.ot HKA.out.s.b.row (by decide)))
  obtain ⟨e0, e1, e2, e3, e4, z0, z1, z2, z3, z4⟩ := HBA.out.at
  clear oA gA mA
  refine AnyBut.take0 (i := 14) (oi := ⟨_, _, _, _, _, _⟩) (v := ?_) rfl (by kernel_rfl) (by kernel_rfl) (by kernel_rfl) (fun _ _ _ h => h) (Or.inl ⟨by rfl, ?_⟩) ?_
  rotate_left
  · intro w; go_simp <;> with_reducible rfl
  simp only [Act.put, List.setIfInBounds_toArray, List.set_cons_zero, List.set_cons_succ]
  refine AnyBut.take0 (i := 15) (oi := ⟨_, _, _, _, _, _⟩) (v := ?_) rfl (by kernel_rfl) (by kernel_rfl) (by kernel_rfl) (fun _ _ _ h => h) (Or.inl ⟨by rfl, ?_⟩) ?_
  rotate_left
  · intro w; go_simp <;> with_reducible rfl
  simp only [Act.put, List.setIfInBounds_toArray, List.set_cons_zero, List.set_cons_succ]
  refine AnyBut.ready (rs := [16]) (by kernel_rfl) (by simp) ?_
  refine ButReady.cons (o := ⟨_, _, _, _, _, _⟩) rfl (fun K hK => ?_) ButReady.nil
  go_simp
  refine hK _ _ (fun h => by simp at h) ?_
  clear hK K
  refine AnyBut.done (by kernel_rfl) ?_ _
  have HK2 := Lib.hid (HKA.out.app (s' := { s with out := s.out ++ [(kd, s.text)] }) HOA.out HGA.out HMA.out rfl rfl rfl rfl)
  clear e0 e1 e2 e3 e4 z0 z1 z2 z3 z4 n0 n1 hA HKA HBA HOA HGA HMA HKD HB HRW HK
  generalize w10.setCell ⟨p, 0, none⟩ (.slice oa (s.out.length + 1) oc) = w11 at *
  obtain ⟨c0, c1, c2, c3, c4, x0, x1, x2, x3, x4⟩ := HK2.out.s.b.at
  go_upto_region 4 with fail
  have HK3 := Lib.hid (HK2.out.wipe (s' := { s with out := s.out ++ [(kd, s.text)], text := [] }) rfl rfl rfl rfl)
  have HK4 := Lib.hid (HK3.out.put (j := 3) (v := .bool false) (s' := tellS s kd) (HK3.out.s.b.set3 false) rfl rfl)
  clear c0 c1 c2 c3 c4 x0 x1 x2 x3 x4 HK2 HK3
  generalize (w11.setCell ⟨p, 1, none⟩ (.slice none 0 0)).setCell ⟨p, 3, none⟩ (.bool false) = w12 at *
  go_wp2_with fail
  refine (start_any w12).mono ?_
  rintro e w13 ⟨rfl, hb13⟩
  have HK5 := Lib.hid (HK4.out.below hb13)
  clear hb13 HK4
  go_wp2_with fail
  rw [HK5.out.r.store (mdV_one _)]
  go_wp2_with fail
  have hk := HK5.out.res (mdV .btw)
  exact bodyPost_ret (v := .agg #[mdV .btw]) (ret42 hk.r rfl _ rfl) rfl (hk.done rfl)
end Go.Proofs.YtghibofnfjnfcaaGreatDoor
