/-
  The reference's Write.
-/
import Derived.Test.YtgdfobhhkfplbaaRShow
namespace Go.Proofs.Ytgdfobhhkfplbaa
set_option linter.unusedVariables false
open Go.RowKit

theorem Try.info72 : (Try.prog.info? 72).map (fun i => (i.zero, i.size, i.bytes)) = some (some (.agg (wrow 0 (zeros 64)).toArray), 65, 72) := by kernel_rfl
theorem run_build40 (X : List Value) (hX : X.length = 65) (w : World) : (Instr.buildSlice 40 1 #[(0, .agg X.toArray)]).run Try.prog w = .ok (.slice (some ⟨w.heap.size, 0, none⟩) 1 1) (w.alloc (.cells X.toArray 72)) := by
  obtain ⟨i0, hi, hz0, hz1, hz2⟩ := info_parts Try.info72
  refine run_buildSlice w 40 72 1 _ _ i0 _ Try.underlying40 hi hz0 (by rw [hz1]; decide) (by rw [hz1]; decide) ?_
  rw [hz1]
  have := Great.fill_whole (s := 65) (by decide) [.agg X.toArray] ((Array.range (1 * 65)).map ((Value.agg (wrow 0 (zeros 64)).toArray).cells[· % (Value.agg (wrow 0 (zeros 64)).toArray).cells.size]!)) (by intro v hv; simp at hv; subst hv; simp [Value.cells, hX]) (by simp)
  simp only [List.zipIdx_cons, List.zipIdx_nil, List.map_cons, List.map_nil, List.flatMap_cons, List.flatMap_nil, List.append_nil, Value.cells] at this
  exact this

theorem step_append_w72 {ops : Array Oper} {o : Oper} {a : Act} {w : World} {K : Act → World → Prop} {Q : Exit → Act → World → Prop} {E : Prop}
    (hg : o.guard = none) (s x : Operand) (hop : o.op = Op.call { callee := Callee.builtin Builtin.append, args := #[s, x], argTypes := #[40, 40] })
    (v : Value) (n : Nat) (xs : List Value) (hs : a.eval s = v) (hown : w.ownsRow 0 72 65 v n xs) (ad : Addr) (hx : a.eval x = .slice (some ad) 1 1) (news : List Value) (hl : news.length = 65)
    (hnews : ∀ j u, news[j]? = some u → w.cell? (ad.add j) = some u) (h1 : ∀ u ∈ news, u.oneCell' = true) (hn : n < 1000000)
    (hK : ∀ g cap w', w'.ownsRow 0 72 65 (.slice (some ⟨g, 0, none⟩) (n + 1) cap) (n + 1) (xs ++ news) → w.grownBy w' v.ownBlock → (v.ownBlock = some g ∨ g = w.heap.size) → K (a.put o.dst (.slice (some ⟨g, 0, none⟩) (n + 1) cap)) w') :
    if Region.wanted o (yielded ops a.tmps) = true then Oper.wp Try.prog o a w K Q else E := by
  have hw : Region.wanted o (yielded ops a.tmps) = true := by simp [Region.wanted, hg]
  rw [if_pos hw]
  obtain ⟨i0, hi, hz0, hz1, hz2⟩ := info_parts Try.info72
  obtain ⟨v', w', hr, h2, h3, h4, h5⟩ := run_append_own_at (P := Try.prog) w 0 40 o.type 72 i0 _ 65 72 Try.underlying40 hi hz0 hz1 hz2 rfl (by decide) v n xs hown ad 1 1 news (by omega) hnews h1 (by simp [maxLen]; omega) (by omega) (Nat.zero_le _)
  have hr2 : (Builtin.append_ #[40, 40] o.type #[v, .slice (some ad) 1 1]).run Try.prog w = .ok v' w' := hr
  rcases h2.2 with ⟨rfl, h0⟩ | ⟨g, cap, cur, rfl, r⟩
  · omega
  · unfold Oper.wp execOp
    simp only [hop, resolve, invoke, builtin, Sem.run_bind, Sem.run_pure, Result.andThen_ok, List.map_toArray, List.map_cons, List.map_nil, hs, hx, hr2]
    exact hK g cap w' h2 h3 (by rcases h5 with h5 | h5; exact .inl h5.symm; exact .inr (by simpa [Value.ownBlock] using h5))

theorem run_load40 {w : World} {p : Nat} {a : Act} {o : Oper} (x : Operand) (ho : o.op = .load 40 x) (hx : a.eval x = .pointer (some ⟨p, 1, none⟩)) {wa : Option Addr} {n c : Nat} (hc : w.cell? ⟨p, 1, none⟩ = some (.slice wa n c)) : (execOp a.eval o).run Try.prog w = .ok (.value (.slice wa n c)) w := by
  unfold execOp
  simp only [ho, hx]
  go_simp

theorem run_build40' {w : World} {a : Act} {o : Oper} (x : Operand) (ho : o.op = .buildSlice 40 1 #[(0, x)]) {X : List Value} (hX : X.length = 65) (hx : a.eval x = .agg X.toArray) : (execOp a.eval o).run Try.prog w = .ok (.value (.slice (some ⟨w.heap.size, 0, none⟩) 1 1)) (w.alloc (.cells X.toArray 72)) := by
  unfold execOp
  simp only [ho, List.map_toArray, List.map_cons, List.map_nil, hx, run_build40 X hX w, Sem.run_bind, Sem.run_pure, Result.andThen_ok]

theorem step_store40 {ops : Array Oper} {o : Oper} {a : Act} {w : World} {K : Act → World → Prop} {Q : Exit → Act → World → Prop} {E : Prop} (hg : o.guard = none) {p : Nat} (x y : Operand) (ho : o.op = .store 40 x y) (hx : a.eval x = .pointer (some ⟨p, 1, none⟩)) {g n c : Nat} (hy : a.eval y = .slice (some ⟨g, 0, none⟩) n c) {u : Value} (hc : w.cell? ⟨p, 1, none⟩ = some u) (hf : w.frozen? ⟨p, 1, none⟩ = false)
    (hK : K (a.put o.dst undef) (w.setCell ⟨p, 1, none⟩ (.slice (some ⟨g, 0, none⟩) n c))) : if Region.wanted o (yielded ops a.tmps) = true then Oper.wp Try.prog o a w K Q else E := by
  have hw : Region.wanted o (yielded ops a.tmps) = true := by simp [Region.wanted, hg]
  rw [if_pos hw]
  unfold Oper.wp execOp
  simp only [ho, hx, hy]
  go_simp
  exact hK

theorem run_build72 (n : Int) (d : List Nat) (hd : d.length = 64) (w : World) : (Instr.build 72 #[(0, .int .i64 n), (1, .agg (u8s d).toArray)]).run Try.prog w = .ok (.agg (wrow n d).toArray) w := by
  refine run_build w 72 _ _ ?_
  have hb : Try.prog.built 72 [(0, .int .i64 n), (1, .agg (u8s d).toArray)] = Instr.fill (fun i => #[(0, 1), (1, 64)][i]?) (wrow 0 (zeros 64)).toArray [(0, .int .i64 n), (1, .agg (u8s d).toArray)] := by kernel_rfl
  rw [show (#[(0, Value.int IntKind.i64 n), (1, Value.agg (u8s d).toArray)] : Array (Nat × Value)).toList = [(0, .int .i64 n), (1, .agg (u8s d).toArray)] from rfl, hb]
  have h := Great.foldl_set 1 (u8s d) 0 (wrow n (zeros 64)).toArray
  have hz : (zeros 64).length = 64 := by simp [zeros]
  simp [Instr.fill, Value.cells, hd, wrow, hz] at h ⊢
  obtain ⟨hs, hk⟩ := h
  apply Array.ext_getElem?
  intro k
  rw [hk]
  rcases Nat.eq_zero_or_pos k with rfl | hk0
  · simp
  · by_cases hk65 : k < 65
    · obtain ⟨m, rfl⟩ : ∃ m, k = m + 1 := ⟨k - 1, by omega⟩
      simp [hk65]
    · rw [if_neg (by omega)]
      obtain ⟨m, rfl⟩ : ∃ m, k = m + 1 := ⟨k - 1, by omega⟩
      simp only [List.getElem?_cons_succ, List.getElem?_toArray]
      rw [List.getElem?_eq_none (by simp [hz]; omega), List.getElem?_eq_none (by simp [hd]; omega)]
theorem run_load65' {w : World} {g : Nat} {a : Act} {o : Oper} (x : Operand) (ho : o.op = .load 65 x) (hx : a.eval x = .pointer (some ⟨g, 0, none⟩)) {d : List Nat} (hd : d.length = 64) (hc : w.rangeAt g 0 (u8s d)) : (execOp a.eval o).run Try.prog w = .ok (.value (.agg (u8s d).toArray)) w := by
  unfold execOp
  simp only [ho, hx, Sem.run_bind, run_loadAt_mid w g 0 65 (u8s d) _ hc Try.underlying65 rfl (by rw [load65s]; simp [hd]), Sem.run_pure, Result.andThen_ok]
theorem run_build72' {w : World} {a : Act} {o : Oper} (x y : Operand) (ho : o.op = .build 72 #[(0, x), (1, y)]) {n : Int} {d : List Nat} (hd : d.length = 64) (hx : a.eval x = .int .i64 n) (hy : a.eval y = .agg (u8s d).toArray) : (execOp a.eval o).run Try.prog w = .ok (.value (.agg (wrow n d).toArray)) w := by
  unfold execOp
  simp only [ho, List.map_toArray, List.map_cons, List.map_nil, hx, hy, run_build72 n d hd w, Sem.run_bind, Sem.run_pure, Result.andThen_ok]

theorem rwrite_off {w : World} {q : Nat} {sv uv : Value} {arm : Int} (h : RV w q sv uv arm true) (a : Int) (v : Value) : Calls Try.prog 27 #[.pointer (some ⟨q, 0, none⟩), .int .i64 a, v] w fun e w' => e = .returned (.int .i64 3) ∧ w = w' := by
  have c3 := h.cell3
  clear h
  go_enter Try.func27, Try.ntmps27
  go_wp2_with fail
  go_ret
  exact ⟨rfl, rfl⟩
theorem rwrite_arg {w : World} {q : Nat} {sa : Option Addr} {n sc : Nat} {uv : Value} {arm : Int} (h : RV w q (.slice sa n sc) uv arm false) (a : Int) (va : Option Addr) (vn vc : Nat) (hbad : hasB n a = false ∨ vn ≠ 64) : Calls Try.prog 27 #[.pointer (some ⟨q, 0, none⟩), .int .i64 a, .slice va vn vc] w fun e w' => e = .returned (.int .i64 1) ∧ w = w' := by
  have c3 := h.cell3
  have c0 := h.cell0
  clear h
  by_cases h0 : a < 0
  · clear hbad
    go_enter Try.func27, Try.ntmps27
    go_wp2_with fail
    go_ret
    exact ⟨rfl, rfl⟩
  · by_cases h1 : a < (n : Int)
    · have hne : ¬ (vn : Int) = 64 := by
        rcases hbad with hb | hb
        · simp [hasB] at hb; omega
        · omega
      have hne2 : ((vn : Int) == 64) = false := beq_eq_false_iff_ne.2 hne
      have hge : ¬ (n : Int) ≤ a := by omega
      clear hbad
      go_enter Try.func27, Try.ntmps27
      go_wp2_with fail
      go_ret
      exact ⟨rfl, rfl⟩
    · clear hbad
      go_enter Try.func27, Try.ntmps27
      go_wp2_with fail
      go_ret
      exact ⟨rfl, rfl⟩

/-- the bytes are copied into the new array -/
theorem copy65 {w : World} {ops : Array Oper} {rest : List Oper} {op : Oper} {a : Act} {Q : Exit → Act → World → Prop} (hgd : op.guard = none) (d s : Operand) (ho : op.op = .call { callee := .builtin .copy, args := #[d, s], argTypes := #[30, 30] })
    (bb bo bc : Nat) (hd : a.eval d = .slice (some ⟨w.heap.size, 0, none⟩) 64 64) (hs : a.eval s = .slice (some ⟨bb, bo, none⟩) 64 bc) (l b : List Nat) (hl : l.length = 64) (hbl : b.length = 64)
    (hsrc : w.rangeAt bb bo (u8s b)) (hbb : bb < w.heap.size)
    (h : wpList Try.prog ops Q rest (a.put op.dst (goInt 64)) (w.alloc (.cells (u8s b).toArray 65))) : wpList Try.prog ops Q (op :: rest) a (w.alloc (.cells (u8s l).toArray 65)) := by
  obtain ⟨i0, hi, hz0, hz1, hz2⟩ := info_parts Try.info5
  refine wpList_copy_own hgd d s 30 30 ho 5 Try.underlying30 (by rw [hi]; simp [hz1]) w.heap.size 0 64 64 ⟨bb, bo, none⟩ 64 bc hd hs (u8s l).toArray 65 (heap_alloc_new w _) (u8s b) (by simp [hbl]) ?_ (by simp [hl, hbl]) (u8s_one b) ?_
  · intro j v hj
    rw [Addr.add_mid]
    exact rangeAt_alloc hsrc hbb _ j v hj
  · rw [World.setRow_alloc_new, u8s_length, hbl]
    have e : (List.take 0 (u8s l).toArray.toList ++ (u8s b ++ List.drop (0 + 64) (u8s l).toArray.toList)) = u8s b := by
      rw [List.drop_of_length_le (by simp [hl])]
      simp
    rw [e]
    exact h

set_option maxRecDepth 100000 in
set_option maxHeartbeats 1000000 in
theorem rwrite_ok {w : World} {q : Nat} {sv uv : Value} {S : List (List Nat)} {W : List (Nat × List Nat)} {arm : Nat} (h : RDk w q sv uv S W arm false) (a : Nat) (ha : a < S.length) (hS : S.length ≤ 65536) (bv : Value) (b : List Nat) (hb : RowB w bv b) (hbl : b.length = 64) (hwl : W.length < 1000000) (harm : arm ≤ 9223372036854775807) :
    Calls Try.prog 27 #[.pointer (some ⟨q, 0, none⟩), .int .i64 (a : Int), bv] w fun e w' => REnd w q sv uv S (W ++ [(a, b)]) (hitOf arm).1 (hitOf arm).2 (.int .i64 (if (hitOf arm).2 then 3 else 0)) e w' := by
  obtain ⟨a2, d2, hh2⟩ : ∃ a2 d2, hitOf arm = (a2, d2) := ⟨_, _, rfl⟩
  rw [hh2]
  simp only
  have HHIT := Lib.hid hh2
  clear hh2
  obtain ⟨sa, sc, rfl⟩ := own_shape h.kept
  obtain ⟨ua, uc, rfl⟩ := own_shape h.waits
  obtain ⟨bb, bo, bc, rfl, -, hbc, hbm, hbcell⟩ : ∃ bb bo bc, bv = .slice (some ⟨bb, bo, none⟩) b.length bc ∧ 0 < b.length ∧ b.length ≤ bc ∧ bc ≤ maxLen ∧ ∀ j, (hj : j < b.length) → w.cell? ⟨bb, bo + j, none⟩ = some (.int .u8 (b[j] : Nat)) := by
    rcases hb.shape with ⟨rfl, _⟩ | ⟨bb, bo, bc, rfl, h1, h2, h3, h4⟩
    · simp at hbl
    · exact ⟨bb, bo, bc, rfl, h1, h2, h3, h4⟩
  have HBL := Lib.hid hbl
  rw [hbl] at hbc ⊢
  clear hbl
  have hsrc : w.rangeAt bb bo (u8s b) := by
    intro j v hj
    have hjl : j < b.length := by have := (List.getElem?_eq_some_iff.1 hj).1; simpa using this
    have hc := hbcell j hjl
    rw [u8s_get b j hjl] at hj
    cases hj
    exact hc
  have hbb : bb < w.heap.size := World.block_lt_of_cell? w _ (hbcell 0 (by rw [HBL.out]; decide))
  have HSRC := Lib.hid hsrc
  have c3 := h.row.cell3
  have c0 := h.row.cell0
  have hn0 : ¬ (a : Int) < 0 := by omega
  have hai : (a : Int) < (S.length : Int) := by omega
  have hqs := lt_of_block h.row
  have H := Lib.hid h
  clear hsrc hbcell hb h
  go_enter Try.func27, Try.ntmps27
  go_wp2_with (first | (refine alloc65 rfl rfl ?_) | (refine copy65 rfl (.tmp 29) (.tmp 30) rfl bb bo bc rfl rfl _ b (by simp [zeros]) HBL.out HSRC.out hbb ?_))
  have HA : RV (w.alloc (.cells (u8s b).toArray 65)) q (.slice sa S.length sc) (.slice ua W.length uc) arm false := H.out.row.beside (own := fun _ => False) ((Beside.refl _ _).alloc _) (fun h => h)
  have hk := rhit HA harm
  rw [HHIT.out] at hk
  simp only at hk
  refine hk.mono ?_
  rintro e w2 ⟨rfl, hv2, hb2⟩
  have hB2 : Beside (· = q) w w2 := ((Beside.refl _ _).alloc _).trans (hb2.mono fun k _ hk => hk)
  have hw2 : w2.ownsRow 0 72 65 (.slice ua W.length uc) W.length (wcells W) := ownsRow_beside H.out.waits hB2 (fun k hk => ownsRow_ne H.out.waits H.out.row (by decide) k hk)
  have hk2 : w2.ownsRow 0 65 64 (.slice sa S.length sc) S.length (secs S) := ownsRow_beside H.out.kept hB2 (fun k hk => ownsRow_ne H.out.kept H.out.row (by decide) k hk)
  have hnew2 : w2.heap[w.heap.size]? = some (.cells (u8s b).toArray 65 (0, 0)) := by
    rw [hb2.block w.heap.size (by simp) (by omega)]
    exact heap_alloc_new w _
  have HR4 : Hid (w2.rangeAt w.heap.size 0 (u8s b)) := Lib.hid fun j v hj => by
    rw [Nat.zero_add, cell_of_row _ _ j _ 65 (0, 0) hnew2]
    simpa using hj
  have e1 := hv2.cell1
  have HV2 := Lib.hid hv2
  have HB2 := Lib.hid hB2
  have HW2 := Lib.hid hw2
  have HK2 := Lib.hid hk2
  have hX := wrow_len (a : Int) b HBL.out
  have HD64 := HBL.out
  have hs2 := hB2.size
  clear hk hv2 hb2 hB2 hw2 hk2 hnew2 HA c3 c0 HSRC
  go_wp2_with fail
  have HWT : Hid ((w2.drew.alloc (.cells (wrow (a : Int) b).toArray 72)).ownsRow 0 72 65 (.slice ua W.length uc) W.length (wcells W)) := Lib.hid (ownsRow_beside (own := fun _ => False) HW2.out (((Beside.refl _ _).drew).alloc _) (fun _ _ h => h))
  have hVT : RV (w2.drew.alloc (.cells (wrow (a : Int) b).toArray 72)) q (.slice sa S.length sc) (.slice ua W.length uc) a2 d2 := HV2.out.beside (own := fun _ => False) (((Beside.refl _ _).drew).alloc _) (fun h => h)
  have e2 := hVT.cell1
  have HVT := Lib.hid hVT
  clear hVT
  refine wp_region_any (by kernel_rfl) ?_
  try (change wpAny _ _ _ _ _ _ _ (World.drew _))
  refine wpAny_take (i := 0) (oi := ⟨_, _, _, _, _, _⟩) (v := ?_) rfl (by kernel_rfl) (by kernel_rfl) (by kernel_rfl) (fun _ _ _ h => h) (Or.inl ⟨by rfl, ?_⟩) ?_
  rotate_left
  · intro w; go_simp <;> with_reducible rfl
  simp only [Act.put, List.setIfInBounds_toArray, List.set_cons_zero, List.set_cons_succ]
  refine wpAny_take (i := 1) (oi := ⟨_, _, _, _, _, _⟩) (v := ?_) rfl (by kernel_rfl) (by kernel_rfl) (by kernel_rfl) (fun _ _ _ h => h) (Or.inl ⟨by rfl, ?_⟩) ?_
  rotate_left
  · intro w; go_simp <;> with_reducible rfl
  simp only [Act.put, List.setIfInBounds_toArray, List.set_cons_zero, List.set_cons_succ]
  refine wpAny_take (i := 2) (oi := ⟨_, _, _, _, _, _⟩) (v := ?_) rfl (by kernel_rfl) (by kernel_rfl) (by kernel_rfl) (fun _ _ _ h => h) (Or.inl ⟨by rfl, ?_⟩) ?_
  rotate_left
  · intro w; go_simp <;> with_reducible rfl
  simp only [Act.put, List.setIfInBounds_toArray, List.set_cons_zero, List.set_cons_succ]
  refine wpAny_take (i := 3) (oi := ⟨_, _, _, _, _, _⟩) (v := ?_) rfl (by kernel_rfl) (by kernel_rfl) (by kernel_rfl) (fun _ _ _ h => h) (Or.inl ⟨by rfl, ?_⟩) ?_
  rotate_left
  · intro w; go_simp <;> with_reducible rfl
  simp only [Act.put, List.setIfInBounds_toArray, List.set_cons_zero, List.set_cons_succ]
  refine wpAny_take (i := 5) (oi := ⟨_, _, _, _, _, _⟩) (v := ?_) rfl (by kernel_rfl) (by kernel_rfl) (by kernel_rfl) (fun _ _ _ h => h) (Or.inl ⟨by rfl, ?_⟩) ?_
  rotate_left
  · intro w; go_simp <;> with_reducible rfl
  simp only [Act.put, List.setIfInBounds_toArray, List.set_cons_zero, List.set_cons_succ]
  apply via
  · intro hT
    refine wpAny_ready (rs := [4, 6]) (by kernel_rfl) (by simp) ?_
    refine AllReady.cons (o := ⟨_, _, _, _, _, _⟩) rfl (fun K hK => ?_) ?_
    · refine step_run rfl _ (run_load40 (.tmp 37) rfl rfl e1) (hK _ _ ?_)
      simp only [Act.put, List.setIfInBounds_toArray, List.set_cons_zero, List.set_cons_succ]
      refine wpAny_ready (rs := [6]) (by kernel_rfl) (by simp) ?_
      refine AllReady.cons (o := ⟨_, _, _, _, _, _⟩) rfl (fun K hK => ?_) ?_
      · refine step_run rfl _ (run_load65' (.tmp 7) rfl rfl HD64 HR4.out) (hK _ _ ?_)
        simp only [Act.put, List.setIfInBounds_toArray, List.set_cons_zero, List.set_cons_succ]
        refine wpAny_ready (rs := [7]) (by kernel_rfl) (by simp) ?_
        refine AllReady.cons (o := ⟨_, _, _, _, _, _⟩) rfl (fun K hK => ?_) ?_
        · refine step_run rfl _ (run_build72' (.tmp 39) (.tmp 40) rfl HD64 rfl rfl) (hK _ _ ?_)
          simp only [Act.put, List.setIfInBounds_toArray, List.set_cons_zero, List.set_cons_succ]
          refine wpAny_ready (rs := [8]) (by kernel_rfl) (by simp) ?_
          refine AllReady.cons (o := ⟨_, _, _, _, _, _⟩) rfl (fun K hK => ?_) ?_
          · refine step_run rfl _ (run_build40' (.tmp 41) rfl hX rfl) (hK _ _ ?_)
            simp only [Act.put, List.setIfInBounds_toArray, List.set_cons_zero, List.set_cons_succ]
            exact hT
          · exact AllReady.nil
        · exact AllReady.nil
      · exact AllReady.nil
    · refine AllReady.cons (o := ⟨_, _, _, _, _, _⟩) rfl (fun K hK => ?_) ?_
      · refine step_run rfl _ (run_load65' (.tmp 7) rfl rfl HD64 HR4.out) (hK _ _ ?_)
        simp only [Act.put, List.setIfInBounds_toArray, List.set_cons_zero, List.set_cons_succ]
        refine wpAny_ready (rs := [4, 7]) (by kernel_rfl) (by simp) ?_
        refine AllReady.cons (o := ⟨_, _, _, _, _, _⟩) rfl (fun K hK => ?_) ?_
        · refine step_run rfl _ (run_load40 (.tmp 37) rfl rfl e1) (hK _ _ ?_)
          simp only [Act.put, List.setIfInBounds_toArray, List.set_cons_zero, List.set_cons_succ]
          refine wpAny_ready (rs := [7]) (by kernel_rfl) (by simp) ?_
          refine AllReady.cons (o := ⟨_, _, _, _, _, _⟩) rfl (fun K hK => ?_) ?_
          · refine step_run rfl _ (run_build72' (.tmp 39) (.tmp 40) rfl HD64 rfl rfl) (hK _ _ ?_)
            simp only [Act.put, List.setIfInBounds_toArray, List.set_cons_zero, List.set_cons_succ]
            refine wpAny_ready (rs := [8]) (by kernel_rfl) (by simp) ?_
            refine AllReady.cons (o := ⟨_, _, _, _, _, _⟩) rfl (fun K hK => ?_) ?_
            · refine step_run rfl _ (run_build40' (.tmp 41) rfl hX rfl) (hK _ _ ?_)
              simp only [Act.put, List.setIfInBounds_toArray, List.set_cons_zero, List.set_cons_succ]
              exact hT
            · exact AllReady.nil
          · exact AllReady.nil
        · refine AllReady.cons (o := ⟨_, _, _, _, _, _⟩) rfl (fun K hK => ?_) ?_
          · refine step_run rfl _ (run_build72' (.tmp 39) (.tmp 40) rfl HD64 rfl rfl) (hK _ _ ?_)
            simp only [Act.put, List.setIfInBounds_toArray, List.set_cons_zero, List.set_cons_succ]
            refine wpAny_ready (rs := [4, 8]) (by kernel_rfl) (by simp) ?_
            refine AllReady.cons (o := ⟨_, _, _, _, _, _⟩) rfl (fun K hK => ?_) ?_
            · refine step_run rfl _ (run_load40 (.tmp 37) rfl rfl e1) (hK _ _ ?_)
              simp only [Act.put, List.setIfInBounds_toArray, List.set_cons_zero, List.set_cons_succ]
              refine wpAny_ready (rs := [8]) (by kernel_rfl) (by simp) ?_
              refine AllReady.cons (o := ⟨_, _, _, _, _, _⟩) rfl (fun K hK => ?_) ?_
              · refine step_run rfl _ (run_build40' (.tmp 41) rfl hX rfl) (hK _ _ ?_)
                simp only [Act.put, List.setIfInBounds_toArray, List.set_cons_zero, List.set_cons_succ]
                exact hT
              · exact AllReady.nil
            · refine AllReady.cons (o := ⟨_, _, _, _, _, _⟩) rfl (fun K hK => ?_) ?_
              · refine step_run rfl _ (run_build40' (.tmp 41) rfl hX rfl) (hK _ _ ?_)
                simp only [Act.put, List.setIfInBounds_toArray, List.set_cons_zero, List.set_cons_succ]
                refine wpAny_ready (rs := [4]) (by kernel_rfl) (by simp) ?_
                refine AllReady.cons (o := ⟨_, _, _, _, _, _⟩) rfl (fun K hK => ?_) ?_
                · refine step_run rfl _ (run_load40 (.tmp 37) rfl rfl e2) (hK _ _ ?_)
                  simp only [Act.put, List.setIfInBounds_toArray, List.set_cons_zero, List.set_cons_succ]
                  exact hT
                · exact AllReady.nil
              · exact AllReady.nil
          · exact AllReady.nil
      · exact AllReady.nil
  refine wpAny_ready (rs := [9]) (by kernel_rfl) (by simp) ?_
  refine AllReady.cons (o := ⟨_, _, _, _, _, _⟩) rfl (fun K hK => ?_) ?_
  · refine step_append_w72 rfl (.tmp 38) (.tmp 42) rfl _ W.length (wcells W) rfl HWT.out _ rfl (wrow (a : Int) b) hX (fun j v hj => by
      rw [Addr.add_mid, Nat.zero_add, cell_of_row _ _ j _ 72 (0, 0) (heap_alloc_new _ _)]
      simpa using hj) (wrow_one _ _) hwl (fun g cap w5 hown hgr hg => hK _ _ ?_)
    clear hK K
    have hb5 : Beside (fun k => (Value.slice ua W.length uc).ownBlock = some k) w2 w5 := Beside.grown (own := fun k => (Value.slice ua W.length uc).ownBlock = some k) (((Beside.refl _ _).drew).alloc _) hgr (fun k hk => .inl hk)
    have hv5 : RV w5 q (.slice sa S.length sc) (.slice ua W.length uc) a2 d2 := HV2.out.beside hb5 (fun hk => ownsRow_ne HW2.out HV2.out (by decide) q hk rfl)
    have hk5 : w5.ownsRow 0 65 64 (.slice sa S.length sc) S.length (secs S) := ownsRow_beside HK2.out hb5 (fun k hk hk2 => by
      rcases HW2.out.2 with ⟨e, _⟩ | ⟨g', cap', cur, e, _, hh, _⟩
      · rw [e] at hk2; cases hk2
      · rw [e] at hk2
        simp [Value.ownBlock] at hk2
        subst hk2
        exact ownsRow_ne HK2.out hh (by decide) _ hk rfl)
    have d1 := hv5.cell1
    have g1 := hv5.free 1
    have hs5 := hb5.size
    have hgl : g < w5.heap.size := own_lt hown g rfl
    have HFIN : Hid (∀ v, REnd w q (.slice sa S.length sc) (.slice ua W.length uc) S (W ++ [(a, b)]) a2 d2 v (.returned v) (w5.setCell ⟨q, 1, none⟩ (.slice (some ⟨g, 0, none⟩) (W.length + 1) cap))) := Lib.hid fun v => by
      refine ⟨_, _, rfl, ⟨hv5.set1 _, ownsRow_set hk5 (fun k hk => ownsRow_ne hk5 hv5 (by decide) k hk), ?_⟩, ?_, ?_⟩
      · rw [List.length_append, List.length_singleton, show wcells (W ++ [(a, b)]) = wcells W ++ wrow (a : Int) b from by simp [wcells, wcell, wrow]]
        exact ownsRow_set hown (fun k hk => ownsRow_ne hown hv5 (by decide) k hk)
      · have h1 : Beside (RMine q (.slice sa S.length sc) (.slice ua W.length uc)) w w2 := HB2.out.mine
        have h2 : Beside (RMine q (.slice sa S.length sc) (.slice ua W.length uc)) w2 w5 := hb5.mono fun k _ hk => .inr (.inr hk)
        exact (h1.trans h2).setCell (.inl (.inl rfl)) _
      · rintro k (rfl | hk | hk)
        · exact .inl (.inl rfl)
        · exact .inl (.inr (.inl hk))
        · obtain rfl : g = k := by simpa [Value.ownBlock] using hk
          rcases hg with hg | hg
          · exact .inl (.inr (.inr hg))
          · refine .inr ⟨?_, by simpa [World.setCell] using hgl⟩
            rw [hg]
            simp
            omega
    clear hv5 hk5 hb5 hgr hg hown
    simp only [Act.put, List.setIfInBounds_toArray, List.set_cons_zero, List.set_cons_succ]
    refine wpAny_take (i := 10) (oi := ⟨_, _, _, _, _, _⟩) (v := ?_) rfl (by kernel_rfl) (by kernel_rfl) (by kernel_rfl) (fun _ _ _ h => h) (Or.inl ⟨by rfl, ?_⟩) ?_
    rotate_left
    · intro w; go_simp <;> with_reducible rfl
    simp only [Act.put, List.setIfInBounds_toArray, List.set_cons_zero, List.set_cons_succ]
    refine wpAny_take (i := 11) (oi := ⟨_, _, _, _, _, _⟩) (v := ?_) rfl (by kernel_rfl) (by kernel_rfl) (by kernel_rfl) (fun _ _ _ h => h) (Or.inl ⟨by rfl, ?_⟩) ?_
    rotate_left
    · intro w; go_simp <;> with_reducible rfl
    simp only [Act.put, List.setIfInBounds_toArray, List.set_cons_zero, List.set_cons_succ]
    refine wpAny_ready (rs := [12]) (by kernel_rfl) (by simp) ?_
    refine AllReady.cons (o := ⟨_, _, _, _, _, _⟩) rfl (fun K hK => ?_) ?_
    · refine step_store40 rfl (.tmp 45) (.tmp 43) rfl rfl rfl d1 g1 (hK _ _ ?_)
      clear hK K
      refine wpAny_done (by kernel_rfl) ?_ _
      cases d2
      · go_wp2_with fail
        go_ret
        exact HFIN.out _
      · go_wp2_with fail
        go_ret
        exact HFIN.out _
    · exact AllReady.nil
  · exact AllReady.nil
end Go.Proofs.Ytgdfobhhkfplbaa
