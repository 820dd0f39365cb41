/-
  The reference's Flush.
-/
import Derived.Test.YtgdfobhhkfplbaaRWrite
namespace Go.Proofs.Ytgdfobhhkfplbaa
set_option linter.unusedVariables false
open Go.RowKit

theorem put_row65 {w : World} {kv : Value} {S : List (List Nat)} (hrow : w.ownsRow 0 65 64 kv S.length (secs S)) (h64 : ∀ s ∈ S, s.length = 64) {x n : Nat} (hx : x < S.length) (hn : n ≤ 64) {d : List Nat} (hd : d.length = 64) :
    ∃ kg kc cur, kv = .slice (some ⟨kg, 0, none⟩) S.length kc ∧ S.length ≤ kc ∧ kc ≤ maxLen ∧ w.heap[kg]? = some (.cells cur 65 (0, 0)) ∧ x * 64 + n ≤ cur.size ∧
      (w.setRow kg (cur.toList.take (x * 64) ++ (u8s (d.take n) ++ cur.toList.drop (x * 64 + n))).toArray).ownsRow 0 65 64 kv S.length (secs (putN S x n d)) := by
  rcases hrow.2 with ⟨_, h0⟩ | ⟨kg, kc, cur, rfl, _, hh, hc, hm, hsz, ht⟩
  · omega
  · have hle : S.length * 64 ≤ cur.toList.length := by simp [hsz]; omega
    have hfit : x * 64 + n ≤ cur.size := by simp at hle; omega
    refine ⟨kg, kc, cur, rfl, hc, hm, hh, hfit, ⟨?_, .inr ⟨kg, kc, _, rfl, Nat.zero_le _, setRow_heap w kg cur _ 65 _ hh, hc, hm, ?_, ?_⟩⟩⟩
    · rw [secs_length _ (putN_64 h64 hd hx hn), putN_len]
    · simp [hd]; omega
    · exact put_list h64 hx hn hd cur.toList ht hle

theorem step_store65r {ops : Array Oper} {o : Oper} {a : Act} {w : World} {K : Act → World → Prop} {Q : Exit → Act → World → Prop} {E : Prop} (hg : o.guard = none) (x y : Operand) (ho : o.op = .store 65 x y) {kg off : Nat} (hx : a.eval x = .pointer (some ⟨kg, off, none⟩)) {d : List Nat} (hd : d.length = 64) (hy : a.eval y = .agg (u8s d).toArray)
    {cur : Array Value} (hh : w.heap[kg]? = some (.cells cur 65 (0, 0))) (hfit : off + 64 ≤ cur.size)
    (hK : K (a.put o.dst undef) (w.setRow kg (cur.toList.take off ++ (u8s (d.take 64) ++ cur.toList.drop (off + 64))).toArray)) : if Region.wanted o (yielded ops a.tmps) = true then Oper.wp Try.prog o a w K Q else E := by
  have hw : Region.wanted o (yielded ops a.tmps) = true := by simp [Region.wanted, hg]
  rw [if_pos hw]
  have hst := run_storeCells_at Try.prog kg off 65 (u8s d) 0 cur w hh (by simp [hd]; omega) (u8s_one d)
  have hrun : (storeVar 65 ⟨kg, off, none⟩ (.agg (u8s d).toArray)).run Try.prog w = .ok () (w.setRow kg (cur.toList.take off ++ (u8s (d.take 64) ++ cur.toList.drop (off + 64))).toArray) := by
    have h66 := load65s
    cases hq : Try.prog.info? 65 with
    | none => simp [hq] at h66
    | some i =>
      have hs : i.size = 64 := by simpa [hq] using h66
      rw [show d.take 64 = d from List.take_of_length_le (by omega)]
      simp only [Nat.add_zero, u8s_length, hd] at hst
      simp [storeVar, sizeOf, typeInfo, hq, Value.cells, hs, hd, hst]
  unfold Oper.wp execOp
  simp only [ho, hx, hy, Instr.storeAt, Instr.sureAddr, Sem.run_bind, Sem.run_pure, Result.andThen_ok, hrun]
  exact hK

theorem rlaid_fin {w wr w2 : World} {q : Nat} {sv uv v : Value} {S S' : List (List Nat)} {W : List (Nat × List Nat)} {arm a' : Nat} {off o' : Bool} (h : RDk w q sv uv S W arm off) (hl : Lay S S') (hrow : wr.ownsRow 0 65 64 sv S.length (secs S')) (hb : Beside (fun k => sv.ownBlock = some k) w wr)
    (hv2 : RV w2 q sv (.slice none 0 0) a' o') (hb2 : Beside (· = q) wr w2) : REnd w q sv uv S' [] a' o' v (.returned v) w2 := by
  have hpr : RV wr q sv uv arm off := h.row.beside hb (fun hk => ownsRow_ne h.kept h.row (by decide) q hk rfl)
  refine ⟨_, _, rfl, ⟨hv2, ?_, World.ownsRow_nil _ _ _ _⟩, ?_, fun k hk => .inl (rmine_nil k hk)⟩
  · rw [hl.len]
    exact ownsRow_beside hrow hb2 (fun k hk => ownsRow_ne hrow hpr (by decide) k hk)
  · exact (hb.mono fun k _ hk => .inr (.inl hk)).trans hb2.mine

theorem rflush_off {w : World} {q : Nat} {sv uv : Value} {arm : Int} (h : RV w q sv uv arm true) : Calls Try.prog 15 #[.pointer (some ⟨q, 0, none⟩)] w fun e w' => e = .returned (.int .i64 3) ∧ w = w' := by
  have c3 := h.cell3
  clear h
  go_enter Try.func15, Try.ntmps15
  go_wp2_with fail
  go_ret
  exact ⟨rfl, rfl⟩
theorem rflush_hit {w : World} {q : Nat} {sv uv : Value} {S : List (List Nat)} {W : List (Nat × List Nat)} {arm a2 : Nat} (h : RDk w q sv uv S W arm false) (harm : arm ≤ 9223372036854775807) (hh : hitOf arm = (a2, true)) :
    Calls Try.prog 15 #[.pointer (some ⟨q, 0, none⟩)] w fun e w' => REnd w q sv uv S W a2 true (.int .i64 3) e w' := by
  have hk := rhit h.row harm
  rw [hh] at hk
  simp only at hk
  have c3 := h.row.cell3
  have HK := Lib.hid hk
  have H := Lib.hid h
  clear hk h hh
  go_enter Try.func15, Try.ntmps15
  go_wp2_with fail
  refine HK.out.mono ?_
  rintro e w' ⟨rfl, hv, hb⟩
  have HV := Lib.hid hv
  have HB := Lib.hid hb
  clear hv hb
  go_wp2_with fail
  go_ret
  exact ⟨_, _, rfl, H.out.turned HV.out HB.out, HB.out.mine, fun k hk => .inl hk⟩

set_option maxRecDepth 100000 in
set_option maxHeartbeats 1000000 in
theorem rflush_ok {w : World} {q : Nat} {sv uv : Value} {S : List (List Nat)} {W : List (Nat × List Nat)} {arm a2 : Nat} (h0 : RDk w q sv uv S W arm false) (hG : Good S W) (harm : arm ≤ 9223372036854775807) (hh : hitOf arm = (a2, false)) :
    Calls Try.prog 15 #[.pointer (some ⟨q, 0, none⟩)] w fun e w' => REnd w q sv uv (flushed S W) [] a2 false (.int .i64 0) e w' := by
  have hk := rhit h0.row harm
  rw [hh] at hk
  simp only at hk
  have c3 := h0.row.cell3
  have HKT := Lib.hid hk
  have H0 := Lib.hid h0
  clear hk h0 hh
  go_enter Try.func15, Try.ntmps15
  go_wp2_with fail
  refine HKT.out.mono ?_
  rintro e wh ⟨rfl, hvh, hbh⟩
  have h : RDk wh q sv uv S W a2 false := H0.out.turned hvh hbh
  have HFIN : Hid (∀ w', REnd wh q sv uv (flushed S W) [] a2 false (.int .i64 0) (.returned (.int .i64 0)) w' → REnd w q sv uv (flushed S W) [] a2 false (.int .i64 0) (.returned (.int .i64 0)) w') := Lib.hid fun w' ⟨sv', uv', e, hd, hb, ho⟩ => ⟨sv', uv', e, hd, hbh.mine.trans hb, fun k hk => (ho k hk).imp id (fun ⟨h1, h2⟩ => ⟨Nat.le_trans hbh.size h1, h2⟩)⟩
  clear hvh hbh HKT H0 c3
  have hwl := hG.wl
  obtain ⟨ua, uc, rfl⟩ := own_shape h.waits
  have H := Lib.hid h
  clear h
  go_wp2_with fail
  go_loopw [3] (fun i wr => ∃ k : Nat, k ≤ W.length ∧ i = .int .i64 (k : Int) ∧ Lay S ((W.take k).foldl (fun S x => putN S x.1 64 x.2) S) ∧ wr.ownsRow 0 65 64 sv S.length (secs ((W.take k).foldl (fun S x => putN S x.1 64 x.2) S)) ∧ Beside (fun k => sv.ownBlock = some k) wh wr) (fun i _ => (W.length - intOf i).toNat)
  case atStart => exact ⟨0, Nat.zero_le _, rfl, by simpa using hG.lay, by simpa using H.out.kept, Beside.refl _ _⟩
  case round =>
    obtain ⟨k, hkW, rfl, hlay, hrow, hbes⟩ := hrel
    have hv := H.out.row.beside hbes (fun hk => ownsRow_ne H.out.kept H.out.row (by decide) q hk rfl)
    have c1 := hv.cell1
    have g1 := hv.free 1
    have HV := Lib.hid hv
    have HROW := Lib.hid hrow
    have HLAY := Lib.hid hlay
    have HB := Lib.hid hbes
    clear hrow hlay hbes hv
    by_cases hk : k < W.length
    · have hwrow : wr.ownsRow 0 72 65 (.slice ua W.length uc) W.length (wcells W) := ownsRow_beside H.out.waits HB.out (fun k hk hk2 => by
        rcases H.out.kept.2 with ⟨e, _⟩ | ⟨g, cap, cur, e, _, hh, _⟩
        · subst e; cases hk2
        · subst e; simp [Value.ownBlock] at hk2; subst hk2; exact ownsRow_ne H.out.waits hh (by decide) _ hk rfl)
      obtain ⟨wg, wc', ewv, hwc, hwg, hrng, hwm⟩ := wait_any hwrow hG.w64 hk
      obtain ⟨rfl, rfl⟩ : ua = some ⟨wg, 0, none⟩ ∧ uc = wc' := by simpa using ewv
      have hki : (k : Int) < (W.length : Int) := by omega
      have hkc : k < uc := by omega
      have HST : Hid ((W.take (k + 1)).foldl (fun S x => putN S x.1 64 x.2) S = putN ((W.take k).foldl (fun S x => putN S x.1 64 x.2) S) (W[k]).1 64 (W[k]).2) := Lib.hid (fold_take _ _ _ k hk)
      have hn : 64 ≤ 64 := Nat.le_refl _
      have hx := hG.wat _ (List.getElem_mem hk)
      have hd64 := hG.w64 _ (List.getElem_mem hk)
      have HD256 := Lib.hid (hG.w256 _ (List.getElem_mem hk))
      have hrowA := HROW.out
      rw [← HLAY.out.len] at hrowA
      obtain ⟨sg, sc, cur, ekv, hkc2, hkm, hcur, hfit, hput⟩ := put_row65 hrowA HLAY.out.s64 (x := (W[k]).1) (by rw [HLAY.out.len]; exact hx) hn hd64
      rw [HLAY.out.len] at hkc2 hput ekv
      subst ekv
      have hxi : (((W[k]).1 : Nat) : Int) < (S.length : Int) := by omega
      have hxc : (W[k]).1 < sc := by omega
      have c0 := HV.out.cell0
      have ct : wr.cell? ⟨wg, k * 65, none⟩ = some (.int .i64 ((W[k]).1 : Nat)) := hrng 0 _ (by simp [wcell])
      have hsrc : wr.rangeAt wg (k * 65 + 1) (u8s (W[k]).2) := rangeAt_tail hrng
      have HSRC := Lib.hid hsrc
      have hqk : q ≠ sg := fun e => ne_of_type HV.out hcur (by decide) e.symm
      have hwk : wg ≠ sg := fun e => by
        subst e
        exact ownsRow_ne hwrow hcur (by decide) _ rfl rfl
      have HP := Lib.hid hput
      have HC := Lib.hid hcur
      clear hput hcur hrowA HROW hsrc hrng hwrow ewv
      go_wp2_with fail
      refine wp_region_held_drew (S := fun w' => (w'.cell? ⟨q, 0, none⟩ = some (.slice (some ⟨sg, 0, none⟩) S.length sc) ∧ w'.cell? ⟨q, 1, none⟩ = some (.slice (some ⟨wg, 0, none⟩) W.length uc) ∧ w'.cell? ⟨wg, k * 65, none⟩ = some (.int .i64 ((W[k]).1 : Nat))) ∧ w'.rangeAt wg (k * 65 + 1) (u8s (W[k]).2)) (by kernel_rfl) ⟨⟨c0, c1, ct⟩, HSRC.out⟩ (fun hHeld => ?_)
      refine wpAnyH_take (i := 0) (oi := ⟨_, _, _, _, _, _⟩) (v := ?_) rfl (by kernel_rfl) (by kernel_rfl) (by kernel_rfl) (fun _ _ _ h => h) (Or.inl ⟨by rfl, ?_⟩) (by assumption) ?_
      rotate_left
      · intro w hSw; (try dsimp only at hSw); go_simp <;> with_reducible rfl
      simp only [Act.put, List.setIfInBounds_toArray, List.set_cons_zero, List.set_cons_succ]
      refine wpAnyH_take (i := 1) (oi := ⟨_, _, _, _, _, _⟩) (v := ?_) rfl (by kernel_rfl) (by kernel_rfl) (by kernel_rfl) (fun _ _ _ h => h) (Or.inl ⟨by rfl, ?_⟩) (by assumption) ?_
      rotate_left
      · intro w hSw; (try dsimp only at hSw); go_simp <;> with_reducible rfl
      simp only [Act.put, List.setIfInBounds_toArray, List.set_cons_zero, List.set_cons_succ]
      refine wpAnyH_take (i := 2) (oi := ⟨_, _, _, _, _, _⟩) (v := ?_) rfl (by kernel_rfl) (by kernel_rfl) (by kernel_rfl) (fun _ _ _ h => h) (Or.inl ⟨by rfl, ?_⟩) (by assumption) ?_
      rotate_left
      · intro w hSw; (try dsimp only at hSw); go_simp <;> with_reducible rfl
      simp only [Act.put, List.setIfInBounds_toArray, List.set_cons_zero, List.set_cons_succ]
      refine wpAnyH_take (i := 3) (oi := ⟨_, _, _, _, _, _⟩) (v := ?_) rfl (by kernel_rfl) (by kernel_rfl) (by kernel_rfl) (fun _ _ _ h => h) (Or.inl ⟨by rfl, ?_⟩) (by assumption) ?_
      rotate_left
      · intro w hSw; (try dsimp only at hSw); go_simp <;> with_reducible rfl
      simp only [Act.put, List.setIfInBounds_toArray, List.set_cons_zero, List.set_cons_succ]
      refine wpAnyH_take (i := 4) (oi := ⟨_, _, _, _, _, _⟩) (v := ?_) rfl (by kernel_rfl) (by kernel_rfl) (by kernel_rfl) (fun _ _ _ h => h) (Or.inl ⟨by rfl, ?_⟩) (by assumption) ?_
      rotate_left
      · intro w hSw; (try dsimp only at hSw); go_simp <;> with_reducible rfl
      simp only [Act.put, List.setIfInBounds_toArray, List.set_cons_zero, List.set_cons_succ]
      refine wpAnyH_take (i := 5) (oi := ⟨_, _, _, _, _, _⟩) (v := ?_) rfl (by kernel_rfl) (by kernel_rfl) (by kernel_rfl) (fun _ _ _ h => h) (Or.inl ⟨by rfl, ?_⟩) (by assumption) ?_
      rotate_left
      · intro w hSw; (try dsimp only at hSw); go_simp <;> with_reducible rfl
      simp only [Act.put, List.setIfInBounds_toArray, List.set_cons_zero, List.set_cons_succ]
      refine wpAnyH_take (i := 6) (oi := ⟨_, _, _, _, _, _⟩) (v := ?_) rfl (by kernel_rfl) (by kernel_rfl) (by kernel_rfl) (fun _ _ _ h => h) (Or.inl ⟨by rfl, ?_⟩) (by assumption) ?_
      rotate_left
      · intro w hSw; (try dsimp only at hSw); go_simp <;> with_reducible rfl
      simp only [Act.put, List.setIfInBounds_toArray, List.set_cons_zero, List.set_cons_succ]
      refine wpAnyH_take (i := 7) (oi := ⟨_, _, _, _, _, _⟩) (v := ?_) rfl (by kernel_rfl) (by kernel_rfl) (by kernel_rfl) (fun _ _ _ h => h) (Or.inl ⟨by rfl, ?_⟩) (by assumption) ?_
      rotate_left
      · intro w hSw; (try dsimp only at hSw); go_simp <;> with_reducible rfl
      simp only [Act.put, List.setIfInBounds_toArray, List.set_cons_zero, List.set_cons_succ]
      refine wpAnyH_take (i := 8) (oi := ⟨_, _, _, _, _, _⟩) (v := ?_) rfl (by kernel_rfl) (by kernel_rfl) (by kernel_rfl) (fun _ _ _ h => h) (Or.inl ⟨by rfl, ?_⟩) (by assumption) ?_
      rotate_left
      · intro w hSw; (try dsimp only at hSw); go_simp <;> with_reducible rfl
      simp only [Act.put, List.setIfInBounds_toArray, List.set_cons_zero, List.set_cons_succ]
      refine wpAnyH_take (i := 9) (oi := ⟨_, _, _, _, _, _⟩) (v := ?_) rfl (by kernel_rfl) (by kernel_rfl) (by kernel_rfl) (fun _ _ _ h => h) (Or.inl ⟨by rfl, ?_⟩) (by assumption) ?_
      rotate_left
      · intro w hSw; (try dsimp only at hSw); go_simp <;> with_reducible rfl
      simp only [Act.put, List.setIfInBounds_toArray, List.set_cons_zero, List.set_cons_succ]
      refine wpAnyH_take (i := 10) (oi := ⟨_, _, _, _, _, _⟩) (v := ?_) rfl (by kernel_rfl) (by kernel_rfl) (by kernel_rfl) (fun _ _ _ h => h) (Or.inl ⟨by rfl, ?_⟩) (by assumption) ?_
      rotate_left
      · intro w hSw; (try dsimp only at hSw); go_simp <;> with_reducible rfl
      simp only [Act.put, List.setIfInBounds_toArray, List.set_cons_zero, List.set_cons_succ]
      refine wpAnyH_take (i := 11) (oi := ⟨_, _, _, _, _, _⟩) (v := ?_) rfl (by kernel_rfl) (by kernel_rfl) (by kernel_rfl) (fun _ _ _ h => h) (Or.inl ⟨by rfl, ?_⟩) (by assumption) ?_
      rotate_left
      · intro w hSw; (try dsimp only at hSw); go_simp <;> with_reducible rfl
      simp only [Act.put, List.setIfInBounds_toArray, List.set_cons_zero, List.set_cons_succ]
      refine wpAnyH_take (i := 12) (oi := ⟨_, _, _, _, _, _⟩) (v := ?_) rfl (by kernel_rfl) (by kernel_rfl) (by kernel_rfl) (fun _ _ _ h => h) (Or.inl ⟨by rfl, ?_⟩) (by assumption) ?_
      rotate_left
      · intro w hSw; (try dsimp only at hSw); go_simp <;> with_reducible rfl
      simp only [Act.put, List.setIfInBounds_toArray, List.set_cons_zero, List.set_cons_succ]
      refine wpAnyH_take (i := 13) (oi := ⟨_, _, _, _, _, _⟩) (v := ?_) rfl (by kernel_rfl) (by kernel_rfl) (by kernel_rfl) (fun _ _ _ h => h) (Or.inl ⟨by rfl, ?_⟩) (by assumption) ?_
      rotate_left
      · intro w hSw; (try dsimp only at hSw); go_simp <;> with_reducible rfl
      simp only [Act.put, List.setIfInBounds_toArray, List.set_cons_zero, List.set_cons_succ]
      refine wpAnyH_take (i := 14) (oi := ⟨_, _, _, _, _, _⟩) (v := ?_) rfl (by kernel_rfl) (by kernel_rfl) (by kernel_rfl) (fun _ _ _ h => h) (Or.inl ⟨by rfl, ?_⟩) (by assumption) ?_
      rotate_left
      · intro w hSw; (try dsimp only at hSw); go_simp <;> with_reducible rfl
      simp only [Act.put, List.setIfInBounds_toArray, List.set_cons_zero, List.set_cons_succ]
      refine wpAnyH_take (i := 15) (oi := ⟨_, _, _, _, _, _⟩) (v := ?_) rfl (by kernel_rfl) (by kernel_rfl) (by kernel_rfl) (fun _ _ _ h => h) (Or.inl ⟨by rfl, ?_⟩) (by assumption) ?_
      rotate_left
      · intro w hSw; (try dsimp only at hSw); go_simp <;> with_reducible rfl
      simp only [Act.put, List.setIfInBounds_toArray, List.set_cons_zero, List.set_cons_succ]
      refine wpAnyH_take (i := 16) (oi := ⟨_, _, _, _, _, _⟩) (v := ?_) rfl (by kernel_rfl) (by kernel_rfl) (by kernel_rfl) (fun _ _ _ h => h) (Or.inl ⟨by rfl, ?_⟩) (by assumption) ?_
      rotate_left
      · intro w hSw; (try dsimp only at hSw); go_simp <;> with_reducible rfl
      simp only [Act.put, List.setIfInBounds_toArray, List.set_cons_zero, List.set_cons_succ]
      refine wpAnyH_take (i := 17) (oi := ⟨_, _, _, _, _, _⟩) (v := ?_) rfl (by kernel_rfl) (by kernel_rfl) (by kernel_rfl) (fun _ _ _ h => h) (Or.inl ⟨by rfl, ?_⟩) (by assumption) ?_
      rotate_left
      · intro w hSw; (try dsimp only at hSw); go_simp <;> with_reducible rfl
      simp only [Act.put, List.setIfInBounds_toArray, List.set_cons_zero, List.set_cons_succ]
      refine wpAnyH_take (i := 18) (oi := ⟨_, _, _, _, _, _⟩) (v := ?_) rfl (by kernel_rfl) (by kernel_rfl) (by kernel_rfl) (fun _ _ _ h => h) (Or.inl ⟨by rfl, ?_⟩) (by assumption) ?_
      rotate_left
      · intro w hSw; (try dsimp only at hSw); go_simp <;> with_reducible rfl
      simp only [Act.put, List.setIfInBounds_toArray, List.set_cons_zero, List.set_cons_succ]
      refine wpAnyH_take (i := 19) (v := .agg (u8s (W[k]).2).toArray) rfl (by kernel_rfl) (by kernel_rfl) (by kernel_rfl) (fun _ _ _ h => h) (yieldsIf_load_mid (by rfl) 65 (.tmp 39) rfl wg (k * 65 + 1) rfl (u8s (W[k]).2) _ (fun w h => h.2) Try.underlying65 rfl (by rw [load65s]; simp [hd64])) (by assumption) ?_
      simp only [Act.put, List.setIfInBounds_toArray]
      refine wpAnyH_take (i := 20) (oi := ⟨_, _, _, _, _, _⟩) (v := ?_) rfl (by kernel_rfl) (by kernel_rfl) (by kernel_rfl) (fun _ _ _ h => h) (Or.inl ⟨by rfl, ?_⟩) (by assumption) ?_
      rotate_left
      · intro w hSw; (try dsimp only at hSw); go_simp <;> with_reducible rfl
      simp only [Act.put]
      refine wpAnyH_ready (rs := [21]) (by kernel_rfl) (by simp) ?_
      refine AllReadyH.cons (o := ⟨_, _, _, _, _, _⟩) rfl (fun K hK => ?_) AllReadyH.nil
      refine step_store65r rfl (.tmp 41) (.tmp 40) rfl rfl hd64 rfl (cur := cur) HC.out hfit (hK.out _ _ ?_ (fun hHeld2 => ?_))
      · exact ⟨⟨(setRow_cell (w := wr.drew) hqk _).trans c0, (setRow_cell (w := wr.drew) hqk _).trans c1, (setRow_cell (w := wr.drew) hwk _).trans ct⟩, fun j v hj => (setRow_cell (w := wr.drew) hwk _).trans (HSRC.out j v hj)⟩
      clear hK K
      refine wpAnyH_done (by kernel_rfl) ?_ _
      go_wp2_with fail
      go_roundw
      case rel =>
        refine ⟨k + 1, by omega, by go_num, ?_, ?_, ?_⟩
        · rw [HST.out]
          exact HLAY.out.put hx hn hd64 HD256.out
        · rw [HST.out]
          exact HP.out
        · exact (HB.out.drew).setRow (.inl (by simp [Value.ownBlock])) _
      case measure => simp [intOf]; omega
    · obtain rfl : k = W.length := by omega
      have HLX : Hid (Lay S (flushed S W)) := Lib.hid (by have := HLAY.out; rwa [List.take_of_length_le (Nat.le_refl _)] at this)
      have HRX : Hid (wr.ownsRow 0 65 64 sv S.length (secs (flushed S W))) := Lib.hid (by have := HROW.out; rwa [List.take_of_length_le (Nat.le_refl _)] at this)
      go_wp2_with fail
      go_ret
      exact HFIN.out _ (rlaid_fin H.out HLX.out HRX.out HB.out (HV.out.set1 _) ((Beside.refl _ _).set _))
end Go.Proofs.Ytgdfobhhkfplbaa
