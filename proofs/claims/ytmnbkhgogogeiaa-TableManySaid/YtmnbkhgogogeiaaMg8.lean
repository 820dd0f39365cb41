/-
  Several texts of one proof, each in a section of its own: Flush, Awake.
-/
import Derived.Test.YtmnbkhgogogeiaaMg7
namespace Go.Proofs.Ytmnbkhgogogeiaa
section
set_option linter.unusedVariables false
open Go.RowKit

theorem flush_down {w : World} {p : Nat} {kv wv mv : Value} {arm : Int} (h : DkV w p kv wv mv arm true) : Calls Try.prog 61 #[.pointer (some ⟨p, 0, none⟩)] w fun e w' => e = .returned (.int .i64 3) ∧ w = w' := by
  go_enter Try.func61, Try.ntmps61
  go_wp2_with fail
  refine (ready_ok h).mono ?_
  rintro e w1 ⟨rfl, rfl⟩
  go_wp2_with fail
  go_ret
  exact ⟨rfl, rfl⟩

/-- one that is hit keeps nothing -/
theorem flush_hit {w : World} {O : Nat → Prop} {p : Nat} {kv wv mv : Value} {S : List (List Nat)} {W : List (Nat × List Nat)} {arm a2 : Nat} (h : Dk w O p kv wv mv S W arm false) (harm : arm ≤ 9223372036854775807) (hh : hitOf arm = (a2, true)) :
    Calls Try.prog 61 #[.pointer (some ⟨p, 0, none⟩)] w fun e w' => DkEnd w O p kv S W a2 true (.int .i64 3) e w' := by
  have hk := hit_ok h.row harm
  rw [hh] at hk
  simp only at hk
  have HK := Lib.hid hk
  have H := Lib.hid h
  clear hk h hh
  go_enter Try.func61, Try.ntmps61
  go_wp2_with fail
  refine (ready_ok H.out.row).mono ?_
  rintro e w1 ⟨rfl, rfl⟩
  go_wp2_with fail
  refine HK.out.mono ?_
  rintro e w1 ⟨rfl, hv, hb⟩
  have HV := Lib.hid hv
  have HB := Lib.hid hb
  clear hv hb
  go_wp2_with fail
  go_ret
  exact ⟨_, _, O, rfl, H.out.turned HV.out HB.out, HB.out.ofOne H.out.op, fun k hk => .inl hk⟩

set_option maxRecDepth 100000 in
set_option maxHeartbeats 1000000 in
theorem flush_ok {w : World} {O : Nat → Prop} {p : Nat} {kv wv mv : Value} {S : List (List Nat)} {W : List (Nat × List Nat)} {arm a2 : Nat} (h0 : Dk w O p kv wv mv S W arm false) (harm : arm ≤ 9223372036854775807) (hh : hitOf arm = (a2, false)) :
    Calls Try.prog 61 #[.pointer (some ⟨p, 0, none⟩)] w fun e w' => DkEnd w O p kv (flushed S W) [] a2 false (.int .i64 0) e w' := by
  have hk := hit_ok h0.row harm
  rw [hh] at hk
  simp only at hk
  have HKT := Lib.hid hk
  have H0 := Lib.hid h0
  clear hk h0 hh
  go_enter Try.func61, Try.ntmps61
  go_wp2_with fail
  refine (ready_ok H0.out.row).mono ?_
  rintro e w1 ⟨rfl, rfl⟩
  go_wp2_with fail
  refine HKT.out.mono ?_
  rintro e wh ⟨rfl, hvh, hbh⟩
  have h : Dk wh O p kv wv mv S W a2 false := H0.out.turned hvh hbh
  have HBH : Hid (Beside O w wh) := Lib.hid (hbh.ofOne H0.out.op)
  have HFIN : Hid (∀ w', DkEnd wh O p kv (flushed S W) [] a2 false (.int .i64 0) (.returned (.int .i64 0)) w' → DkEnd w O p kv (flushed S W) [] a2 false (.int .i64 0) (.returned (.int .i64 0)) w') := Lib.hid fun w' ⟨wv', mv', O', e, hd, hb, ho⟩ => ⟨wv', mv', O', e, hd, (hbh.ofOne H0.out.op).trans hb, fun k hk => (ho k hk).imp id (fun ⟨h1, h2⟩ => ⟨Nat.le_trans hbh.size h1, h2⟩)⟩
  clear hvh hbh HKT H0 HBH
  have c0 := h.row.cell0
  have c1 := h.row.cell1
  have hps : p < wh.heap.size := lt_of_block h.row
  have hwl := h.good.wl
  obtain ⟨wa, wc, rfl⟩ : ∃ wa wc, wv = .slice wa W.length wc := by
    rcases h.waits.2 with ⟨e, h0⟩ | ⟨g, cap, cur, e, _⟩
    · exact ⟨_, _, by rw [e, h0]⟩
    · exact ⟨_, _, e⟩
  have H := Lib.hid h
  clear h
  go_wp2_with fail
  go_loopw [18] (fun i wr => ∃ k : Nat, k ≤ W.length ∧ i = .int .i64 (k : Int) ∧ Lay S ((W.take k).foldl (fun S x => putN S x.1 64 x.2) S) ∧ wr.ownsRow 0 143 64 kv S.length (secs ((W.take k).foldl (fun S x => putN S x.1 64 x.2) S)) ∧ Beside (fun k => kv.ownBlock = some k) wh wr) (fun i _ => (W.length - intOf i).toNat)
  case atStart => exact ⟨0, Nat.zero_le _, rfl, by simpa using H.out.good.lay, by simpa using H.out.kept, Beside.refl _ _⟩
  case round =>
    obtain ⟨k, hkW, rfl, hlay, hrow, hbes⟩ := hrel
    have HV : Hid (DkV wr p kv (.slice wa W.length wc) mv a2 false) := Lib.hid (H.out.row.beside hbes (fun hk => ownsRow_ne H.out.kept H.out.row (by decide) p hk rfl))
    have HROW := Lib.hid hrow
    have HLAY := Lib.hid hlay
    have HB := Lib.hid hbes
    clear hrow hlay hbes
    by_cases hk : k < W.length
    · have h64 := H.out.good.w64 _ (List.getElem_mem hk)
      have hwrow : wr.ownsRow 0 145 65 (.slice wa W.length wc) W.length (wcells W) := ownsRow_beside H.out.waits HB.out (fun k hk hk2 => by
        rcases H.out.kept.2 with ⟨e, _⟩ | ⟨g, cap, cur, e, _, hh, _⟩
        · subst e; cases hk2
        · subst e; simp [Value.ownBlock] at hk2; subst hk2; exact ownsRow_ne H.out.waits hh (by decide) _ hk rfl)
      obtain ⟨wg, wc', ewv, hwc, hwg, hrng, hwm⟩ := wait_at hwrow H.out.good.w64 hk
      obtain ⟨rfl, rfl⟩ : wa = some ⟨wg, 0, none⟩ ∧ wc = wc' := by simpa using ewv
      have HRNG := Lib.hid hrng
      have hX : (wcell W[k]).length = 65 := by simp [wcell, h64]
      have hki : (k : Int) < (W.length : Int) := by omega
      have hkc : k < wc := by omega
      have HVA : Hid (DkV (wr.alloc (.cells (wcell W[k]).toArray 145)) p kv (.slice (some ⟨wg, 0, none⟩) W.length wc) mv a2 false) := Lib.hid (HV.out.beside (own := fun _ => False) ((Beside.refl _ _).alloc _) (fun h => h))
      clear hwrow hrng ewv h64 c0 c1
      have HST : Hid ((W.take (k + 1)).foldl (fun S x => putN S x.1 64 x.2) S = putN ((W.take k).foldl (fun S x => putN S x.1 64 x.2) S) (W[k]).1 64 (W[k]).2) := Lib.hid (fold_take _ _ _ k hk)
      have hn : 64 ≤ 64 := Nat.le_refl _
      have hx := H.out.good.wat _ (List.getElem_mem hk)
      have hd64 := H.out.good.w64 _ (List.getElem_mem hk)
      have HD256 := Lib.hid (H.out.good.w256 _ (List.getElem_mem hk))
      have hrowA : (wr.alloc (.cells (wcell W[k]).toArray 145)).ownsRow 0 143 64 kv S.length (secs ((W.take k).foldl (fun S x => putN S x.1 64 x.2) S)) := ownsRow_beside (own := fun _ => False) HROW.out ((Beside.refl _ _).alloc _) (fun _ _ h => h)
      rw [← HLAY.out.len] at hrowA
      obtain ⟨kg, kc, cur, ekv, hkc2, hkm, hcur, hfit, hput⟩ := put_row hrowA HLAY.out.s64 (x := (W[k]).1) (by rw [HLAY.out.len]; exact hx) hn hd64
      rw [HLAY.out.len] at hkc2 hput ekv
      subst ekv
      have hxi : (((W[k]).1 : Nat) : Int) < (S.length : Int) := by omega
      have hxc : (W[k]).1 < kc := by omega
      have c0 := HVA.out.cell0
      have ct : (wr.alloc (.cells (wcell W[k]).toArray 145)).cell? ⟨wr.heap.size, 0, none⟩ = some (.int .i64 ((W[k]).1 : Nat)) := by
        rw [cell_of_row _ _ 0 _ 145 (0, 0) (heap_alloc_new wr _)]
        simp [wcell]
      have hsrc : (wr.alloc (.cells (wcell W[k]).toArray 145)).rangeAt wr.heap.size 1 (u8s (W[k]).2) := fun j v hj => by
        rw [cell_of_row _ _ (1 + j) _ 145 (0, 0) (heap_alloc_new wr _)]
        simpa [wcell, Nat.add_comm 1 j] using hj
      have HSRC := Lib.hid hsrc
      have hpk : p ≠ kg := fun e => ne_of_type HVA.out hcur (by decide) e.symm
      have htk : wr.heap.size ≠ kg := fun e => ne_of_type (heap_alloc_new wr (.cells (wcell W[k]).toArray 145)) hcur (by decide) e.symm
      have HP := Lib.hid hput
      have HC := Lib.hid hcur
      have HBA := Lib.hid (HB.out.alloc (.cells (wcell W[k]).toArray 145))
      clear hput hcur hrowA HROW hsrc
      go_wp2_with (first | (refine load_write rfl (.tmp 20) rfl wg (k * 65) rfl (wcell W[k]) hX HRNG.out ?_) | (refine alloc_write rfl rfl ?_) | (refine store_write rfl (.tmp 5) (.tmp 21) rfl rfl rfl (wrow_len _ _ (by simp [zeros])) hX (wrow_one _ _) ?_))
      generalize wr.alloc (.cells (wcell W[k]).toArray 145) = wA at *
      generalize wr.heap.size = t at *
      refine wp_region_held_drew (S := fun w' => (w'.cell? ⟨p, 0, none⟩ = some (.slice (some ⟨kg, 0, none⟩) S.length kc) ∧ w'.cell? ⟨t, 0, none⟩ = some (.int .i64 ((W[k]).1 : Nat))) ∧ w'.rangeAt t 1 (u8s (W[k]).2)) (by kernel_rfl) ⟨⟨c0, ct⟩, HSRC.out⟩ (fun hHeld => ?_)
      refine wpAnyH_take (i := 0) (oi := ⟨_, _, _, _, _, _⟩) (v := ?_) rfl (by kernel_rfl) (by kernel_rfl) (by kernel_rfl) (fun _ _ _ h => h) (Or.inl ⟨by rfl, ?_⟩) (by assumption) ?_
      rotate_left
      · intro w hSw; (try dsimp only at hSw); go_simp <;> with_reducible rfl
      simp only [Act.put, List.setIfInBounds_toArray, List.set_cons_zero, List.set_cons_succ]
      refine wpAnyH_take (i := 1) (oi := ⟨_, _, _, _, _, _⟩) (v := ?_) rfl (by kernel_rfl) (by kernel_rfl) (by kernel_rfl) (fun _ _ _ h => h) (Or.inl ⟨by rfl, ?_⟩) (by assumption) ?_
      rotate_left
      · intro w hSw; (try dsimp only at hSw); go_simp <;> with_reducible rfl
      simp only [Act.put, List.setIfInBounds_toArray, List.set_cons_zero, List.set_cons_succ]
      refine wpAnyH_take (i := 2) (oi := ⟨_, _, _, _, _, _⟩) (v := ?_) rfl (by kernel_rfl) (by kernel_rfl) (by kernel_rfl) (fun _ _ _ h => h) (Or.inl ⟨by rfl, ?_⟩) (by assumption) ?_
      rotate_left
      · intro w hSw; (try dsimp only at hSw); go_simp <;> with_reducible rfl
      simp only [Act.put, List.setIfInBounds_toArray, List.set_cons_zero, List.set_cons_succ]
      refine wpAnyH_take (i := 3) (oi := ⟨_, _, _, _, _, _⟩) (v := ?_) rfl (by kernel_rfl) (by kernel_rfl) (by kernel_rfl) (fun _ _ _ h => h) (Or.inl ⟨by rfl, ?_⟩) (by assumption) ?_
      rotate_left
      · intro w hSw; (try dsimp only at hSw); go_simp <;> with_reducible rfl
      simp only [Act.put, List.setIfInBounds_toArray, List.set_cons_zero, List.set_cons_succ]
      refine wpAnyH_take (i := 4) (oi := ⟨_, _, _, _, _, _⟩) (v := ?_) rfl (by kernel_rfl) (by kernel_rfl) (by kernel_rfl) (fun _ _ _ h => h) (Or.inl ⟨by rfl, ?_⟩) (by assumption) ?_
      rotate_left
      · intro w hSw; (try dsimp only at hSw); go_simp <;> with_reducible rfl
      simp only [Act.put, List.setIfInBounds_toArray, List.set_cons_zero, List.set_cons_succ]
      refine wpAnyH_take (i := 5) (oi := ⟨_, _, _, _, _, _⟩) (v := ?_) rfl (by kernel_rfl) (by kernel_rfl) (by kernel_rfl) (fun _ _ _ h => h) (Or.inl ⟨by rfl, ?_⟩) (by assumption) ?_
      rotate_left
      · intro w hSw; (try dsimp only at hSw); go_simp <;> with_reducible rfl
      simp only [Act.put, List.setIfInBounds_toArray, List.set_cons_zero, List.set_cons_succ]
      refine wpAnyH_take (i := 6) (oi := ⟨_, _, _, _, _, _⟩) (v := ?_) rfl (by kernel_rfl) (by kernel_rfl) (by kernel_rfl) (fun _ _ _ h => h) (Or.inl ⟨by rfl, ?_⟩) (by assumption) ?_
      rotate_left
      · intro w hSw; (try dsimp only at hSw); go_simp <;> with_reducible rfl
      simp only [Act.put, List.setIfInBounds_toArray, List.set_cons_zero, List.set_cons_succ]
      refine wpAnyH_take (i := 7) (v := .agg (u8s (W[k]).2).toArray) rfl (by kernel_rfl) (by kernel_rfl) (by kernel_rfl) (fun _ _ _ h => h) (yieldsIf_load_mid (by rfl) 143 (.tmp 28) rfl t 1 rfl (u8s (W[k]).2) _ (fun w h => h.2) Try.underlying143 rfl (by rw [load66]; simp [hd64])) (by assumption) ?_
      simp only [Act.put, List.setIfInBounds_toArray]
      refine wpAnyH_take (i := 8) (oi := ⟨_, _, _, _, _, _⟩) (v := ?_) rfl (by kernel_rfl) (by kernel_rfl) (by kernel_rfl) (fun _ _ _ h => h) (Or.inl ⟨by rfl, ?_⟩) (by assumption) ?_
      rotate_left
      · intro w hSw; (try dsimp only at hSw); go_simp <;> with_reducible rfl
      simp only [Act.put]
      refine wpAnyH_ready (rs := [9]) (by kernel_rfl) (by simp) ?_
      refine AllReadyH.cons (o := ⟨_, _, _, _, _, _⟩) rfl (fun K hK => ?_) AllReadyH.nil
      refine step_store66 rfl (.tmp 30) (.tmp 29) rfl rfl hd64 rfl (cur := cur) HC.out hfit (hK.out _ _ ?_ (fun hHeld2 => ?_))
      · exact ⟨⟨(setRow_cell (w := wA.drew) hpk _).trans c0, (setRow_cell (w := wA.drew) htk _).trans ct⟩, fun j v hj => (setRow_cell (w := wA.drew) htk _).trans (HSRC.out j v hj)⟩
      clear hK K
      refine wpAnyH_done (by kernel_rfl) ?_ _
      go_wp2_with fail
      go_roundw
      case rel =>
        refine ⟨k + 1, by omega, by go_num, ?_, ?_, ?_⟩
        · rw [HST.out]
          exact HLAY.out.put hx hn hd64 HD256.out
        · rw [HST.out]
          exact HP.out
        · exact (HBA.out.drew).setRow (.inl (by simp [Value.ownBlock])) _
      case measure => simp [intOf]; omega
    · obtain rfl : k = W.length := by omega
      have HLX : Hid (Lay S (flushed S W)) := Lib.hid (by have := HLAY.out; rwa [List.take_of_length_le (Nat.le_refl _)] at this)
      have HRX : Hid (wr.ownsRow 0 143 64 kv S.length (secs (flushed S W))) := Lib.hid (by have := HROW.out; rwa [List.take_of_length_le (Nat.le_refl _)] at this)
      go_wp2_with fail
      refine (forget_ok HV.out).mono ?_
      rintro e w2 ⟨rfl, hv2, hb2⟩
      have HV2 := Lib.hid hv2
      have HB2 := Lib.hid hb2
      clear hv2 hb2
      go_wp2_with fail
      go_ret
      exact HFIN.out _ (laid_fin H.out HLX.out HRX.out HB.out HV2.out HB2.out)
end
section
set_option linter.unusedVariables false
open Go.RowKit

/-- a disk whose blocks lie from B on, below the heap's end -/
def Lies (B : Nat) (w : World) (O : Nat → Prop) : Prop := ∀ k, O k → B ≤ k ∧ k < w.heap.size
theorem Lies.mono {B : Nat} {w w' : World} {O : Nat → Prop} (h : Lies B w O) (hs : w.heap.size ≤ w'.heap.size) : Lies B w' O := fun k hk => ⟨(h k hk).1, Nat.lt_of_lt_of_le (h k hk).2 hs⟩

/-- the blocks of a disk, no others -/
def Mine (p : Nat) (kv wv mv : Value) (k : Nat) : Prop := k = p ∨ kv.ownBlock = some k ∨ wv.ownBlock = some k ∨ mv = .map (some k)
theorem Dk.mine {w : World} {O : Nat → Prop} {p : Nat} {kv wv mv : Value} {S : List (List Nat)} {W : List (Nat × List Nat)} {arm : Nat} {down : Bool} (h : Dk w O p kv wv mv S W arm down) : Dk w (Mine p kv wv mv) p kv wv mv S W arm down :=
  ⟨h.row, h.kept, h.waits, h.last, h.good, .inl rfl, fun k hk => .inr (.inl hk), fun k hk => .inr (.inr (.inl hk)), fun k hk => .inr (.inr (.inr hk))⟩
theorem Dk.sub {w : World} {O : Nat → Prop} {p : Nat} {kv wv mv : Value} {S : List (List Nat)} {W : List (Nat × List Nat)} {arm : Nat} {down : Bool} (h : Dk w O p kv wv mv S W arm down) : ∀ k, Mine p kv wv mv k → O k := by
  rintro k (rfl | hk | hk | hk)
  · exact h.op
  · exact h.ok k hk
  · exact h.ow k hk
  · exact h.om k hk
/-- a block that is no disk's -/
def Alien (w : World) (v : Value) : Prop := ∀ k, v.ownBlock = some k → ∃ cs t fr, w.heap[k]? = some (.cells cs t fr) ∧ t ≠ 62 ∧ t ≠ 143 ∧ t ≠ 145
theorem OwnB.alien {w : World} {B : Nat} {v : Value} {l : List Nat} (h : OwnB w B v l) : Alien w v := by
  intro k hk
  rcases h.2 with ⟨rfl, _⟩ | ⟨g, cap, cur, rfl, _, hh, _⟩
  · cases hk
  · simp [Value.ownBlock] at hk
    subst hk
    exact ⟨_, _, _, hh, by decide, by decide, by decide⟩
theorem Alien.not_mine {w : World} {O : Nat → Prop} {p : Nat} {kv wv mv : Value} {S : List (List Nat)} {W : List (Nat × List Nat)} {arm : Nat} {down : Bool} {v : Value} (ha : Alien w v) (h : Dk w O p kv wv mv S W arm down) : ∀ k, v.ownBlock = some k → ¬ Mine p kv wv mv k := by
  intro k hk hm
  obtain ⟨cs, t, fr, hh, h1, h2, h3⟩ := ha k hk
  rcases hm with rfl | hm | hm | hm
  · have := h.row
    unfold DkV at this
    rw [this] at hh
    simp at hh
    exact h1 hh.2.1.symm
  · exact ownsRow_ne h.kept hh h2 k hm rfl
  · exact ownsRow_ne h.waits hh h3 k hm rfl
  · rcases h.last with ⟨e, _⟩ | ⟨m, L, c, e, hi, _⟩
    · rw [hm] at e; cases e
    · rw [hm] at e
      obtain rfl : k = m := by simpa using e
      unfold IMap at hi
      rw [hh] at hi
      simp at hi

/-- what is known of a disk between two calls: its blocks from B on, all that was there before w0 untouched -/
structure Held (B : Nat) (w0 w : World) (p : Nat) (kv : Value) (S : List (List Nat)) (W : List (Nat × List Nat)) (arm : Nat) (down : Bool) : Prop where
  dk : ∃ wv mv, Dk w (Mine p kv wv mv) p kv wv mv S W arm down ∧ Lies B w (Mine p kv wv mv)
  below : Below B w0 w
  base : B ≤ w0.heap.size

theorem Held.below' {B : Nat} {w0 w w' : World} {p : Nat} {kv : Value} {S : List (List Nat)} {W : List (Nat × List Nat)} {arm : Nat} {down : Bool} (h : Held B w0 w p kv S W arm down) (hb : Below w.heap.size w w') : Held B w0 w' p kv S W arm down := by
  obtain ⟨wv, mv, hd, hl⟩ := h.dk
  have hs := h.below.size
  have hb0 := h.base
  exact ⟨⟨wv, mv, hd.beside (own := fun _ => False) ⟨hb.os, hb.tape, hb.output, hb.size, fun k hk _ => hb.block k hk⟩ (fun _ _ h => h), hl.mono hb.size⟩, h.below.trans (hb.mono (by omega)), hb0⟩
/-- a change beside the disk's blocks -/
theorem Held.beside' {B : Nat} {w0 w w' : World} {p : Nat} {kv v : Value} {S : List (List Nat)} {W : List (Nat × List Nat)} {arm : Nat} {down : Bool} (h : Held B w0 w p kv S W arm down) (hb : Beside (fun k => v.ownBlock = some k) w w') (ha : Alien w v) (hB : ∀ k, v.ownBlock = some k → B ≤ k) : Held B w0 w' p kv S W arm down := by
  obtain ⟨wv, mv, hd, hl⟩ := h.dk
  have hs := h.below.size
  have hb0 := h.base
  exact ⟨⟨wv, mv, hd.beside hb (fun k hk hv => ha.not_mine hd k hv hk), hl.mono hb.size⟩, h.below.trans (hb.below hB (by omega)), hb0⟩
theorem Held.ended {B : Nat} {w0 w w' : World} {O : Nat → Prop} {p : Nat} {kv v : Value} {S : List (List Nat)} {W : List (Nat × List Nat)} {arm : Nat} {down : Bool} {e : Ending} (hb : Below B w0 w) (hB : B ≤ w0.heap.size) (hl : Lies B w O) (h : DkEnd w O p kv S W arm down v e w') : e = .returned v ∧ Held B w0 w' p kv S W arm down := by
  obtain ⟨wv', mv', O', rfl, hd, hbs, ho⟩ := h
  have hs := hb.size
  refine ⟨rfl, ⟨wv', mv', hd.mine, fun k hk => ?_⟩, hb.trans (hbs.below (fun k hk => (hl k hk).1) (by omega)), hB⟩
  have := hbs.size
  rcases ho k (hd.sub k hk) with h1 | h1
  · have := hl k h1
    omega
  · omega

theorem new_held (n : Nat) (w : World) (h1 : 1 ≤ n) (h2 : n ≤ 65536) : Calls Try.prog 7 #[.int .i64 (n : Int)] w fun e w' => ∃ p kv, e = .returned (.tuple #[.pointer (some ⟨p, 0, none⟩), .int .i64 0]) ∧ Held w.heap.size w w' p kv (List.replicate n (zeros 64)) [] 0 false :=
  (new_yes n w h1 h2).mono fun e w' ⟨p, kv, he, hd, hb⟩ => ⟨p, kv, he, ⟨_, _, hd.mine, fun k hk => hd.sub k hk⟩, hb, Nat.le_refl _⟩

theorem write_held {B : Nat} {w0 w : World} {p : Nat} {kv : Value} {S : List (List Nat)} {W : List (Nat × List Nat)} {arm : Nat} (h : Held B w0 w p kv S W arm false) (a : Nat) (ha : a < S.length) (v : Value) (b : List Nat) (hb : RowB w v b) (hbl : b.length = 64) (hv : Alien w v) (hwl : W.length < 1000000) (harm : arm ≤ 9223372036854775807) :
    Calls Try.prog 95 #[.pointer (some ⟨p, 0, none⟩), .int .i64 (a : Int), v] w fun e w' => e = .returned (.int .i64 (if (hitOf arm).2 then 3 else 0)) ∧ Held B w0 w' p kv S (W ++ [(a, b)]) (hitOf arm).1 (hitOf arm).2 := by
  obtain ⟨wv, mv, hd, hl⟩ := h.dk
  exact (write_ok hd a ha v b hb hbl (hv.not_mine hd) hwl harm).mono fun e w' he => Held.ended h.below h.base hl he
theorem flush_held {B : Nat} {w0 w : World} {p : Nat} {kv : Value} {S : List (List Nat)} {W : List (Nat × List Nat)} {arm a2 : Nat} (h : Held B w0 w p kv S W arm false) (harm : arm ≤ 9223372036854775807) (hh : hitOf arm = (a2, false)) :
    Calls Try.prog 61 #[.pointer (some ⟨p, 0, none⟩)] w fun e w' => e = .returned (.int .i64 0) ∧ Held B w0 w' p kv (flushed S W) [] a2 false := by
  obtain ⟨wv, mv, hd, hl⟩ := h.dk
  exact (flush_ok hd harm hh).mono fun e w' he => Held.ended h.below h.base hl he
theorem read_held {B : Nat} {w0 w : World} {p : Nat} {kv : Value} {S : List (List Nat)} {W : List (Nat × List Nat)} {arm : Nat} (h : Held B w0 w p kv S W arm false) (a : Nat) (ha : a < S.length) :
    Calls Try.prog 75 #[.pointer (some ⟨p, 0, none⟩), .int .i64 (a : Int)] w fun e w' => ∃ o, e = .returned (.tuple #[o, .int .i64 0]) ∧ OwnB w' w.heap.size o (shown S W a) ∧ Below w.heap.size w w' := by
  obtain ⟨wv, mv, hd, hl⟩ := h.dk
  exact read_ok hd a ha
theorem OwnB.rowB {w : World} {B : Nat} {v : Value} {l : List Nat} (h : OwnB w B v l) (h256 : ∀ n ∈ l, n < 256) : RowB w v l := by
  obtain ⟨hl, h2⟩ := h
  rcases h2 with ⟨rfl, h0⟩ | ⟨g, cap, cur, rfl, _, hh, hc, hm, hs, ht⟩
  · obtain rfl : l = [] := List.eq_nil_of_length_eq_zero h0
    exact rowB_nil w
  · refine ⟨_, _, _, rfl, rfl, hc, hm, h256, by simp, fun x hx i hi => ?_⟩
    obtain rfl := Option.some.inj hx
    rw [Addr.add_mid, Nat.zero_add, cell_of_row _ _ i _ 5 (0, 0) hh]
    have : (u8s l)[i]? = cur[i]? := by
      rw [← ht, List.getElem?_take_of_lt (by omega)]
      simp
    rw [← this, u8s_get l i hi]

theorem lit_rowB (w : World) (l : List Nat) (h256 : ∀ n ∈ l, n < 256) (hm : l.length ≤ maxLen) : RowB (w.alloc (.cells (u8s l).toArray 5)) (.slice (some ⟨w.heap.size, 0, none⟩) l.length l.length) l := by
  refine ⟨_, _, _, rfl, rfl, Nat.le_refl _, hm, h256, by simp, fun x hx i hi => ?_⟩
  obtain rfl := Option.some.inj hx
  rw [Addr.add_lit, Nat.zero_add, cell_of_row _ _ i _ 5 (0, 0) (heap_alloc_new w _)]
  simp [u8s, hi]
theorem lit_intB (w : World) (K : List Int) (hm : K.length ≤ maxLen) : IntB (w.alloc (.cells (K.map (.int .i64)).toArray 3)) (.slice (some ⟨w.heap.size, 0, none⟩) K.length K.length) K :=
  .inr ⟨_, _, _, rfl, Nat.le_refl _, hm, fun i hi => by
    rw [Nat.zero_add, cell_of_row _ _ i _ 3 (0, 0) (heap_alloc_new w _)]
    simp [hi]⟩
theorem lit_alien (w : World) (cs : Array Value) (t : TypeId) (n m : Nat) (h1 : t ≠ 62) (h2 : t ≠ 143) (h3 : t ≠ 145) : Alien (w.alloc (.cells cs t)) (.slice (some ⟨w.heap.size, 0, none⟩) n m) := by
  intro k hk
  obtain rfl : w.heap.size = k := by simpa [Value.ownBlock] using hk
  exact ⟨_, _, _, heap_alloc_new w _, h1, h2, h3⟩
theorem Held.alloc {B : Nat} {w0 w : World} {p : Nat} {kv : Value} {S : List (List Nat)} {W : List (Nat × List Nat)} {arm : Nat} {down : Bool} (h : Held B w0 w p kv S W arm down) (o : Obj) : Held B w0 (w.alloc o) p kv S W arm down := h.below' ((Below.refl _ _).alloc (Nat.le_refl _) _)

theorem own_64 {w : World} {B : Nat} {v : Value} {l : List Nat} (h : OwnB w B v l) {n : Nat} (hl : l.length = n) (hn : 0 < n) : ∃ g cap, v = .slice (some ⟨g, 0, none⟩) n cap ∧ n ≤ cap ∧ cap ≤ maxLen ∧ B ≤ g ∧ g < w.heap.size ∧ ∀ j (hj : j < l.length), w.cell? ⟨g, j, none⟩ = some (.int .u8 (l[j] : Nat)) := by
  subst hl
  rcases h.2 with ⟨e, h0⟩ | ⟨g, cap, cur, rfl, hb, hh, hc, hm, _⟩
  · omega
  · exact ⟨g, cap, rfl, hc, hm, hb, lt_of_block hh, fun j hj => OwnB.cell h rfl j hj⟩
end
end Go.Proofs.Ytmnbkhgogogeiaa
