/-
  Crash, kept by a slice that may be empty and lie anywhere.
-/
import Derived.Test.YtmkedanlpapndaaAwake
import Derived.Lib.MinMax
import Derived.Deep.RegionHeld3
namespace Go.Proofs.Ytmkedanlpapndaa
set_option linter.unusedVariables false
open Go.RowKit

set_option maxRecDepth 100000 in
set_option maxHeartbeats 1000000 in
theorem crash_okE {w : World} {O : Nat → Prop} {p : Nat} {kv wv mv : Value} {S : List (List Nat)} {W : List (Nat × List Nat)} {arm : Nat} {down : Bool} (h : Dk w O p kv wv mv S W arm down) (v : Value) (K : List Int) (hk : IntB w v K) (hko : K ≠ [] → ∀ k, v.ownBlock = some k → ¬ O k) :
    Calls Try.prog 19 #[.pointer (some ⟨p, 0, none⟩), v] w fun e w' => DkEnd w O p kv (crashed S W K) [] arm true (.int .i64 0) e w' := by
  have c0 := h.row.cell0
  have c1 := h.row.cell1
  have hps : p < w.heap.size := lt_of_block h.row
  have hwl := h.good.wl
  obtain ⟨wa, wc, rfl⟩ : ∃ wa wc, wv = .slice wa W.length wc := by
    rcases h.waits.2 with ⟨e, h0⟩ | ⟨g, cap, cur, e, _⟩
    · exact ⟨_, _, by rw [e, h0]⟩
    · exact ⟨_, _, e⟩
  obtain ⟨va, vc, rfl, hKl⟩ := hk.shape
  have H := Lib.hid h
  have HK := Lib.hid hk
  clear h hk
  go_enter Try.func19, Try.ntmps19
  go_wp2_with fail
  go_loopw [15] (fun i wr => ∃ k : Nat, k ≤ W.length ∧ k ≤ K.length ∧ i = .int .i64 (k : Int) ∧ Lay S (((W.zip K).take k).foldl (fun S y => putN S y.1.1 (cl y.2) y.1.2) S) ∧ wr.ownsRow 0 87 64 kv S.length (secs (((W.zip K).take k).foldl (fun S y => putN S y.1.1 (cl y.2) y.1.2) S)) ∧ Beside (fun k => kv.ownBlock = some k) w wr) (fun i _ => (W.length - intOf i).toNat)
  case atStart => exact ⟨0, Nat.zero_le _, Nat.zero_le _, rfl, by simpa using H.out.good.lay, by simpa using H.out.kept, Beside.refl _ _⟩
  case round =>
    obtain ⟨k, hkW, hkK, rfl, hlay, hrow, hbes⟩ := hrel
    have HV : Hid (DkV wr p kv (.slice wa W.length wc) mv arm down) := Lib.hid (H.out.row.beside hbes (fun hk => ownsRow_ne H.out.kept H.out.row (by decide) p hk rfl))
    have HROW := Lib.hid hrow
    have HLAY := Lib.hid hlay
    have HB := Lib.hid hbes
    clear hrow hlay hbes
    by_cases hk : k < W.length
    · have h64 := H.out.good.w64 _ (List.getElem_mem hk)
      have hwrow : wr.ownsRow 0 89 65 (.slice wa W.length wc) W.length (wcells W) := ownsRow_beside H.out.waits HB.out (fun k hk hk2 => by
        rcases H.out.kept.2 with ⟨e, _⟩ | ⟨g, cap, cur, e, _, hh, _⟩
        · subst e; cases hk2
        · subst e; simp [Value.ownBlock] at hk2; subst hk2; exact ownsRow_ne H.out.waits hh (by decide) _ hk rfl)
      obtain ⟨wg, wc', ewv, hwc, hwg, hrng, hwm⟩ := wait_at hwrow H.out.good.w64 hk
      obtain ⟨rfl, rfl⟩ : wa = some ⟨wg, 0, none⟩ ∧ wc = wc' := by simpa using ewv
      have HRNG := Lib.hid hrng
      have hX : (wcell W[k]).length = 65 := by simp [wcell, h64]
      have hki : (k : Int) < (W.length : Int) := by omega
      have hkc : k < wc := by omega
      have HVA : Hid (DkV (wr.alloc (.cells (wcell W[k]).toArray 89)) p kv (.slice (some ⟨wg, 0, none⟩) W.length wc) mv arm down) := Lib.hid (HV.out.beside (own := fun _ => False) ((Beside.refl _ _).alloc _) (fun h => h))
      clear hwrow hrng ewv h64
      by_cases hk2 : k < K.length
      · have hki2 : ((k : Int) == (K.length : Int)) = false := beq_eq_false_iff_ne.2 (by omega)
        obtain ⟨vb, vo, rfl, hvc, hvm, hcell⟩ : ∃ vb vo, va = some ⟨vb, vo, none⟩ ∧ K.length ≤ vc ∧ vc ≤ maxLen ∧ w.cell? ⟨vb, vo + k, none⟩ = some (.int .i64 K[k]) := by
          rcases HK.out with ⟨_, rfl⟩ | ⟨b, off, cap, e, h1, h2, h3⟩
          · simp at hk2
          · obtain ⟨rfl, rfl⟩ : va = some ⟨b, off, none⟩ ∧ vc = cap := by simpa using e
            exact ⟨b, off, rfl, h1, h2, h3 k hk2⟩
        have hvb := World.block_lt_of_cell? w _ hcell
        have hcr : (wr.alloc (.cells (wcell W[k]).toArray 89)).cell? ⟨vb, vo + k, none⟩ = some (.int .i64 K[k]) := by
          rw [World.cell?_of_block (w := w) ((HB.out.alloc _).block vb hvb (fun e => hko (fun e => by rw [e] at hk2; simp at hk2) vb rfl (H.out.ok vb e)))]
          exact hcell
        have hkvc : k < vc := by omega
        have hk2i : (k : Int) < (K.length : Int) := by omega
        clear hcell c0 c1
        have HST : Hid (((W.zip K).take (k + 1)).foldl (fun S y => putN S y.1.1 (cl y.2) y.1.2) S = putN (((W.zip K).take k).foldl (fun S y => putN S y.1.1 (cl y.2) y.1.2) S) (W[k]).1 (cl K[k]) (W[k]).2) := Lib.hid (by rw [fold_take _ _ _ k (by simp; omega)]; simp)
        generalize K[k] = kk at *
        go_wp2_with (first | (refine load_write rfl (.tmp 18) rfl wg (k * 65) rfl (wcell W[k]) hX HRNG.out ?_) | (refine alloc_write rfl rfl ?_) | (refine store_write rfl (.tmp 6) (.tmp 19) rfl rfl rfl (wrow_len _ _ (by simp [zeros])) hX (wrow_one _ _) ?_))
        rw [show min (max kk 0) 64 = ((cl kk : Nat) : Int) from by unfold cl; omega]
        have hn := cl_le kk
        have HSTEP : Hid (((W.zip K).take (k + 1)).foldl (fun S y => putN S y.1.1 (cl y.2) y.1.2) S = putN (((W.zip K).take k).foldl (fun S y => putN S y.1.1 (cl y.2) y.1.2) S) (W[k]).1 (cl kk) (W[k]).2) := HST
        generalize cl kk = n at *
        have hni : (n : Int) ≤ 64 := by omega
        have hx := H.out.good.wat _ (List.getElem_mem hk)
        have hd64 := H.out.good.w64 _ (List.getElem_mem hk)
        have HD256 := Lib.hid (H.out.good.w256 _ (List.getElem_mem hk))
        have hrowA : (wr.alloc (.cells (wcell W[k]).toArray 89)).ownsRow 0 87 64 kv S.length (secs (((W.zip K).take k).foldl (fun S y => putN S y.1.1 (cl y.2) y.1.2) S)) := ownsRow_beside (own := fun _ => False) HROW.out ((Beside.refl _ _).alloc _) (fun _ _ h => h)
        rw [← HLAY.out.len] at hrowA
        obtain ⟨kg, kc, cur, ekv, hkc, hkm, hcur, hfit, hput⟩ := put_row hrowA HLAY.out.s64 (x := (W[k]).1) (by rw [HLAY.out.len]; exact hx) hn hd64
        rw [HLAY.out.len] at hkc hput ekv
        subst ekv
        have hxi : (((W[k]).1 : Nat) : Int) < (S.length : Int) := by omega
        have hxc : (W[k]).1 < kc := by omega
        have c0 := HVA.out.cell0
        have ct : (wr.alloc (.cells (wcell W[k]).toArray 89)).cell? ⟨wr.heap.size, 0, none⟩ = some (.int .i64 ((W[k]).1 : Nat)) := by
          rw [cell_of_row _ _ 0 _ 89 (0, 0) (heap_alloc_new wr _)]
          simp [wcell]
        have HSRC : Hid ((wr.alloc (.cells (wcell W[k]).toArray 89)).rangeAt wr.heap.size 1 (u8s (W[k]).2)) := Lib.hid fun j v hj => by
          rw [cell_of_row _ _ (1 + j) _ 89 (0, 0) (heap_alloc_new wr _)]
          simpa [wcell, Nat.add_comm 1 j] using hj
        have hpk : p ≠ kg := fun e => ne_of_type HVA.out hcur (by decide) e.symm
        have htk : wr.heap.size ≠ kg := fun e => ne_of_type (heap_alloc_new wr (.cells (wcell W[k]).toArray 89)) hcur (by decide) e.symm
        have HP := Lib.hid hput
        have HC := Lib.hid hcur
        have HBA := Lib.hid (HB.out.alloc (.cells (wcell W[k]).toArray 89))
        clear hput hcur hrowA HROW HST HRNG
        generalize wr.alloc (.cells (wcell W[k]).toArray 89) = wA at *
        generalize wr.heap.size = t at *
        refine wp_region_held_drew (S := fun w' => w'.cell? ⟨p, 0, none⟩ = some (.slice (some ⟨kg, 0, none⟩) S.length kc) ∧ w'.cell? ⟨t, 0, none⟩ = some (.int .i64 ((W[k]).1 : Nat))) (by kernel_rfl) ⟨c0, ct⟩ (fun hHeld => ?_)
        refine wpAnyH_take (i := 0) (oi := ⟨_, _, _, _, _, _⟩) (v := ?_) rfl (by kernel_rfl) (by kernel_rfl) (by kernel_rfl) (fun _ _ _ h => h) (Or.inl ⟨by rfl, ?_⟩) (by assumption) ?_
        rotate_left
        · intro w hSw; (try dsimp only at hSw); go_simp <;> with_reducible rfl
        simp only [Act.put, List.setIfInBounds_toArray, List.set_cons_zero, List.set_cons_succ]
        refine wpAnyH_take (i := 1) (oi := ⟨_, _, _, _, _, _⟩) (v := ?_) rfl (by kernel_rfl) (by kernel_rfl) (by kernel_rfl) (fun _ _ _ h => h) (Or.inl ⟨by rfl, ?_⟩) (by assumption) ?_
        rotate_left
        · intro w hSw; (try dsimp only at hSw); go_simp <;> with_reducible rfl
        simp only [Act.put, List.setIfInBounds_toArray, List.set_cons_zero, List.set_cons_succ]
        refine wpAnyH_take (i := 2) (oi := ⟨_, _, _, _, _, _⟩) (v := ?_) rfl (by kernel_rfl) (by kernel_rfl) (by kernel_rfl) (fun _ _ _ h => h) (Or.inl ⟨by rfl, ?_⟩) (by assumption) ?_
        rotate_left
        · intro w hSw; (try dsimp only at hSw); go_simp <;> with_reducible rfl
        simp only [Act.put, List.setIfInBounds_toArray, List.set_cons_zero, List.set_cons_succ]
        refine wpAnyH_take (i := 3) (oi := ⟨_, _, _, _, _, _⟩) (v := ?_) rfl (by kernel_rfl) (by kernel_rfl) (by kernel_rfl) (fun _ _ _ h => h) (Or.inl ⟨by rfl, ?_⟩) (by assumption) ?_
        rotate_left
        · intro w hSw; (try dsimp only at hSw); go_simp <;> with_reducible rfl
        simp only [Act.put, List.setIfInBounds_toArray, List.set_cons_zero, List.set_cons_succ]
        refine wpAnyH_take (i := 4) (oi := ⟨_, _, _, _, _, _⟩) (v := ?_) rfl (by kernel_rfl) (by kernel_rfl) (by kernel_rfl) (fun _ _ _ h => h) (Or.inl ⟨by rfl, ?_⟩) (by assumption) ?_
        rotate_left
        · intro w hSw; (try dsimp only at hSw); go_simp <;> with_reducible rfl
        simp only [Act.put, List.setIfInBounds_toArray, List.set_cons_zero, List.set_cons_succ]
        refine wpAnyH_take (i := 5) (oi := ⟨_, _, _, _, _, _⟩) (v := ?_) rfl (by kernel_rfl) (by kernel_rfl) (by kernel_rfl) (fun _ _ _ h => h) (Or.inl ⟨by rfl, ?_⟩) (by assumption) ?_
        rotate_left
        · intro w hSw; (try dsimp only at hSw); go_simp <;> with_reducible rfl
        simp only [Act.put, List.setIfInBounds_toArray, List.set_cons_zero, List.set_cons_succ]
        refine wpAnyH_take (i := 6) (oi := ⟨_, _, _, _, _, _⟩) (v := ?_) rfl (by kernel_rfl) (by kernel_rfl) (by kernel_rfl) (fun _ _ _ h => h) (Or.inl ⟨by rfl, ?_⟩) (by assumption) ?_
        rotate_left
        · intro w hSw; (try dsimp only at hSw); go_simp <;> with_reducible rfl
        simp only [Act.put, List.setIfInBounds_toArray, List.set_cons_zero, List.set_cons_succ]
        refine wpAnyH_take (i := 7) (oi := ⟨_, _, _, _, _, _⟩) (v := ?_) rfl (by kernel_rfl) (by kernel_rfl) (by kernel_rfl) (fun _ _ _ h => h) (Or.inl ⟨by rfl, ?_⟩) (by assumption) ?_
        rotate_left
        · intro w hSw; (try dsimp only at hSw); go_simp <;> with_reducible rfl
        simp only [Act.put, List.setIfInBounds_toArray, List.set_cons_zero, List.set_cons_succ]
        refine wpAnyH_take (i := 8) (oi := ⟨_, _, _, _, _, _⟩) (v := ?_) rfl (by kernel_rfl) (by kernel_rfl) (by kernel_rfl) (fun _ _ _ h => h) (Or.inl ⟨by rfl, ?_⟩) (by assumption) ?_
        rotate_left
        · intro w hSw; (try dsimp only at hSw); go_simp <;> with_reducible rfl
        simp only [Act.put, List.setIfInBounds_toArray, List.set_cons_zero, List.set_cons_succ]
        refine wpAnyH_take (i := 9) (oi := ⟨_, _, _, _, _, _⟩) (v := ?_) rfl (by kernel_rfl) (by kernel_rfl) (by kernel_rfl) (fun _ _ _ h => h) (Or.inl ⟨by rfl, ?_⟩) (by assumption) ?_
        rotate_left
        · intro w hSw; (try dsimp only at hSw); go_simp <;> with_reducible rfl
        simp only [Act.put, List.setIfInBounds_toArray, List.set_cons_zero, List.set_cons_succ]
        refine wpAnyH_take (i := 10) (oi := ⟨_, _, _, _, _, _⟩) (v := ?_) rfl (by kernel_rfl) (by kernel_rfl) (by kernel_rfl) (fun _ _ _ h => h) (Or.inl ⟨by rfl, ?_⟩) (by assumption) ?_
        rotate_left
        · intro w hSw; (try dsimp only at hSw); go_simp <;> with_reducible rfl
        simp only [Act.put, List.setIfInBounds_toArray, List.set_cons_zero, List.set_cons_succ]
        refine wpAnyH_take (i := 11) (oi := ⟨_, _, _, _, _, _⟩) (v := ?_) rfl (by kernel_rfl) (by kernel_rfl) (by kernel_rfl) (fun _ _ _ h => h) (Or.inl ⟨by rfl, ?_⟩) (by assumption) ?_
        rotate_left
        · intro w hSw; (try dsimp only at hSw); go_simp <;> with_reducible rfl
        simp only [Act.put, List.setIfInBounds_toArray, List.set_cons_zero, List.set_cons_succ]
        refine wpAnyH_ready (rs := [12]) (by kernel_rfl) (by simp) ?_
        refine AllReadyH.cons (o := ⟨_, _, _, _, _, _⟩) rfl (fun K hK => ?_) AllReadyH.nil
        refine step_copy66 rfl (.tmp 38) (.tmp 41) rfl rfl hd64 hn rfl HSRC.out (cur := cur) HC.out hfit (hK.out _ _ ?_ (fun hHeld2 => ?_))
        · exact ⟨(setRow_cell (w := wA.drew) hpk _).trans c0, (setRow_cell (w := wA.drew) htk _).trans ct⟩
        clear hK K
        refine wpAnyH_done (by kernel_rfl) ?_ _
        go_wp2_with fail
        go_roundw
        case rel =>
          refine ⟨k + 1, by omega, by omega, by go_num, ?_, ?_, ?_⟩
          · rw [HSTEP.out]
            exact HLAY.out.put hx hn hd64 HD256.out
          · rw [HSTEP.out]
            have hq := HP.out
            unfold World.ownsRow at hq ⊢
            exact hq
          · exact (HBA.out.drew).setRow (.inl (by simp [Value.ownBlock])) _
        case measure => simp [intOf]; omega
      · obtain rfl : k = K.length := by omega
        have HVX := HVA
        have HLX : Hid (Lay S (crashed S W K)) := Lib.hid (by have := HLAY.out; rwa [List.take_of_length_le (by simp; omega)] at this)
        have HRX : Hid ((wr.alloc (.cells (wcell W[K.length]).toArray 89)).ownsRow 0 87 64 kv S.length (secs (crashed S W K))) := Lib.hid (ownsRow_beside (own := fun _ => False) (by have := HROW.out; rwa [List.take_of_length_le (by simp; omega)] at this) ((Beside.refl _ _).alloc _) (fun _ _ h => h))
        have HBX := Lib.hid (HB.out.alloc (.cells (wcell W[K.length]).toArray 89))
        go_wp2_with (first | (refine load_write rfl (.tmp 18) rfl wg (K.length * 65) rfl (wcell W[K.length]) hX HRNG.out ?_) | (refine alloc_write rfl rfl ?_) | (refine store_write rfl (.tmp 6) (.tmp 19) rfl rfl rfl (wrow_len _ _ (by simp [zeros])) hX (wrow_one _ _) ?_))
        refine (forget_ok HVX.out).mono ?_
        rintro e w2 ⟨rfl, hv2, hb2⟩
        have d4 := hv2.cell4
        have g4 := hv2.free 4
        have HV2 := Lib.hid hv2
        have HB2 := Lib.hid hb2
        clear hv2 hb2
        go_wp2_with fail
        go_ret
        exact laid_fin H.out HLX.out HRX.out HBX.out (HV2.out.set4 true) (HB2.out.set _)
    · obtain rfl : k = W.length := by omega
      have HVX := HV
      have HLX : Hid (Lay S (crashed S W K)) := Lib.hid (by have := HLAY.out; rwa [List.take_of_length_le (by simp; omega)] at this)
      have HRX : Hid (wr.ownsRow 0 87 64 kv S.length (secs (crashed S W K))) := Lib.hid (by have := HROW.out; rwa [List.take_of_length_le (by simp; omega)] at this)
      have HBX := HB
      go_wp2_with fail
      refine (forget_ok HVX.out).mono ?_
      rintro e w2 ⟨rfl, hv2, hb2⟩
      have d4 := hv2.cell4
      have g4 := hv2.free 4
      have HV2 := Lib.hid hv2
      have HB2 := Lib.hid hb2
      clear hv2 hb2
      go_wp2_with fail
      go_ret
      exact laid_fin H.out HLX.out HRX.out HBX.out (HV2.out.set4 true) (HB2.out.set _)

/-- the argument's row of numbers lies below all that is the disk's -/
theorem crash_arg {B : Nat} {w0 w : World} {p : Nat} {kv : Value} {S : List (List Nat)} {W : List (Nat × List Nat)} {arm : Nat} {down : Bool} (h : Held B w0 w p kv S W arm down) (v : Value) (K : List Int) (hk : IntB w v K) (hB : ∀ k, v.ownBlock = some k → K ≠ [] → k < B) :
    Calls Try.prog 19 #[.pointer (some ⟨p, 0, none⟩), v] w fun e w' => e = .returned (.int .i64 0) ∧ Held B w0 w' p kv (crashed S W K) [] arm true := by
  obtain ⟨wv, mv, hd, hl⟩ := h.dk
  exact (crash_okE hd v K hk (fun hne k hv hm => by
    have h1 := hB k hv hne
    have h2 := hl k hm
    omega)).mono fun e w' he => Held.ended h.below h.base hl he
end Go.Proofs.Ytmkedanlpapndaa
