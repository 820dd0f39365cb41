/-
  The walk of Next, at any state and any bytes.
-/
import Derived.Test.YtgafalobbhoaoaaNextG
import Derived.Deep.RegionHeld3
namespace Go.Proofs.Ytgafalobbhoaoaa
set_option linter.unusedVariables false
open Go.RowKit

theorem run_gd (p : Nat) (m : Mode) (w : World) : Sem.run Try.prog (eqGuard BinOp.eql 47 (Operand.tmp 13) (Operand.const Value.nilFunc) (fv p m) Value.nilFunc) w = .ok () w := by
  cases m <;> kernel_rfl
theorem kind_lit (s : St) (c : Nat) (hm : s.m = .lit) : stepS s c = litS s c ∧ (stepS s c).2 = 0 := by unfold stepS; rw [hm]; exact ⟨rfl, rfl⟩
theorem kind_skip (s : St) (c : Nat) (hm : s.m = .skip) : stepS s c = skipS s c ∧ (stepS s c).2 = 0 := by unfold stepS; rw [hm]; refine ⟨rfl, ?_⟩; simp only; unfold skipS; split <;> rfl
theorem kind_line (s : St) (c : Nat) (hm : s.m = .line) : stepS s c = lineS s c := by unfold stepS; rw [hm]
/-- a line that ends has two bytes at least -/
theorem cmd_long (s : St) (c : Nat) (hok : Ok s) (hm : s.m = .line) (h1 : (stepS s c).2 = 1) : 2 ≤ (stepS s c).1.H.length ∧ (stepS s c).1.H = s.H ++ [c] := by
  rw [kind_line s c hm] at h1 ⊢
  unfold lineS at h1 ⊢
  split at h1
  · simp at h1
  · rename_i h0
    rw [if_neg h0]
    split at h1
    · simp at h1
    · rename_i he
      rw [if_neg he]
      have he' : endsB s c = true := by simpa using he
      have hcr := hok.cr hm (ends_yes he').1
      split at h1
      · rename_i ha
        refine ⟨?_, rfl⟩
        show 2 ≤ (s.H ++ [c]).length
        simp
        omega
      · split at h1
        · simp at h1
        · simp at h1

set_option maxRecDepth 100000 in
set_option maxHeartbeats 1000000 in
theorem next_none (p : Nat) (h : Value) (s : St) (hok : Ok s) (w : World) (k : FeedS w p (.slice none 0 0) h s) :
    Calls Try.prog 14 #[.pointer (some ⟨p, 0, none⟩)] w (NextIs w p (.slice none 0 0) h (runS s [])) := by
  obtain ⟨c0, c1, c2, c3, c4, c5, c6, c7, x0, x1, x2, x3, x4, x5, x6, x7⟩ := k.b.at
  have HK := Lib.hid k
  have hcmp := run_fv p s.m w
  have hgd := run_gd p s.m w
  clear k
  generalize fv p s.m = F at *
  go_enter Try.func14, Try.ntmps14
  go_wp2_with fail
  refine wp_loop_rounds 1 ?_
  rw [rounds_succ]
  go_wp2_with fail
  refine bodyPost_ret (v := .tuple #[.slice none 0 0, .int .i64 0]) (by simp [results, Try.results14, go_sem]) rfl ⟨_, h, .slice none 0 0, rfl, ⟨HK.out.b.set1 _, HK.out.o.off (feed_row_ne HK.out.b HK.out.o)⟩, RestB.nil _, .inl rfl, World.ownsRow_nil _ _ _ _, (Foot.refl p h w).set, Moved.refl _ _, (by intro h; cases h), (by intro _; rfl)⟩

set_option maxRecDepth 100000 in
set_option maxHeartbeats 8000000 in
theorem next_F (p : Nat) (g off cap : Nat) (h : Value) (s : St) (R : List Nat) (hok : Ok s) (w : World) (k : FeedS w p (.slice (some ⟨g, off, none⟩) R.length cap) h s) (hr : RestB w (.slice (some ⟨g, off, none⟩) R.length cap) R) (hd : h.ownBlock ≠ some g) (hR : R.length ≤ 2000000) :
    Calls Try.prog 14 #[.pointer (some ⟨p, 0, none⟩)] w (NextIs w p (.slice (some ⟨g, off, none⟩) R.length cap) h (runS s R)) := by
  obtain ⟨c0, c1, c2, c3, c4, c5, c6, c7, x0, x1, x2, x3, x4, x5, x6, x7⟩ := k.b.at
  have hgp : g ≠ p := by
    have := RestB.ne_feed k.b hr
    rintro rfl
    exact this rfl
  have hgw := hr.lt g rfl
  have hpw := k.b.lt
  have hcap : R.length ≤ cap := by
    rcases hr.2 with ⟨e, _⟩ | ⟨_, _, _, _, e, _, _, h2, _⟩
    · simp at e
    · simp only [Value.slice.injEq] at e; omega
  have hcmp := run_fv p s.m w
  have hgd := run_gd p s.m w
  have HK := Lib.hid k
  have HR := Lib.hid hr
  have HOK := Lib.hid hok
  have HD := Lib.hid (show ∀ b, (Value.slice (some ⟨g, off, none⟩) R.length cap).ownBlock = some b → h.ownBlock ≠ some b by intro b hb; simp [Value.ownBlock] at hb; rw [← hb]; exact hd)
  have HP := Lib.hid (show (Value.slice (some ⟨g, off, none⟩) R.length cap).ownBlock ≠ some p by intro e; simp [Value.ownBlock] at e; exact hgp e)
  clear k hr hok hd
  generalize hF : fv p s.m = F at hcmp hgd c0
  clear hF
  go_enter Try.func14, Try.ntmps14
  go_wp2_with fail
  go_loopw [25] (fun i wr => ∃ kk sk hk, kk ≤ R.length ∧ i = .int .i64 ((kk : Nat) : Int) ∧ Going w wr p (.slice (some ⟨g, off, none⟩) R.length cap) h hk s sk R kk) (fun i _ => R.length - (intOf i).toNat)
  case atStart => exact ⟨0, s, h, Nat.zero_le _, rfl, HK.out, HOK.out, rfl, Foot.refl _ _ _, Moved.refl _ _⟩
  case round =>
    obtain ⟨kk, sk, hk, hkk, rfl, hgo⟩ := hrel
    have HG := Lib.hid hgo
    obtain ⟨d0, d1, d2, d3, d4, d5, d6, d7, y0, y1, y2, y3, y4, y5, y6, y7⟩ := hgo.f.b.at
    have hrr := hgo.rest HR.out HP.out HD.out
    have HRR := Lib.hid hrr
    clear hgo hrr
    by_cases hlt : kk < R.length
    · have hcx := HRR.out.cell kk hlt
      obtain ⟨x, hx⟩ : ∃ x, R[kk] = x := ⟨_, rfl⟩
      rw [hx] at hcx
      have hxb : x < 256 := by rw [← hx]; exact HRR.out.1 _ (List.getElem_mem hlt)
      have HX := Lib.hid hx
      clear hx
      cases hm : sk.m
      · -- a byte of a line
        have hkl := kind_line sk x hm
        have hk3 := step_kind sk x
        have hcl := cmd_long sk x HG.out.ok hm
        have hst := line_step p _ hk sk HG.out.ok hm x hxb wr HG.out.f
        rw [← hkl] at hst
        rw [hm] at d0
        have HM := Lib.hid hm
        have HCL := Lib.hid hcl
        clear hm hkl hcl
        unfold fv lineV at d0
        have hrun : runS s R = runS sk (x :: R.drop (kk + 1)) := by rw [HG.out.run, List.drop_eq_getElem_cons hlt, HX.out]
        obtain ⟨s2, hs2⟩ : ∃ s2, (stepS sk x).1 = s2 := ⟨_, rfl⟩
        have hok2 := ok_step HG.out.ok x hxb
        have hnx := fun (h0 : (stepS sk x).2 = 0) w2 h2 hf ft mv => HG.out.next (w2 := w2) (h2 := h2) hlt HX.out hxb h0 hf ft mv
        rw [hs2] at hst hnx hok2
        have HRUN := Lib.hid hrun
        have HS2 := Lib.hid hs2
        have HNX := Lib.hid hnx
        have HST := Lib.hid hst
        have HOK2 := Lib.hid hok2
        have HK3 := Lib.hid hk3
        clear hrun hs2 hst hok2 hnx hk3
        have h4 : (stepS sk x).2 = 0 ∨ (stepS sk x).2 = 1 ∨ (stepS sk x).2 = 2 ∨ (stepS sk x).2 = 3 := by have := HK3.out; omega
        rcases h4 with ha | ha | ha | ha
        · have hst := HST.out
          rw [ha] at hst
          have HST2 := Lib.hid hst
          have HAA := Lib.hid ha
          clear hst HST ha
          go_wp2_with fail
          refine HST2.out.mono ?_
          rintro e w2 ⟨h2, rfl, hf2, ft2, mv2⟩
          have HN := Lib.hid (HNX.out HAA.out w2 h2 hf2 ft2 mv2)
          clear hf2 ft2 mv2
          go_wp2_with fail
          go_roundw
          case rel => exact ⟨kk + 1, _, h2, by omega, by go_num, HN.out⟩
          case measure => simp [intOf]; omega
        · have hst := HST.out
          rw [ha] at hst
          have HST2 := Lib.hid hst
          have HAA := Lib.hid ha
          obtain ⟨hl2, hH2⟩ := HCL.out ha
          rw [HS2.out] at hl2
          obtain ⟨m, hm2⟩ : ∃ m, s2.H.length = m + 2 := ⟨s2.H.length - 2, by omega⟩
          have hrun2 : runS s R = (st0, R.drop (kk + 1), 1, s2.H.take m) := by
            rw [HRUN.out]
            conv => lhs; unfold runS
            rw [if_neg (by rw [HAA.out]; decide), if_pos HAA.out, HS2.out]
            rw [hm2, Nat.add_sub_cancel]
          have HRUN2 := Lib.hid hrun2
          have HM2 := Lib.hid hm2
          have hmb : m ≤ 140000 := by have := HOK2.out.size; omega
          clear hst HST ha hl2 hH2 hrun2
          have hstep : (off + (kk + 1)) = off + kk + 1 := by omega
          by_cases hce : cap = kk + 1
          · skip
            go_wp2_with fail
            refine HST2.out.mono ?_
            rintro e w2 ⟨h2, rfl, hf2, ft2, mv2⟩
            have hrest2 : RestB w2 (.slice (some ⟨g, off, none⟩) R.length cap) R := HRR.out.keep (fun b hb => ft2.block b (HRR.out.lt b hb) (by rintro rfl; exact HP.out hb) (HG.out.disj HR.out HD.out b hb))
            obtain ⟨g2, cap2, hh2, _, hg2s⟩ := hf2.o.some (by omega)
            rw [hm2] at hh2
            subst hh2
            have hcap2 : m + 2 ≤ cap2 := by
              obtain ⟨_, _, _, e, h1, h2, _⟩ := (show OwnB w2 0 (.slice (some ⟨g2, 0, none⟩) s2.H.length cap2) s2.H by rw [hm2]; exact hf2.o).row HOK2.out.hb
              simp only [Value.slice.injEq] at e
              omega
            obtain ⟨f0, f1, f2, f3, f4, f5, f6, f7, z0, z1, z2, z3, z4, z5, z6, z7⟩ := hf2.b.at
            have HF2 := Lib.hid hf2
            have HFT := Lib.hid (HG.out.foot.trans HG.out.mv ft2)
            have HMV := Lib.hid (HG.out.mv.trans mv2 HG.out.foot.size)
            have HRE := Lib.hid hrest2
            clear hf2 ft2 mv2 hrest2 hm2
            go_wp2_with fail
            obtain ⟨T, hTv⟩ : ∃ T, T = Value.slice (some ⟨g, off, none⟩) (R.length - (kk + 1)) 0 := ⟨_, rfl⟩
            rw [← hTv]
            have hT : RestB w2 T (R.drop (kk + 1)) := by
              have := HRE.out.tail_end (kk + 1) (by omega) hce
              rw [show cap - (kk + 1) = 0 by omega] at this
              rw [hTv]
              exact this
            have hTb : T.ownBlock = some g := by rw [hTv]; rfl
            have F9 := HF2.out.b.set1 T
            have O9 : OwnB (w2.setCell ⟨p, 1, none⟩ T) 0 (.slice (some ⟨g2, 0, none⟩) s2.H.length cap2) s2.H := by rw [HM2.out]; exact HF2.out.o.off (feed_row_ne HF2.out.b HF2.out.o)
            have R9 : RestB (w2.setCell ⟨p, 1, none⟩ T) T (R.drop (kk + 1)) := hT.keep (fun b hb => by rw [hTb] at hb; obtain rfl := Option.some.inj hb; exact heap_setCell_other _ _ _ _ hgp)
            have T9 : Foot p h w (w2.setCell ⟨p, 1, none⟩ T) := HFT.out.set
            have z9 : (w2.setCell ⟨p, 1, none⟩ T).heap.size = w2.heap.size := by simp
            have hw2s := HFT.out.size
            clear f0 f1 f2 f3 f4 f5 f6 f7 z0 z1 z2 z3 z4 z5 z6 z7 HF2 hT hTv HRE HFT HST2
            generalize w2.setCell ⟨p, 1, none⟩ T = W9 at *
            have hz9 : w.heap.size ≤ W9.heap.size := by omega
            have hg9 : g2 < W9.heap.size := by omega
            have hp9 : p < W9.heap.size := by omega
            clear z9
            have e2 := F9.at.c2
            have HF9 := Lib.hid F9
            have hci : (m : Int) ≤ (cap2 : Int) := by omega
            have hci0 : (0 : Int) ≤ (m : Int) := by omega
            have hwm : IntKind.i64.wrap (m : Int) = (m : Int) := IntWalk.i64_in _ (by omega)
            have hcm : m ≤ cap2 := by omega
            have hwi : IntKind.i64.wrap (((m + 2 : Nat) : Int) - 2) = (m : Int) := by rw [IntWalk.i64_in _ (by omega)]; omega
            have hwi' : IntKind.i64.wrap (((m : Int) + 2) - 2) = (m : Int) := by rw [IntWalk.i64_in _ (by omega)]; omega
            have HO9 := Lib.hid (ownB_part O9 HOK2.out.hb m (by have := HM2.out; omega))
            have HT9 := Lib.hid T9
            have HR9 := Lib.hid R9
            clear F9 O9 T9 R9
            go_cut [7] (fun o wx => OwnB wx W9.heap.size o (s2.H.take m) ∧ Below W9.heap.size W9 wx)
            case first =>
              go_region_held3 (fun w' => w'.cell? ⟨p, 2, none⟩ = some (.slice (some ⟨g2, 0, none⟩) (m + 2) cap2)) (first | with_reducible exact kb | with_reducible exact e2 | go_keep)
                ((go_at_call 21; refine (clone_any _ (s2.H.take m) _ (HO9.out.below (Below.refl _ _).drew) (by have := HM2.out; simp; omega)).mono ?_; rintro e w3 ⟨o, rfl, ho, hb⟩; have hb3 : Below W9.heap.size W9 w3 := (Below.refl _ _).drew.trans hb; have kb : w3.cell? ⟨p, 2, none⟩ = some (.slice (some ⟨g2, 0, none⟩) (m + 2) cap2) := (hb3.cell (p := ⟨p, 2, none⟩) (by show p < _; omega)).trans e2; have HH : Hid (OwnB w3 W9.heap.size o (s2.H.take m) ∧ Below W9.heap.size W9 w3) := Lib.hid (And.intro ho hb3); clear hb hb3 ho))
              go_wp2_with fail
              go_meet
              exact ⟨HH.out.1, HH.out.2⟩
            case rest =>
              obtain ⟨ho, hb⟩ := hcut
              obtain ⟨oa, oc, rfl⟩ := ho.shape
              go_wp2_with fail
              refine (begin_any p _ _ _ _ _ _ _ _ _ (HF9.out.keep hb (by omega))).mono ?_
              rintro e w4 ⟨rfl, hf4, hz4, hb4, hk4⟩
              have hoL := ownB_lt ho
              have HO4 := Lib.hid (ownB_base (ownB_kept ho (hk4 wc.heap.size) hoL (by omega)) hz9)
              have HF4 := Lib.hid hf4
              have HR4 : Hid (RestB w4 T (R.drop (kk + 1))) := Lib.hid (HR9.out.keep (fun b hb' => by
                have hbl := HR9.out.lt b hb'
                have hbs := hb.size
                rw [hTb] at hb'
                obtain rfl := Option.some.inj hb'
                exact (hk4 wc.heap.size g (by omega) hgp).trans (hb.block g hbl)))
              have HT4 := Lib.hid ((HT9.out.trans HMV.out (Foot.of_below _ hb)).trans HMV.out (Foot.of_kept _ hz4 hk4 hb4))
              clear ho hb hf4 hb4 hk4 hoL hz4
              go_wp2_with fail
              refine bodyPost_ret (v := .tuple #[.slice oa (s2.H.take m).length oc, .int .i64 1]) (by simp [results, Try.results14, go_sem]) rfl ?_
              rw [HRUN2.out]
              exact ⟨_, .slice none 0 0, T, rfl, ⟨HF4.out, World.ownsRow_nil _ _ _ _⟩, HR4.out, .inl hTb, HO4.out, HT4.out, Moved.none _ _, (fun _ => rfl), (fun h => absurd rfl h)⟩
          · skip
            go_wp2_with fail
            refine HST2.out.mono ?_
            rintro e w2 ⟨h2, rfl, hf2, ft2, mv2⟩
            have hrest2 : RestB w2 (.slice (some ⟨g, off, none⟩) R.length cap) R := HRR.out.keep (fun b hb => ft2.block b (HRR.out.lt b hb) (by rintro rfl; exact HP.out hb) (HG.out.disj HR.out HD.out b hb))
            obtain ⟨g2, cap2, hh2, _, hg2s⟩ := hf2.o.some (by omega)
            rw [hm2] at hh2
            subst hh2
            have hcap2 : m + 2 ≤ cap2 := by
              obtain ⟨_, _, _, e, h1, h2, _⟩ := (show OwnB w2 0 (.slice (some ⟨g2, 0, none⟩) s2.H.length cap2) s2.H by rw [hm2]; exact hf2.o).row HOK2.out.hb
              simp only [Value.slice.injEq] at e
              omega
            obtain ⟨f0, f1, f2, f3, f4, f5, f6, f7, z0, z1, z2, z3, z4, z5, z6, z7⟩ := hf2.b.at
            have HF2 := Lib.hid hf2
            have HFT := Lib.hid (HG.out.foot.trans HG.out.mv ft2)
            have HMV := Lib.hid (HG.out.mv.trans mv2 HG.out.foot.size)
            have HRE := Lib.hid hrest2
            clear hf2 ft2 mv2 hrest2 hm2
            go_wp2_with fail
            obtain ⟨T, hTv⟩ : ∃ T, T = Value.slice (some ⟨g, off + kk + 1, none⟩) (R.length - (kk + 1)) (cap - (kk + 1)) := ⟨_, rfl⟩
            rw [← hTv]
            have hT : RestB w2 T (R.drop (kk + 1)) := by
              have := HRE.out.tail (kk + 1) (by omega) hce
              rw [hTv]
              exact this
            have hTb : T.ownBlock = some g := by rw [hTv]; rfl
            have F9 := HF2.out.b.set1 T
            have O9 : OwnB (w2.setCell ⟨p, 1, none⟩ T) 0 (.slice (some ⟨g2, 0, none⟩) s2.H.length cap2) s2.H := by rw [HM2.out]; exact HF2.out.o.off (feed_row_ne HF2.out.b HF2.out.o)
            have R9 : RestB (w2.setCell ⟨p, 1, none⟩ T) T (R.drop (kk + 1)) := hT.keep (fun b hb => by rw [hTb] at hb; obtain rfl := Option.some.inj hb; exact heap_setCell_other _ _ _ _ hgp)
            have T9 : Foot p h w (w2.setCell ⟨p, 1, none⟩ T) := HFT.out.set
            have z9 : (w2.setCell ⟨p, 1, none⟩ T).heap.size = w2.heap.size := by simp
            have hw2s := HFT.out.size
            clear f0 f1 f2 f3 f4 f5 f6 f7 z0 z1 z2 z3 z4 z5 z6 z7 HF2 hT hTv HRE HFT HST2
            generalize w2.setCell ⟨p, 1, none⟩ T = W9 at *
            have hz9 : w.heap.size ≤ W9.heap.size := by omega
            have hg9 : g2 < W9.heap.size := by omega
            have hp9 : p < W9.heap.size := by omega
            clear z9
            have e2 := F9.at.c2
            have HF9 := Lib.hid F9
            have hci : (m : Int) ≤ (cap2 : Int) := by omega
            have hci0 : (0 : Int) ≤ (m : Int) := by omega
            have hwm : IntKind.i64.wrap (m : Int) = (m : Int) := IntWalk.i64_in _ (by omega)
            have hcm : m ≤ cap2 := by omega
            have hwi : IntKind.i64.wrap (((m + 2 : Nat) : Int) - 2) = (m : Int) := by rw [IntWalk.i64_in _ (by omega)]; omega
            have hwi' : IntKind.i64.wrap (((m : Int) + 2) - 2) = (m : Int) := by rw [IntWalk.i64_in _ (by omega)]; omega
            have HO9 := Lib.hid (ownB_part O9 HOK2.out.hb m (by have := HM2.out; omega))
            have HT9 := Lib.hid T9
            have HR9 := Lib.hid R9
            clear F9 O9 T9 R9
            go_cut [7] (fun o wx => OwnB wx W9.heap.size o (s2.H.take m) ∧ Below W9.heap.size W9 wx)
            case first =>
              go_region_held3 (fun w' => w'.cell? ⟨p, 2, none⟩ = some (.slice (some ⟨g2, 0, none⟩) (m + 2) cap2)) (first | with_reducible exact kb | with_reducible exact e2 | go_keep)
                ((go_at_call 21; refine (clone_any _ (s2.H.take m) _ (HO9.out.below (Below.refl _ _).drew) (by have := HM2.out; simp; omega)).mono ?_; rintro e w3 ⟨o, rfl, ho, hb⟩; have hb3 : Below W9.heap.size W9 w3 := (Below.refl _ _).drew.trans hb; have kb : w3.cell? ⟨p, 2, none⟩ = some (.slice (some ⟨g2, 0, none⟩) (m + 2) cap2) := (hb3.cell (p := ⟨p, 2, none⟩) (by show p < _; omega)).trans e2; have HH : Hid (OwnB w3 W9.heap.size o (s2.H.take m) ∧ Below W9.heap.size W9 w3) := Lib.hid (And.intro ho hb3); clear hb hb3 ho))
              go_wp2_with fail
              go_meet
              exact ⟨HH.out.1, HH.out.2⟩
            case rest =>
              obtain ⟨ho, hb⟩ := hcut
              obtain ⟨oa, oc, rfl⟩ := ho.shape
              go_wp2_with fail
              refine (begin_any p _ _ _ _ _ _ _ _ _ (HF9.out.keep hb (by omega))).mono ?_
              rintro e w4 ⟨rfl, hf4, hz4, hb4, hk4⟩
              have hoL := ownB_lt ho
              have HO4 := Lib.hid (ownB_base (ownB_kept ho (hk4 wc.heap.size) hoL (by omega)) hz9)
              have HF4 := Lib.hid hf4
              have HR4 : Hid (RestB w4 T (R.drop (kk + 1))) := Lib.hid (HR9.out.keep (fun b hb' => by
                have hbl := HR9.out.lt b hb'
                have hbs := hb.size
                rw [hTb] at hb'
                obtain rfl := Option.some.inj hb'
                exact (hk4 wc.heap.size g (by omega) hgp).trans (hb.block g hbl)))
              have HT4 := Lib.hid ((HT9.out.trans HMV.out (Foot.of_below _ hb)).trans HMV.out (Foot.of_kept _ hz4 hk4 hb4))
              clear ho hb hf4 hb4 hk4 hoL hz4
              go_wp2_with fail
              refine bodyPost_ret (v := .tuple #[.slice oa (s2.H.take m).length oc, .int .i64 1]) (by simp [results, Try.results14, go_sem]) rfl ?_
              rw [HRUN2.out]
              exact ⟨_, .slice none 0 0, T, rfl, ⟨HF4.out, World.ownsRow_nil _ _ _ _⟩, HR4.out, .inl hTb, HO4.out, HT4.out, Moved.none _ _, (fun _ => rfl), (fun h => absurd rfl h)⟩
        · have hst := HST.out
          rw [ha] at hst
          have HST2 := Lib.hid hst
          have HAA := Lib.hid ha
          have hrun2 : runS s R = (s2, R.drop (kk + 1), 2, []) := by
            rw [HRUN.out]
            conv => lhs; unfold runS
            rw [if_neg (by rw [HAA.out]; decide), if_neg (by rw [HAA.out]; decide), HS2.out, HAA.out]
          have HRUN2 := Lib.hid hrun2
          clear hst HST ha hrun2 HCL
          have hstep : (off + (kk + 1)) = off + kk + 1 := by omega
          by_cases hce : cap = kk + 1
          · skip
            go_wp2_with fail
            refine HST2.out.mono ?_
            rintro e w2 ⟨h2, rfl, hf2, ft2, mv2⟩
            have hrest2 : RestB w2 (.slice (some ⟨g, off, none⟩) R.length cap) R := HRR.out.keep (fun b hb => ft2.block b (HRR.out.lt b hb) (by rintro rfl; exact HP.out hb) (HG.out.disj HR.out HD.out b hb))
            obtain ⟨f0, f1, f2, f3, f4, f5, f6, f7, z0, z1, z2, z3, z4, z5, z6, z7⟩ := hf2.b.at
            have HF2 := Lib.hid hf2
            have HFT := Lib.hid (HG.out.foot.trans HG.out.mv ft2)
            have HMV := Lib.hid (HG.out.mv.trans mv2 HG.out.foot.size)
            have HRE := Lib.hid hrest2
            clear hf2 ft2 mv2 hrest2
            go_wp2_with fail
            obtain ⟨T, hTv⟩ : ∃ T, T = Value.slice (some ⟨g, off, none⟩) (R.length - (kk + 1)) 0 := ⟨_, rfl⟩
            rw [← hTv]
            have hT : RestB w2 T (R.drop (kk + 1)) := by
              have := HRE.out.tail_end (kk + 1) (by omega) hce
              rw [show cap - (kk + 1) = 0 by omega] at this
              rw [hTv]
              exact this
            have hTb : T.ownBlock = some g := by rw [hTv]; rfl
            have F9 := HF2.out.b.set1 T
            have O9 := HF2.out.o.off (j := 1) (u := T) (feed_row_ne HF2.out.b HF2.out.o)
            have R9 : RestB (w2.setCell ⟨p, 1, none⟩ T) T (R.drop (kk + 1)) := hT.keep (fun b hb => by rw [hTb] at hb; obtain rfl := Option.some.inj hb; exact heap_setCell_other _ _ _ _ hgp)
            refine bodyPost_ret (v := .tuple #[.slice none 0 0, .int .i64 2]) (by simp [results, Try.results14, go_sem]) rfl ?_
            rw [HRUN2.out]
            exact ⟨_, h2, T, rfl, ⟨F9, O9⟩, R9, .inl hTb, World.ownsRow_nil _ _ _ _, HFT.out.set, HMV.out, (fun h => by cases h), (fun _ => rfl)⟩
          · skip
            go_wp2_with fail
            refine HST2.out.mono ?_
            rintro e w2 ⟨h2, rfl, hf2, ft2, mv2⟩
            have hrest2 : RestB w2 (.slice (some ⟨g, off, none⟩) R.length cap) R := HRR.out.keep (fun b hb => ft2.block b (HRR.out.lt b hb) (by rintro rfl; exact HP.out hb) (HG.out.disj HR.out HD.out b hb))
            obtain ⟨f0, f1, f2, f3, f4, f5, f6, f7, z0, z1, z2, z3, z4, z5, z6, z7⟩ := hf2.b.at
            have HF2 := Lib.hid hf2
            have HFT := Lib.hid (HG.out.foot.trans HG.out.mv ft2)
            have HMV := Lib.hid (HG.out.mv.trans mv2 HG.out.foot.size)
            have HRE := Lib.hid hrest2
            clear hf2 ft2 mv2 hrest2
            go_wp2_with fail
            obtain ⟨T, hTv⟩ : ∃ T, T = Value.slice (some ⟨g, off + kk + 1, none⟩) (R.length - (kk + 1)) (cap - (kk + 1)) := ⟨_, rfl⟩
            rw [← hTv]
            have hT : RestB w2 T (R.drop (kk + 1)) := by
              have := HRE.out.tail (kk + 1) (by omega) hce
              rw [hTv]
              exact this
            have hTb : T.ownBlock = some g := by rw [hTv]; rfl
            have F9 := HF2.out.b.set1 T
            have O9 := HF2.out.o.off (j := 1) (u := T) (feed_row_ne HF2.out.b HF2.out.o)
            have R9 : RestB (w2.setCell ⟨p, 1, none⟩ T) T (R.drop (kk + 1)) := hT.keep (fun b hb => by rw [hTb] at hb; obtain rfl := Option.some.inj hb; exact heap_setCell_other _ _ _ _ hgp)
            refine bodyPost_ret (v := .tuple #[.slice none 0 0, .int .i64 2]) (by simp [results, Try.results14, go_sem]) rfl ?_
            rw [HRUN2.out]
            exact ⟨_, h2, T, rfl, ⟨F9, O9⟩, R9, .inl hTb, World.ownsRow_nil _ _ _ _, HFT.out.set, HMV.out, (fun h => by cases h), (fun _ => rfl)⟩
        · have hst := HST.out
          rw [ha] at hst
          have HST2 := Lib.hid hst
          have HAA := Lib.hid ha
          have hrun2 : runS s R = (s2, R.drop (kk + 1), 3, []) := by
            rw [HRUN.out]
            conv => lhs; unfold runS
            rw [if_neg (by rw [HAA.out]; decide), if_neg (by rw [HAA.out]; decide), HS2.out, HAA.out]
          have HRUN2 := Lib.hid hrun2
          clear hst HST ha hrun2 HCL
          have hstep : (off + (kk + 1)) = off + kk + 1 := by omega
          by_cases hce : cap = kk + 1
          · skip
            go_wp2_with fail
            refine HST2.out.mono ?_
            rintro e w2 ⟨h2, rfl, hf2, ft2, mv2⟩
            have hrest2 : RestB w2 (.slice (some ⟨g, off, none⟩) R.length cap) R := HRR.out.keep (fun b hb => ft2.block b (HRR.out.lt b hb) (by rintro rfl; exact HP.out hb) (HG.out.disj HR.out HD.out b hb))
            obtain ⟨f0, f1, f2, f3, f4, f5, f6, f7, z0, z1, z2, z3, z4, z5, z6, z7⟩ := hf2.b.at
            have HF2 := Lib.hid hf2
            have HFT := Lib.hid (HG.out.foot.trans HG.out.mv ft2)
            have HMV := Lib.hid (HG.out.mv.trans mv2 HG.out.foot.size)
            have HRE := Lib.hid hrest2
            clear hf2 ft2 mv2 hrest2
            go_wp2_with fail
            obtain ⟨T, hTv⟩ : ∃ T, T = Value.slice (some ⟨g, off, none⟩) (R.length - (kk + 1)) 0 := ⟨_, rfl⟩
            rw [← hTv]
            have hT : RestB w2 T (R.drop (kk + 1)) := by
              have := HRE.out.tail_end (kk + 1) (by omega) hce
              rw [show cap - (kk + 1) = 0 by omega] at this
              rw [hTv]
              exact this
            have hTb : T.ownBlock = some g := by rw [hTv]; rfl
            have F9 := HF2.out.b.set1 T
            have O9 := HF2.out.o.off (j := 1) (u := T) (feed_row_ne HF2.out.b HF2.out.o)
            have R9 : RestB (w2.setCell ⟨p, 1, none⟩ T) T (R.drop (kk + 1)) := hT.keep (fun b hb => by rw [hTb] at hb; obtain rfl := Option.some.inj hb; exact heap_setCell_other _ _ _ _ hgp)
            refine bodyPost_ret (v := .tuple #[.slice none 0 0, .int .i64 3]) (by simp [results, Try.results14, go_sem]) rfl ?_
            rw [HRUN2.out]
            exact ⟨_, h2, T, rfl, ⟨F9, O9⟩, R9, .inl hTb, World.ownsRow_nil _ _ _ _, HFT.out.set, HMV.out, (fun h => by cases h), (fun _ => rfl)⟩
          · skip
            go_wp2_with fail
            refine HST2.out.mono ?_
            rintro e w2 ⟨h2, rfl, hf2, ft2, mv2⟩
            have hrest2 : RestB w2 (.slice (some ⟨g, off, none⟩) R.length cap) R := HRR.out.keep (fun b hb => ft2.block b (HRR.out.lt b hb) (by rintro rfl; exact HP.out hb) (HG.out.disj HR.out HD.out b hb))
            obtain ⟨f0, f1, f2, f3, f4, f5, f6, f7, z0, z1, z2, z3, z4, z5, z6, z7⟩ := hf2.b.at
            have HF2 := Lib.hid hf2
            have HFT := Lib.hid (HG.out.foot.trans HG.out.mv ft2)
            have HMV := Lib.hid (HG.out.mv.trans mv2 HG.out.foot.size)
            have HRE := Lib.hid hrest2
            clear hf2 ft2 mv2 hrest2
            go_wp2_with fail
            obtain ⟨T, hTv⟩ : ∃ T, T = Value.slice (some ⟨g, off + kk + 1, none⟩) (R.length - (kk + 1)) (cap - (kk + 1)) := ⟨_, rfl⟩
            rw [← hTv]
            have hT : RestB w2 T (R.drop (kk + 1)) := by
              have := HRE.out.tail (kk + 1) (by omega) hce
              rw [hTv]
              exact this
            have hTb : T.ownBlock = some g := by rw [hTv]; rfl
            have F9 := HF2.out.b.set1 T
            have O9 := HF2.out.o.off (j := 1) (u := T) (feed_row_ne HF2.out.b HF2.out.o)
            have R9 : RestB (w2.setCell ⟨p, 1, none⟩ T) T (R.drop (kk + 1)) := hT.keep (fun b hb => by rw [hTb] at hb; obtain rfl := Option.some.inj hb; exact heap_setCell_other _ _ _ _ hgp)
            refine bodyPost_ret (v := .tuple #[.slice none 0 0, .int .i64 3]) (by simp [results, Try.results14, go_sem]) rfl ?_
            rw [HRUN2.out]
            exact ⟨_, h2, T, rfl, ⟨F9, O9⟩, R9, .inl hTb, World.ownsRow_nil _ _ _ _, HFT.out.set, HMV.out, (fun h => by cases h), (fun _ => rfl)⟩
      · -- a byte of a literal
        have hkl := kind_lit sk x hm
        rw [hm] at d0
        have HM := Lib.hid hm
        have HKL := Lib.hid hkl
        clear hm hkl
        unfold fv litV at d0
        go_wp2_with fail
        refine (lit_step p _ hk sk HG.out.ok HM.out x hxb wr HG.out.f).mono ?_
        rintro e w2 ⟨h2, rfl, hf2, ft2, mv2⟩
        have HN := Lib.hid (HG.out.next hlt HX.out hxb HKL.out.2 (by rw [HKL.out.1]; exact hf2) ft2 mv2)
        clear hf2 ft2 mv2
        go_wp2_with fail
        go_roundw
        case rel => exact ⟨kk + 1, _, h2, by omega, by go_num, HN.out⟩
        case measure => simp [intOf]; omega
      · have hkl := kind_skip sk x hm
        rw [hm] at d0
        have HM := Lib.hid hm
        have HKL := Lib.hid hkl
        clear hm hkl
        unfold fv skipV at d0
        go_wp2_with fail
        refine (skip_step p _ hk sk HM.out x hxb wr HG.out.f).mono ?_
        rintro e w2 ⟨h2, rfl, hf2, ft2, mv2⟩
        have HN := Lib.hid (HG.out.next hlt HX.out hxb HKL.out.2 (by rw [HKL.out.1]; exact hf2) ft2 mv2)
        clear hf2 ft2 mv2
        go_wp2_with fail
        go_roundw
        case rel => exact ⟨kk + 1, _, h2, by omega, by go_num, HN.out⟩
        case measure => simp [intOf]; omega
    · have hkk2 : kk = R.length := by omega
      have hrun : runS s R = (sk, [], 0, []) := by rw [HG.out.run, hkk2, List.drop_length]; rfl
      have HRUN := Lib.hid hrun
      clear hrun hkk2
      go_wp2_with fail
      refine bodyPost_ret (v := .tuple #[.slice none 0 0, .int .i64 0]) (by simp [results, Try.results14, go_sem]) rfl ?_
      rw [HRUN.out]
      exact ⟨_, hk, .slice none 0 0, rfl, ⟨HG.out.f.b.set1 _, HG.out.f.o.off (feed_row_ne HG.out.f.b HG.out.f.o)⟩, RestB.nil _, .inr rfl, World.ownsRow_nil _ _ _ _, HG.out.foot.set, HG.out.mv, (by intro h; cases h), (by intro _; rfl)⟩
end Go.Proofs.Ytgafalobbhoaoaa
