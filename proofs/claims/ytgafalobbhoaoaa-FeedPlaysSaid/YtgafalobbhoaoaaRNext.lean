/-
  The walk of the reference's Next.
-/
import Derived.Test.YtgafalobbhoaoaaRStep
import Derived.BigRegion
import Derived.Deep.DeepCutAuto
namespace Go.Proofs.Ytgafalobbhoaoaa
set_option linter.unusedVariables false
open Go.RowKit

set_option maxRecDepth 100000 in
set_option maxHeartbeats 8000000 in
theorem rnext_any (p : Nat) (iv c t : Value) (s : St) (T : List Nat) (lo li : Int) (af : Bool) (R : List Nat) (hok : Ok s) (w : World) (k : RefS w p iv c t s T lo li af) (hr : RestB w iv R) (hR : R.length ≤ 3000000) :
    Calls Try.prog 15 #[.pointer (some ⟨p, 0, none⟩)] w (RNextIs w p iv c t (runS s R)) := by
  have HG0 : Hid (RGo w w p iv c t iv c t s s T lo li af R R) := Lib.hid ⟨k, hok, hr, rfl, rfl, Foot2.refl p c t w, Moved.refl _ _, Moved.refl _ _⟩
  clear k hr hok
  go_enter Try.func15, Try.ntmps15
  go_wp2_with fail
  go_loopw [] (fun wr => ∃ iv1 c1 t1 s1 T1 lo1 li1 af1 R1, R1.length ≤ R.length ∧ RGo w wr p iv c t iv1 c1 t1 s s1 T1 lo1 li1 af1 R R1) (fun wr => inLen wr p)
  case atStart => exact ⟨iv, c, t, s, T, lo, li, af, R, Nat.le_refl _, HG0.out⟩
  case round =>
    obtain ⟨iv1, c1, t1, s1, T1, lo1, li1, af1, R1, hle, hgo⟩ := hrel
    by_cases hne : R1 = []
    · subst hne
      obtain ⟨a, cap, hiv⟩ := hgo.rest.shape'
      subst hiv
      have HG := Lib.hid hgo
      obtain ⟨d0, d1, d2, d3, d4, d5, d6, d7, y0, y1, y2, y3, y4, y5, y6, y7⟩ := hgo.f.b.at
      clear hgo
      go_wp2_with fail
      refine bodyPost_ret (v := .tuple #[.slice none 0 0, .int .i64 0]) (by simp [results, Try.results15, go_sem]) rfl ?_
      rw [show RNextIs w p iv c t (runS s R) = RNextIs w p iv c t (s1, [], 0, []) by rw [HG.out.run]; rfl]
      exact ⟨_, _, _, _, _, _, _, _, rfl, HG.out.f, HG.out.rest, HG.out.own, ⟨none, 0, 0, rfl, rfl, Nat.le_refl _, by decide, by simp, by simp, by simp⟩, HG.out.foot, HG.out.mc, HG.out.mt⟩
    · obtain ⟨x, R2, rfl⟩ : ∃ x R2, R1 = x :: R2 := by
        cases R1 with
        | nil => exact absurd rfl hne
        | cons x R2 => exact ⟨x, R2, rfl⟩
      clear hne
      obtain ⟨g, off, cap, hiv⟩ := hgo.rest.shape (by simp)
      subst hiv
      have hx : wr.cell? ⟨g, off, none⟩ = some (.int .u8 (x : Int)) := hgo.rest.cell 0 (by simp)
      have hxb : x < 256 := hgo.rest.1 x (by simp)
      have hcl : R2.length + 1 ≤ cap := by
        rcases hgo.rest.2 with ⟨e, _⟩ | ⟨_, _, _, _, e, _, _, h2, _⟩
        · simp at e
        · simp only [Value.slice.injEq] at e; simp at h2; omega
      have hlen : (x :: R2).length = R2.length + 1 := rfl
      rw [hlen] at hle
      have HG := Lib.hid hgo
      obtain ⟨d0, d1, d2, d3, d4, d5, d6, d7, y0, y1, y2, y3, y4, y5, y6, y7⟩ := hgo.f.b.at
      rw [hlen] at d0
      have hw1 : IntKind.i64.wrap ((R2.length : Int) + 1) = (R2.length : Int) + 1 := IntWalk.i64_in _ (by omega)
      clear hgo hlen
      have hcs : cap = 1 ∨ cap ≠ 1 := by omega
      have HCS := Lib.hid hcs
      clear hcs
      go_upto_region 3 with fail
      go_cut [] (fun wx => ∃ iv2, RestB wr iv2 R2 ∧ iv2.ownBlock = some g ∧ (∀ (W : World) (c t : Value) (lo lf li : Int) (sk af : Bool), RefB W p iv2 c t lo lf li sk af → inLen W p < inLen wr p) ∧ wx = wr.setCell ⟨p, 0, none⟩ iv2)
      case first =>
        rcases HCS.out with rfl | hc1
        · have hR0 : R2 = [] := List.eq_nil_of_length_eq_zero (by omega)
          have hI2 : RestB wr (.slice (some ⟨g, off, none⟩) 0 0) R2 := by
            have := HG.out.rest.tail_end 1 (by simp) rfl
            subst hR0
            exact this
          have HI2 := Lib.hid hI2
          clear hI2 hR0 HCS
          go_wp2_with fail
          go_meet
          exact ⟨_, HI2.out, rfl, fun W c t lo lf li sk af k => by rw [inLen_of k, inLen_of HG.out.f.b]; simp, rfl⟩
        · have hI2 : RestB wr (.slice (some ⟨g, off + 1, none⟩) R2.length (cap - 1)) R2 := by
            have := HG.out.rest.tail 1 (by simp) hc1
            exact this
          have HI2 := Lib.hid hI2
          clear hI2 HCS
          go_wp2_with fail
          go_meet
          exact ⟨_, HI2.out, rfl, fun W c t lo lf li sk af k => by rw [inLen_of k, inLen_of HG.out.f.b]; simp, rfl⟩
      case rest =>
        obtain ⟨iv2, hI2, hib, hME, rfl⟩ := hcut
        have HME := Lib.hid hME
        clear HCS hME
        have hgp : g ≠ p := fun e => ref_rest_ne HG.out.f.b HG.out.rest (by rw [e]; rfl)
        have hf3 := HG.out.f.b.set0 iv2
        have hoc3 := HG.out.f.oc.off (j := 0) (u := iv2) (ref_row_ne HG.out.f.b HG.out.f.oc)
        have hot3 := HG.out.f.ot.off (j := 0) (u := iv2) (ref_row_ne HG.out.f.b HG.out.f.ot)
        have hr3 : RestB (wr.setCell ⟨p, 0, none⟩ iv2) iv2 R2 := hI2.keep (fun b hb => by rw [hib] at hb; obtain rfl := Option.some.inj hb; exact heap_setCell_other _ _ _ _ hgp)
        have hft3 : Foot2 p c t w (wr.setCell ⟨p, 0, none⟩ iv2) := HG.out.foot.set
        have hmc : Moved c c1 w := HG.out.mc
        have hmt : Moved t t1 w := HG.out.mt
        have HSZ := Lib.hid (show (wr.setCell ⟨p, 0, none⟩ iv2).heap.size = wr.heap.size by simp)
        clear d0 d1 d2 d3 d4 d5 d6 d7 y0 y1 y2 y3 y4 y5 y6 y7 hx hI2
        generalize wr.setCell ⟨p, 0, none⟩ iv2 = w3 at *
        obtain ⟨d0, d1, d2, d3, d4, d5, d6, d7, y0, y1, y2, y3, y4, y5, y6, y7⟩ := hf3.at
        have HF3 := Lib.hid hf3
        have HLE := Lib.hid hle
        have HRA : Hid (RAt w w3 p iv c t iv2 c1 t1 s s1 T1 lo1 li1 af1 R R2 x) := Lib.hid ⟨hoc3, hot3, hr3, hft3, hmc, hmt, HG.out.f.ne, fun b hb => by rw [hib] at hb; obtain rfl := Option.some.inj hb; exact HG.out.f.ic g rfl, fun b hb => by rw [hib] at hb; obtain rfl := Option.some.inj hb; exact HG.out.f.it g rfl, hib.trans HG.out.own, HG.out.f.rel, HG.out.ok, HG.out.run, hxb⟩
        have hH := HG.out.ok.size
        have hlf0 := HG.out.ok
        have HOK := Lib.hid hlf0
        clear hf3 hr3 hft3 hot3 hoc3 hmc hmt hib hgp hle hlf0
        cases hm : s1.m
        · -- a line
          have hl0 := HOK.out.ln (by rw [hm]; decide)
          obtain ⟨e1, e2, e3, e4⟩ := HRA.out.rel.1 hm
          have HM := Lib.hid hm
          have h4 : ((s1.left : Nat) : Int) = 0 := by rw [hl0]; rfl
          rw [h4] at d4
          rw [hm] at d6
          subst e1 e2
          obtain ⟨b13, hb13⟩ : ∃ b, (x == 13) = b := ⟨_, rfl⟩
          have g13 : ((x : Int) == 13) = b13 := by
            rw [← hb13]
            by_cases h : x = 13
            · simp [h]
            · rw [beq_false_of_ne h]; exact beq_false_of_ne (by omega)
          have HB13 := Lib.hid hb13
          have HAF := Lib.hid e4
          have HTT := Lib.hid e3
          clear hb13 e4 e3 hm h4 hl0
          go_upto_region 7 with fail
          go_cut [5] (fun ev wx => ev = .bool (endsB s1 x) ∧ w3 = wx)
          case first =>
            have hcase : ((x : Int) == 10) = false ∧ endsB s1 x = false ∨ ((x : Int) == 10) = true ∧ af1 = false ∧ endsB s1 x = false ∨ ((x : Int) == 10) = true ∧ af1 = true ∧ endsB s1 x = true := by
              have ha := HAF.out
              unfold endsB
              by_cases h : x = 10
              · subst h
                cases hq : (s1.ahead == 13) with
                | false => exact .inr (.inl ⟨rfl, by rw [ha, hq], rfl⟩)
                | true => exact .inr (.inr ⟨rfl, by rw [ha, hq], rfl⟩)
              · exact .inl ⟨beq_false_of_ne (by omega), by rw [beq_false_of_ne h]; simp⟩
            clear HB13 HAF HTT
            rcases hcase with ⟨g10, he⟩ | ⟨g10, ga, he⟩ | ⟨g10, ga, he⟩
            · have HE := Lib.hid he
              clear he
              go_wp2_with fail
              go_meet
              exact ⟨by rw [HE.out], rfl⟩
            · rw [ga] at d7
              have HE := Lib.hid he
              clear he
              go_wp2_with fail
              go_meet
              exact ⟨by rw [HE.out], rfl⟩
            · rw [ga] at d7
              have HE := Lib.hid he
              clear he
              go_wp2_with fail
              go_meet
              exact ⟨by rw [HE.out], rfl⟩
          case rest =>
            obtain ⟨rfl, rfl⟩ := hcut
            obtain ⟨ee, hee⟩ : ∃ ee, endsB s1 x = ee := ⟨_, rfl⟩
            rw [hee]
            have HE := Lib.hid hee
            have HF7 := Lib.hid (HF3.out.set7 b13)
            have HK7 := Lib.hid (HRA.out.set (j := 7) (v := .bool b13) HF3.out)
            clear hee
            go_upto_region 12 with fail
            clear d0 d1 d2 d3 d4 d5 d6 d7 y0 y1 y2 y3 y4 y5 y6 y7
            generalize w3.setCell ⟨p, 7, none⟩ (.bool b13) = w7 at *
            have HF8 := Lib.hid (show RefB w7.drew p iv2 c1 t1 _ _ _ _ _ from HF7.out.same rfl)
            have HK8 := Lib.hid HK7.out.drew
            refine AnyBut.enter (by kernel_rfl) (fun u => u.heap[p]? = w7.drew.heap[p]?) (fun j => decide (16 ≤ j)) ?_
            generalize w7.drew = w8 at *
            clear HF7 HK7
            have hpl8 := HF8.out.lt
            have hoc8 := HK8.out.oc
            have hot8 := HK8.out.ot
            have HTH := Lib.hid (show T1.length ≤ s1.H.length by rw [HTT.out]; simp)
            have hth : T1.length ≤ 140000 := by have := HTH.out; omega
            have HCP := Lib.hid (ref_row_ne HF8.out hoc8)
            have HTP := Lib.hid (ref_row_ne HF8.out hot8)
            have hcl8 := Lib.hid (ownB_lt hoc8)
            have htl8 := Lib.hid (ownB_lt hot8)
            refine AnyBut.take0 (i := 0) (oi := ⟨_, _, _, _, _, _⟩) (v := ?_) rfl (by kernel_rfl) (by kernel_rfl) (by kernel_rfl) (fun _ _ _ h => h) (Or.inl ⟨by rfl, ?_⟩) ?_
            rotate_left
            · intro w; go_simp <;> with_reducible rfl
            simp only [Act.put, List.setIfInBounds_toArray, List.set_cons_zero, List.set_cons_succ]
            refine AnyBut.take0 (i := 1) (oi := ⟨_, _, _, _, _, _⟩) (v := ?_) rfl (by kernel_rfl) (by kernel_rfl) (by kernel_rfl) (fun _ _ _ h => h) (Or.inl ⟨by rfl, ?_⟩) ?_
            rotate_left
            · intro w; go_simp <;> with_reducible rfl
            simp only [Act.put, List.setIfInBounds_toArray, List.set_cons_zero, List.set_cons_succ]
            refine AnyBut.take0 (i := 2) (oi := ⟨_, _, _, _, _, _⟩) (v := ?_) rfl (by kernel_rfl) (by kernel_rfl) (by kernel_rfl) (fun _ _ _ h => h) (Or.inl ⟨by rfl, ?_⟩) ?_
            rotate_left
            · intro w; go_simp <;> with_reducible rfl
            simp only [Act.put, List.setIfInBounds_toArray, List.set_cons_zero, List.set_cons_succ]
            refine AnyBut.take0 (i := 3) (oi := ⟨_, _, _, _, _, _⟩) (v := ?_) rfl (by kernel_rfl) (by kernel_rfl) (by kernel_rfl) (fun _ _ _ h => h) (Or.inl ⟨by rfl, ?_⟩) ?_
            rotate_left
            · intro w; go_simp <;> with_reducible rfl
            simp only [Act.put, List.setIfInBounds_toArray, List.set_cons_zero, List.set_cons_succ]
            refine AnyBut.take0 (i := 4) (oi := ⟨_, _, _, _, _, _⟩) (v := ?_) rfl (by kernel_rfl) (by kernel_rfl) (by kernel_rfl) (fun _ _ _ h => h) (Or.inl ⟨by rfl, ?_⟩) ?_
            rotate_left
            · intro w; go_simp <;> with_reducible rfl
            simp only [Act.put, List.setIfInBounds_toArray, List.set_cons_zero, List.set_cons_succ]
            refine AnyBut.take (i := 5) (oi := ⟨_, _, _, _, _, _⟩) (v := ?_) rfl (by kernel_rfl) (by kernel_rfl) (by kernel_rfl) (by kernel_rfl) (fun _ _ _ h => h) (Or.inl ⟨by rfl, ?_⟩) (by rfl) ?_
            rotate_left
            · intro u hSu; have qc := (HF8.out.same hSu).at.c1; go_simp <;> with_reducible rfl
            simp only [Act.put, List.setIfInBounds_toArray, List.set_cons_zero, List.set_cons_succ]
            refine AnyBut.take0 (i := 6) (oi := ⟨_, _, _, _, _, _⟩) (v := ?_) rfl (by kernel_rfl) (by kernel_rfl) (by kernel_rfl) (fun _ _ _ h => h) (Or.inl ⟨by rfl, ?_⟩) ?_
            rotate_left
            · intro w; go_simp <;> with_reducible rfl
            simp only [Act.put, List.setIfInBounds_toArray, List.set_cons_zero, List.set_cons_succ]
            refine AnyBut.take0 (i := 9) (oi := ⟨_, _, _, _, _, _⟩) (v := ?_) rfl (by kernel_rfl) (by kernel_rfl) (by kernel_rfl) (fun _ _ _ h => h) (Or.inl ⟨by rfl, ?_⟩) ?_
            rotate_left
            · intro w; go_simp <;> with_reducible rfl
            simp only [Act.put, List.setIfInBounds_toArray, List.set_cons_zero, List.set_cons_succ]
            refine AnyBut.take0 (i := 10) (oi := ⟨_, _, _, _, _, _⟩) (v := ?_) rfl (by kernel_rfl) (by kernel_rfl) (by kernel_rfl) (fun _ _ _ h => h) (Or.inl ⟨by rfl, ?_⟩) ?_
            rotate_left
            · intro w; go_simp <;> with_reducible rfl
            simp only [Act.put, List.setIfInBounds_toArray, List.set_cons_zero, List.set_cons_succ]
            refine AnyBut.take0 (i := 11) (oi := ⟨_, _, _, _, _, _⟩) (v := ?_) rfl (by kernel_rfl) (by kernel_rfl) (by kernel_rfl) (fun _ _ _ h => h) (Or.inl ⟨by rfl, ?_⟩) ?_
            rotate_left
            · intro w; go_simp <;> with_reducible rfl
            simp only [Act.put, List.setIfInBounds_toArray, List.set_cons_zero, List.set_cons_succ]
            refine AnyBut.take (i := 12) (oi := ⟨_, _, _, _, _, _⟩) (v := ?_) rfl (by kernel_rfl) (by kernel_rfl) (by kernel_rfl) (by kernel_rfl) (fun _ _ _ h => h) (Or.inl ⟨by rfl, ?_⟩) (by rfl) ?_
            rotate_left
            · intro u hSu; have qc := (HF8.out.same hSu).at.c2; go_simp <;> with_reducible rfl
            simp only [Act.put, List.setIfInBounds_toArray, List.set_cons_zero, List.set_cons_succ]
            refine AnyBut.take0 (i := 13) (oi := ⟨_, _, _, _, _, _⟩) (v := ?_) rfl (by kernel_rfl) (by kernel_rfl) (by kernel_rfl) (fun _ _ _ h => h) (Or.inl ⟨by rfl, ?_⟩) ?_
            rotate_left
            · intro w; go_simp <;> with_reducible rfl
            simp only [Act.put, List.setIfInBounds_toArray, List.set_cons_zero, List.set_cons_succ]
            apply via7 (M := fun c2 t2 u => Mid w8 u c1 t1 c2 t2 s1.H T1 x)
            · intro hT
              refine AnyBut.ready (rs := [7, 14]) (by kernel_rfl) (by simp) ?_
              refine ButReady.cons (o := ⟨_, _, _, _, _, _⟩) rfl (fun K hK => ?_) ?_
              · go_simp
                refine hK _ _ (fun _ h => (Below.heap_alloc w8 _ p hpl8).trans h) ?_
                clear hK K
                have hA : Below w8.heap.size w8 (w8.alloc (.cells #[.int .u8 (x : Int)] 5)) := (Below.refl _ _).alloc (Nat.le_refl _) _
                have hocA : OwnB (w8.alloc (.cells #[.int .u8 (x : Int)] 5)) 0 c1 s1.H := hoc8.keep hA hcl8.out
                refine AnyBut.ready (rs := [8, 14]) (by kernel_rfl) (by simp) ?_
                refine ButReady.cons (o := ⟨_, _, _, _, _, _⟩) rfl (fun K hK => ?_) ?_
                · refine step_app1 rfl (.tmp 76) (.tmp 78) rfl rfl hocA _ rfl x (newcell w8 _) (by omega) (fun c2 u2 oA gA mA => hK _ _ (fun _ h => (gA.block p (by simp; omega) (fun e => HCP.out e.symm)).trans h) ?_)
                  clear hK K
                  simp only [Act.put, List.setIfInBounds_toArray, List.set_cons_zero, List.set_cons_succ]
                  have hB : Below u2.heap.size u2 (u2.alloc (.cells #[.int .u8 (x : Int)] 5)) := (Below.refl _ _).alloc (Nat.le_refl _) _
                  have hlt2 : p < u2.heap.size := by have := gA.size; simp at this; omega
                  have hotB := mid_t hot8 HK8.out.ne hA gA hB
                  refine AnyBut.ready (rs := [14]) (by kernel_rfl) (by simp) ?_
                  refine ButReady.cons (o := ⟨_, _, _, _, _, _⟩) rfl (fun K hK => ?_) ButReady.nil
                  go_simp
                  refine hK _ _ (fun _ h => (Below.heap_alloc u2 _ p hlt2).trans h) ?_
                  clear hK K
                  refine AnyBut.ready (rs := [15]) (by kernel_rfl) (by simp) ?_
                  refine ButReady.cons (o := ⟨_, _, _, _, _, _⟩) rfl (fun K hK => ?_) ButReady.nil
                  refine step_app1 rfl (.tmp 83) (.tmp 85) rfl rfl hotB _ rfl x (newcell u2 _) (by omega) (fun t2 u4 oB gB mB => hK _ _ (fun _ h => (gB.block p (by simp; omega) (fun e => HTP.out e.symm)).trans h) ?_)
                  clear hK K
                  simp only [Act.put, List.setIfInBounds_toArray, List.set_cons_zero, List.set_cons_succ]
                  have hmid := mid_of hoc8 hot8 HK8.out.ne hA gA mA oA hB gB mB oB
                  generalize Value.slice (some ⟨w8.heap.size, 0, none⟩) 1 1 = v78
                  generalize Value.slice (some ⟨u2.heap.size, 0, none⟩) 1 1 = v85
                  exact AnyBut.relist (hT v78 v85 c2 t2 u4 hmid) (show _ = (#[true, true, true, true, true, true, true, true, true, true, true, true, true, true, true, true, false, false, false, false, false, false] : Array Bool) by kernel_rfl)
                · refine ButReady.cons (o := ⟨_, _, _, _, _, _⟩) rfl (fun K hK => ?_) ButReady.nil
                  go_simp
                  refine hK _ _ (fun _ h => (Below.heap_alloc (w8.alloc (.cells #[.int .u8 (x : Int)] 5)) _ p (by simp; omega)).trans h) ?_
                  clear hK K
                  have hA2 : Below w8.heap.size w8 ((w8.alloc (.cells #[.int .u8 (x : Int)] 5)).alloc (.cells #[.int .u8 (x : Int)] 5)) := hA.alloc (by simp) _
                  have hocA2 : OwnB ((w8.alloc (.cells #[.int .u8 (x : Int)] 5)).alloc (.cells #[.int .u8 (x : Int)] 5)) 0 c1 s1.H := hoc8.keep hA2 hcl8.out
                  have n0 : ((w8.alloc (.cells #[.int .u8 (x : Int)] 5)).alloc (.cells #[.int .u8 (x : Int)] 5)).cell? ⟨w8.heap.size, 0, none⟩ = some (.int .u8 (x : Int)) := by rw [World.cell?_of_block (Below.heap_alloc (w8.alloc (.cells #[.int .u8 (x : Int)] 5)) (.cells #[.int .u8 (x : Int)] 5) w8.heap.size (by simp))]; exact newcell w8 _
                  have n1 : ((w8.alloc (.cells #[.int .u8 (x : Int)] 5)).alloc (.cells #[.int .u8 (x : Int)] 5)).cell? ⟨w8.heap.size + 1, 0, none⟩ = some (.int .u8 (x : Int)) := by have h := newcell (w8.alloc (.cells #[.int .u8 (x : Int)] 5)) (x : Int); rw [show (w8.alloc (.cells #[.int .u8 (x : Int)] 5)).heap.size = w8.heap.size + 1 by simp] at h; exact h
                  refine AnyBut.ready (rs := [8]) (by kernel_rfl) (by simp) ?_
                  refine ButReady.cons (o := ⟨_, _, _, _, _, _⟩) rfl (fun K hK => ?_) ButReady.nil
                  refine step_app1 rfl (.tmp 76) (.tmp 78) rfl rfl hocA2 _ rfl x (n0) (by omega) (fun c2 u3 oA gA mA => hK _ _ (fun _ h => (gA.block p (by simp; omega) (fun e => HCP.out e.symm)).trans h) ?_)
                  clear hK K
                  simp only [Act.put, List.setIfInBounds_toArray, List.set_cons_zero, List.set_cons_succ]
                  have hB : Below u3.heap.size u3 u3 := Below.refl _ _
                  have hlt3 : p < u3.heap.size := by have := gA.size; simp at this; omega
                  have hotB := mid_t hot8 HK8.out.ne hA2 gA hB
                  refine AnyBut.ready (rs := [15]) (by kernel_rfl) (by simp) ?_
                  refine ButReady.cons (o := ⟨_, _, _, _, _, _⟩) rfl (fun K hK => ?_) ButReady.nil
                  refine step_app1 rfl (.tmp 83) (.tmp 85) rfl rfl hotB _ rfl x ((cell_grown gA (by simp <;> omega) (fun e => by have := hcl8.out _ e; omega)).trans (n1)) (by omega) (fun t2 u4 oB gB mB => hK _ _ (fun _ h => (gB.block p hlt3 (fun e => HTP.out e.symm)).trans h) ?_)
                  clear hK K
                  simp only [Act.put, List.setIfInBounds_toArray, List.set_cons_zero, List.set_cons_succ]
                  have hmid := mid_of hoc8 hot8 HK8.out.ne hA2 gA mA oA hB gB mB oB
                  generalize Value.slice (some ⟨w8.heap.size, 0, none⟩) 1 1 = v78
                  generalize Value.slice (some ⟨w8.heap.size + 1, 0, none⟩) 1 1 = v85
                  exact AnyBut.relist (hT v78 v85 c2 t2 u4 hmid) (show _ = (#[true, true, true, true, true, true, true, true, true, true, true, true, true, true, true, true, false, false, false, false, false, false] : Array Bool) by kernel_rfl)
              · refine ButReady.cons (o := ⟨_, _, _, _, _, _⟩) rfl (fun K hK => ?_) ButReady.nil
                go_simp
                refine hK _ _ (fun _ h => (Below.heap_alloc w8 _ p hpl8).trans h) ?_
                clear hK K
                have hA : Below w8.heap.size w8 (w8.alloc (.cells #[.int .u8 (x : Int)] 5)) := (Below.refl _ _).alloc (Nat.le_refl _) _
                refine AnyBut.ready (rs := [7]) (by kernel_rfl) (by simp) ?_
                refine ButReady.cons (o := ⟨_, _, _, _, _, _⟩) rfl (fun K hK => ?_) ButReady.nil
                go_simp
                refine hK _ _ (fun _ h => (Below.heap_alloc (w8.alloc (.cells #[.int .u8 (x : Int)] 5)) _ p (by simp; omega)).trans h) ?_
                clear hK K
                have hA2 : Below w8.heap.size w8 ((w8.alloc (.cells #[.int .u8 (x : Int)] 5)).alloc (.cells #[.int .u8 (x : Int)] 5)) := hA.alloc (by simp) _
                have hocA2 : OwnB ((w8.alloc (.cells #[.int .u8 (x : Int)] 5)).alloc (.cells #[.int .u8 (x : Int)] 5)) 0 c1 s1.H := hoc8.keep hA2 hcl8.out
                have n0 : ((w8.alloc (.cells #[.int .u8 (x : Int)] 5)).alloc (.cells #[.int .u8 (x : Int)] 5)).cell? ⟨w8.heap.size, 0, none⟩ = some (.int .u8 (x : Int)) := by rw [World.cell?_of_block (Below.heap_alloc (w8.alloc (.cells #[.int .u8 (x : Int)] 5)) (.cells #[.int .u8 (x : Int)] 5) w8.heap.size (by simp))]; exact newcell w8 _
                have n1 : ((w8.alloc (.cells #[.int .u8 (x : Int)] 5)).alloc (.cells #[.int .u8 (x : Int)] 5)).cell? ⟨w8.heap.size + 1, 0, none⟩ = some (.int .u8 (x : Int)) := by have h := newcell (w8.alloc (.cells #[.int .u8 (x : Int)] 5)) (x : Int); rw [show (w8.alloc (.cells #[.int .u8 (x : Int)] 5)).heap.size = w8.heap.size + 1 by simp] at h; exact h
                refine AnyBut.ready (rs := [8]) (by kernel_rfl) (by simp) ?_
                refine ButReady.cons (o := ⟨_, _, _, _, _, _⟩) rfl (fun K hK => ?_) ButReady.nil
                refine step_app1 rfl (.tmp 76) (.tmp 78) rfl rfl hocA2 _ rfl x (n1) (by omega) (fun c2 u3 oA gA mA => hK _ _ (fun _ h => (gA.block p (by simp; omega) (fun e => HCP.out e.symm)).trans h) ?_)
                clear hK K
                simp only [Act.put, List.setIfInBounds_toArray, List.set_cons_zero, List.set_cons_succ]
                have hB : Below u3.heap.size u3 u3 := Below.refl _ _
                have hlt3 : p < u3.heap.size := by have := gA.size; simp at this; omega
                have hotB := mid_t hot8 HK8.out.ne hA2 gA hB
                refine AnyBut.ready (rs := [15]) (by kernel_rfl) (by simp) ?_
                refine ButReady.cons (o := ⟨_, _, _, _, _, _⟩) rfl (fun K hK => ?_) ButReady.nil
                refine step_app1 rfl (.tmp 83) (.tmp 85) rfl rfl hotB _ rfl x ((cell_grown gA (by simp <;> omega) (fun e => by have := hcl8.out _ e; omega)).trans (n0)) (by omega) (fun t2 u4 oB gB mB => hK _ _ (fun _ h => (gB.block p hlt3 (fun e => HTP.out e.symm)).trans h) ?_)
                clear hK K
                simp only [Act.put, List.setIfInBounds_toArray, List.set_cons_zero, List.set_cons_succ]
                have hmid := mid_of hoc8 hot8 HK8.out.ne hA2 gA mA oA hB gB mB oB
                generalize Value.slice (some ⟨w8.heap.size + 1, 0, none⟩) 1 1 = v78
                generalize Value.slice (some ⟨w8.heap.size, 0, none⟩) 1 1 = v85
                exact AnyBut.relist (hT v78 v85 c2 t2 u4 hmid) (show _ = (#[true, true, true, true, true, true, true, true, true, true, true, true, true, true, true, true, false, false, false, false, false, false] : Array Bool) by kernel_rfl)
            · intro v78 v85 c2 t2 u4 hmid
              have HF9 := Lib.hid (HF8.out.same (hmid.block p hpl8 HCP.out HTP.out))
              obtain ⟨gc, cc, hc2, _, _⟩ := hmid.oc.some (by simp)
              obtain ⟨gt, tc, ht2, _, _⟩ := hmid.ot.some (by simp)
              simp only [List.length_append, List.length_cons, List.length_nil, Nat.zero_add] at hc2 ht2
              subst hc2 ht2
              have HMID := Lib.hid hmid
              obtain ⟨d0, d1, d2, d3, d4, d5, d6, d7, y0, y1, y2, y3, y4, y5, y6, y7⟩ := HF9.out.at
              clear hmid hoc8 hot8
              refine AnyBut.take0 (i := 16) (oi := ⟨_, _, _, _, _, _⟩) (v := ?_) rfl (by kernel_rfl) (by kernel_rfl) (by kernel_rfl) (fun _ _ _ h => h) (Or.inl ⟨by rfl, ?_⟩) ?_
              rotate_left
              · intro w; go_simp <;> with_reducible rfl
              simp only [Act.put, List.setIfInBounds_toArray, List.set_cons_zero, List.set_cons_succ]
              refine AnyBut.take0 (i := 17) (oi := ⟨_, _, _, _, _, _⟩) (v := ?_) rfl (by kernel_rfl) (by kernel_rfl) (by kernel_rfl) (fun _ _ _ h => h) (Or.inl ⟨by rfl, ?_⟩) ?_
              rotate_left
              · intro w; go_simp <;> with_reducible rfl
              simp only [Act.put, List.setIfInBounds_toArray, List.set_cons_zero, List.set_cons_succ]
              refine AnyBut.ready (rs := [18]) (by kernel_rfl) (by simp) ?_
              refine ButReady.cons (o := ⟨_, _, _, _, _, _⟩) rfl (fun K hK => ?_) ButReady.nil
              go_simp
              refine hK _ _ (fun h => by simp at h) ?_
              clear hK K
              refine AnyBut.take0 (i := 19) (oi := ⟨_, _, _, _, _, _⟩) (v := ?_) rfl (by kernel_rfl) (by kernel_rfl) (by kernel_rfl) (fun _ _ _ h => h) (Or.inl ⟨by rfl, ?_⟩) ?_
              rotate_left
              · intro w; go_simp <;> with_reducible rfl
              simp only [Act.put, List.setIfInBounds_toArray, List.set_cons_zero, List.set_cons_succ]
              refine AnyBut.take0 (i := 20) (oi := ⟨_, _, _, _, _, _⟩) (v := ?_) rfl (by kernel_rfl) (by kernel_rfl) (by kernel_rfl) (fun _ _ _ h => h) (Or.inl ⟨by rfl, ?_⟩) ?_
              rotate_left
              · intro w; go_simp <;> with_reducible rfl
              simp only [Act.put, List.setIfInBounds_toArray, List.set_cons_zero, List.set_cons_succ]
              refine AnyBut.ready (rs := [21]) (by kernel_rfl) (by simp) ?_
              refine ButReady.cons (o := ⟨_, _, _, _, _, _⟩) rfl (fun K hK => ?_) ButReady.nil
              go_simp
              refine hK _ _ (fun h => by simp at h) ?_
              clear hK K
              refine AnyBut.done (by kernel_rfl) ?_ _
              have HM9 := Lib.hid (rmid_of HK8.out HMID.out)
              have hf10 := (HF9.out.set1 (.slice (some ⟨gc, 0, none⟩) (s1.H.length + 1) cc)).set2 (.slice (some ⟨gt, 0, none⟩) (T1.length + 1) tc)
              have hm10 := (HM9.out.set (j := 1) (v := (.slice (some ⟨gc, 0, none⟩) (s1.H.length + 1) cc)) HF9.out).set (j := 2) (v := (.slice (some ⟨gt, 0, none⟩) (T1.length + 1) tc)) (HF9.out.set1 (.slice (some ⟨gc, 0, none⟩) (s1.H.length + 1) cc))
              clear d0 d1 d2 d3 d4 d5 d6 d7 y0 y1 y2 y3 y4 y5 y6 y7
              generalize (u4.setCell ⟨p, 1, none⟩ (.slice (some ⟨gc, 0, none⟩) (s1.H.length + 1) cc)).setCell ⟨p, 2, none⟩ (.slice (some ⟨gt, 0, none⟩) (T1.length + 1) tc) = w10 at *
              obtain ⟨d0, d1, d2, d3, d4, d5, d6, d7, y0, y1, y2, y3, y4, y5, y6, y7⟩ := hf10.at
              have HF10 := Lib.hid hf10
              have HM10 := Lib.hid hm10
              clear hf10 hm10
              rw [HM.out] at d6
              cases ee
              · have hln := HOK.out.len
                have hlen0 : (0 : Int) ≤ (s1.len : Int) ∧ (s1.len : Int) ≤ 4096 := by omega
                by_cases hl : 4096 < s1.len + 1
                · have hov : decide (4096 < (s1.len : Int) + 1) = true := by simp; omega
                  have HL := Lib.hid hl
                  clear hl
                  go_wp2_with fail
                  refine bodyPost_ret (v := .tuple #[.slice none 0 0, .int .i64 3]) (by simp [results, Try.results15, go_sem]) rfl ?_
                  have f1 := HF10.out.set3 ((s1.len : Int) + 1)
                  have f2 := f1.set1 (.slice none 0 0)
                  have f3 := f2.set2 (.slice none 0 0)
                  have f4 := f3.set6 true
                  exact go_long HK8.out ((((HM10.out.set HF10.out).set f1).set f2).set f3) (by have := f4; rw [HOK.out.ln (by rw [HM.out]; decide)] at this; exact this) HM.out HB13.out HL.out HE.out rfl
                · have hov : decide (4096 < (s1.len : Int) + 1) = false := by simp; omega
                  have HL := Lib.hid (show s1.len + 1 ≤ 4096 by omega)
                  clear hl
                  go_wp2_with fail
                  have HGO := Lib.hid (go_push HK8.out (HM10.out.set HF10.out) (HF10.out.set3 ((s1.len : Int) + 1)) HM.out HB13.out HL.out HE.out)
                  go_roundw
                  case rel => exact ⟨_, _, _, _, _, _, _, _, R2, by have := HLE.out; omega, HGO.out⟩
                  case measure => exact HME.out _ _ _ _ _ _ _ _ HGO.out.f.b
              · have hln := HOK.out.len
                have hlen0 : (0 : Int) ≤ (s1.len : Int) ∧ (s1.len : Int) ≤ 4096 := by omega
                have f1 := HF10.out.set3 ((s1.len : Int) + 1)
                have HF1 := Lib.hid f1
                have HM11 := Lib.hid (HM10.out.set (j := 3) (v := .int .i64 ((s1.len : Int) + 1)) HF10.out)
                clear f1
                by_cases hl : 4096 < s1.len + 1
                · have hov : decide (4096 < (s1.len : Int) + 1) = true := by simp; omega
                  have HL := Lib.hid hl
                  clear hl
                  go_wp2_with fail
                  have f2 := HF1.out.set1 (.slice none 0 0)
                  have f3 := f2.set2 (.slice none 0 0)
                  have f4 := f3.set6 true
                  refine (clear_any p _ _ _ _ _ _ _ _ _ f4).mono ?_
                  rintro e w12 ⟨rfl, hf12, hft12, _, hb12⟩
                  have hrun : runS s1 (x :: R2) = (st0, R2, 3, []) := by
                    have hstep : stepS s1 x = (st0, 3) := by
                      unfold stepS
                      rw [HM.out]
                      show lineS s1 x = _
                      unfold lineS
                      rw [if_pos HL.out, HE.out, if_pos rfl]
                    conv => lhs; unfold runS
                    rw [hstep]
                    rfl
                  have HN := Lib.hid (go_over HK8.out (((HM11.out.set HF1.out).set f2).set f3) f4 hf12 hft12 hb12 hrun (rowB_none w12) rfl)
                  clear f2 f3 f4 hf12 hft12 hb12 hrun
                  go_wp2_with fail
                  refine bodyPost_ret (v := .tuple #[.slice none 0 0, .int .i64 3]) (by simp [results, Try.results15, go_sem]) rfl ?_
                  exact HN.out
                · have hov : decide (4096 < (s1.len : Int) + 1) = false := by simp; omega
                  have HL := Lib.hid (show s1.len + 1 ≤ 4096 by omega)
                  clear hl
                  go_upto_region 21 with fail
                  clear d0 d1 d2 d3 d4 d5 d6 d7 y0 y1 y2 y3 y4 y5 y6 y7
                  generalize w10.setCell ⟨p, 3, none⟩ (.int .i64 ((s1.len : Int) + 1)) = w11 at *
                  have hT0 : T1 = s1.H.drop s1.seg := HTT.out
                  have hcr := HOK.out.cr HM.out (ends_yes HE.out).1
                  obtain ⟨n, hn⟩ : ∃ n, T1.length + 1 = n + 2 := ⟨T1.length - 1, by rw [hT0, List.length_drop]; omega⟩
                  have hnb : n ≤ 140000 := by have := HTH.out; omega
                  have hTb : ∀ b ∈ T1 ++ [x], b < 256 := mem_snoc (fun b hb => HOK.out.hb b (List.mem_of_mem_drop (hT0 ▸ hb))) HRA.out.xb
                  have htcap : n + 2 ≤ tc := by
                    obtain ⟨_, _, _, e, h1, h2, _⟩ := HM11.out.ot.row hTb
                    simp only [Value.slice.injEq] at e
                    omega
                  have hrow : RowB w11 (.slice (some ⟨gt, 0, none⟩) n tc) ((T1 ++ [x]).take n) := ownB_part (l := T1 ++ [x]) (by have := HM11.out.ot; rw [List.length_append]; exact this) hTb n (by simp; omega)
                  have hrl : ((T1 ++ [x]).take n).length ≤ 140737488351232 := by simp; omega
                  have HRN := Lib.hid (fun k => rann_any _ _ (w11.drewN k) (hrow.below (below_drewN (Below.refl w11.heap.size w11) k)) hrl)
                  have hpart : partS (pushS s1 x) = (T1 ++ [x]).take n := by
                    have hsg := HOK.out.seg
                    have e : (s1.H ++ [x]).length - 2 - s1.seg = n := by rw [hT0, List.length_drop] at hn; rw [List.length_append]; simp only [List.length_cons, List.length_nil]; omega
                    show ((s1.H ++ [x]).drop s1.seg).take ((s1.H ++ [x]).length - 2 - s1.seg) = _
                    rw [e, List.drop_append_of_le_length hsg, ← hT0]
                  have HPART := Lib.hid hpart
                  have HN := Lib.hid hn
                  obtain ⟨d0, d1, d2, d3, d4, d5, d6, d7, y0, y1, y2, y3, y4, y5, y6, y7⟩ := HF1.out.at
                  rw [hn] at d2
                  clear hT0 hcr hTb hrow hrl hpart hn
                  cases hA : annP ((T1 ++ [x]).take n) with
                  | none =>
                    have hrn := HRN.out
                    rw [hA] at hrn
                    unfold annV at hrn
                    have HRN2 := Lib.hid hrn
                    have HAN := Lib.hid hA
                    clear hrn hA HRN
                    go_quiet ((go_at_call 17; exact Calls.quiet_of_same ((HRN2.out _).mono fun e w' h => ⟨h.1, h.2.symm⟩)))
                    have hst := step_end HM.out HL.out HE.out HPART.out
                    rw [HAN.out] at hst
                    simp only at hst
                    have HST := Lib.hid hst
                    obtain ⟨mm, hmm⟩ : ∃ mm, s1.H.length + 1 = mm + 2 := ⟨s1.H.length - 1, by have := HN.out; have := HTH.out; omega⟩
                    have hmb : mm ≤ 140000 := by omega
                    have hHb : ∀ b ∈ s1.H ++ [x], b < 256 := mem_snoc HOK.out.hb HRA.out.xb
                    have hccap : mm + 2 ≤ cc := by
                      obtain ⟨_, _, _, e, h1, h2, _⟩ := HM11.out.oc.row hHb
                      simp only [Value.slice.injEq] at e
                      omega
                    have HFN : Hid (∀ k, RefB (w11.drewN k) p iv2 _ _ _ _ _ _ _) := Lib.hid fun k => HF1.out.same (w' := w11.drewN k) rfl
                    have HMM := Lib.hid hmm
                    have HHB := Lib.hid hHb
                    rw [hmm] at d1
                    clear hst hmm hHb
                    go_upto_region 23 with fail
                    go_quiet (fail)
                    go_wp2_with fail
                    refine (clear_any p _ _ _ _ _ _ _ _ _ (HFN.out _)).mono ?_
                    rintro e w13 ⟨rfl, hf13, hft13, _, hb13⟩
                    have hout : RowB w13 (.slice (some ⟨gc, 0, none⟩) mm cc) ((s1.H ++ [x]).take mm) := ownB_part (l := s1.H ++ [x]) (by have := HM11.out.oc.same (w' := w13) (fun b hb => hb13 b (by rintro rfl; exact ref_row_ne HF1.out HM11.out.oc hb)); rw [List.length_append]; exact this) HHB.out mm (by have := HMM.out; simp; omega)
                    have hrun : runS s1 (x :: R2) = (st0, R2, 1, (s1.H ++ [x]).take mm) := by
                      conv => lhs; unfold runS
                      rw [HST.out]
                      simp only
                      rw [if_neg (by decide), if_pos trivial]
                      show (st0, R2, 1, (s1.H ++ [x]).take ((s1.H ++ [x]).length - 2)) = _
                      rw [show (s1.H ++ [x]).length - 2 = mm by have := HMM.out; simp; omega]
                    have HNN := Lib.hid (go_over HK8.out (HM11.out.drewN _) (HFN.out _) hf13 hft13 hb13 hrun hout rfl)
                    clear hf13 hft13 hb13 hrun hout
                    go_wp2_with fail
                    refine bodyPost_ret (v := .tuple #[.slice (some ⟨gc, 0, none⟩) mm cc, .int .i64 1]) (by simp [results, Try.results15, go_sem]) rfl ?_
                    exact HNN.out
                  | some v =>
                    have hrn := HRN.out
                    rw [hA] at hrn
                    unfold annV at hrn
                    have HRN2 := Lib.hid hrn
                    have HAN := Lib.hid hA
                    have hv := annP_le hA
                    clear hrn hA HRN
                    have hlits := HOK.out.lits
                    have hlits0 : (0 : Int) ≤ (s1.lits : Int) ∧ (s1.lits : Int) ≤ 8 := by omega
                    have hst := step_end HM.out HL.out HE.out HPART.out
                    rw [HAN.out] at hst
                    simp only at hst
                    have HFN : Hid (∀ k, RefB (w11.drewN k) p iv2 _ _ _ _ _ _ _) := Lib.hid fun k => HF1.out.same (w' := w11.drewN k) rfl
                    by_cases hbad : 16384 < v ∨ s1.lits = 8
                    · rw [if_pos hbad] at hst
                      have HST := Lib.hid hst
                      have hcs : (decide (16384 < (v : Int)) = true ∨ (decide (16384 < (v : Int)) = false ∧ ((s1.lits : Int) == 8) = true)) := by
                        by_cases h : 16384 < v
                        · left; simp; omega
                        · right
                          rcases hbad with h' | h'
                          · exact absurd h' h
                          · constructor
                            · simp; omega
                            · simp [h']
                      have HCX := Lib.hid hcs
                      clear hcs hbad hst
                      go_quiet ((go_at_call 17; exact Calls.quiet_of_same ((HRN2.out _).mono fun e w' h => ⟨h.1, h.2.symm⟩)))
                      rcases HCX.out with g1 | ⟨g1, g2⟩
                      all_goals
                        clear HCX
                        go_wp2_with fail
                        refine (clear_any p _ _ _ _ _ _ _ _ _ (HFN.out _)).mono ?_
                        rintro e w13 ⟨rfl, hf13, hft13, _, hb13⟩
                        have hrun : runS s1 (x :: R2) = (st0, R2, 3, []) := by
                          conv => lhs; unfold runS
                          rw [HST.out]
                          rfl
                        have HNN := Lib.hid (go_over HK8.out (HM11.out.drewN _) (HFN.out _) hf13 hft13 hb13 hrun (rowB_none w13) rfl)
                        clear hf13 hft13 hb13 hrun
                        go_wp2_with fail
                        refine bodyPost_ret (v := .tuple #[.slice none 0 0, .int .i64 3]) (by simp [results, Try.results15, go_sem]) rfl ?_
                        exact HNN.out
                    · rw [if_neg hbad] at hst
                      have HST := Lib.hid hst
                      have g1 : decide (16384 < (v : Int)) = false := by simp; omega
                      have g2 : ((s1.lits : Int) == 8) = false := by simp; omega
                      clear hst hbad
                      go_quiet ((go_at_call 17; exact Calls.quiet_of_same ((HRN2.out _).mono fun e w' h => ⟨h.1, h.2.symm⟩)))
                      go_wp2_with fail
                      refine bodyPost_ret (v := .tuple #[.slice none 0 0, .int .i64 2]) (by simp [results, Try.results15, go_sem]) rfl ?_
                      have e6 : decide (s1.m = .skip) = false := by rw [HM.out]; rfl
                      have q0 := HFN.out nq
                      rw [e6] at q0
                      have q1 := q0.set4 (v : Int)
                      have q2 := q1.set2 (.slice none 0 0)
                      have q3 := q2.set7 false
                      have q4 := q3.set5 ((s1.lits : Int) + 1)
                      exact go_ann HK8.out (((((HM11.out.drewN nq).set q0).set q1).set q2).set q3) q4 HST.out rfl
        · -- a literal
          have hlt := HG.out.ok.lt hm
          obtain ⟨lf, hlf⟩ : ∃ n, s1.left = n + 1 := ⟨s1.left - 1, by omega⟩
          have hlb := HG.out.ok.left
          rw [hlf] at d4
          rw [hm] at d6
          have e1 : (((lf + 1 : Nat) : Int)) = (lf : Int) + 1 := by omega
          rw [e1] at d4
          have hlfb : lf ≤ 16384 := by omega
          have HLF := Lib.hid hlf
          have HM := Lib.hid hm
          clear hlf hm hlb hlt e1
          have hf4 := HF3.out.set4 (lf : Int)
          have hk4 := HRA.out.set (j := 4) (v := .int .i64 (lf : Int)) HF3.out
          go_upto_region 6 with fail
          clear d0 d1 d2 d3 d4 d5 d6 d7 y0 y1 y2 y3 y4 y5 y6 y7
          generalize w3.setCell ⟨p, 4, none⟩ (.int .i64 (lf : Int)) = w4 at *
          obtain ⟨d0, d1, d2, d3, d4, d5, d6, d7, y0, y1, y2, y3, y4, y5, y6, y7⟩ := hf4.at
          have HF4 := Lib.hid hf4
          have HK4 := Lib.hid hk4
          have hoc4 := hk4.oc
          clear hf4 hk4
          go_wp2_with (at_builtin; go_loud (refine app1g rfl (.tmp 45) (.tmp 47) rfl hoc4 (Nat.zero_le _) rfl rfl (by omega) (Lib.hid rfl) ?_); intro o' w5 ho hg5 hm5; have hgo := go_lit HK4.out HF4.out HLF.out HM.out ho hg5 hm5; obtain ⟨oa, oc, rfl⟩ := ho.shape; simp only [List.length_append, List.length_cons, List.length_nil, Nat.zero_add] at ho hm5 hgo; have HGO := Lib.hid hgo; obtain ⟨q0, q1, q2, q3, q4, q5, q6, q7, z0, z1, z2, z3, z4, z5, z6, z7⟩ := ((HF4.out.alloc _).grown hg5 (ref_row_ne HF4.out hoc4)).at; clear ho hg5 hm5 hgo)
          go_roundw
          case rel => exact ⟨_, _, _, _, _, _, _, _, R2, by have := HLE.out; omega, HGO.out⟩
          case measure => exact HME.out _ _ _ _ _ _ _ _ HGO.out.f.b
        · -- what is thrown away
          have hl0 := HOK.out.ln (by rw [hm]; decide)
          have haf := HRA.out.rel.2.2 hm
          have HM := Lib.hid hm
          have h4 : ((s1.left : Nat) : Int) = 0 := by rw [hl0]; rfl
          rw [h4] at d4
          have h6 : decide (s1.m = .skip) = true := by rw [hm]; rfl
          rw [hm] at d6
          obtain ⟨b13, hb13⟩ : ∃ b, (x == 13) = b := ⟨_, rfl⟩
          have g13 : ((x : Int) == 13) = b13 := by
            rw [← hb13]
            by_cases h : x = 13
            · simp [h]
            · rw [beq_false_of_ne h]; exact beq_false_of_ne (by omega)
          have HB13 := Lib.hid hb13
          have HAF := Lib.hid haf
          clear hb13 haf hm h6 h4 hl0
          have hcase : ((x : Int) == 10) = false ∧ endsB s1 x = false ∨ ((x : Int) == 10) = true ∧ af1 = false ∧ endsB s1 x = false ∨ ((x : Int) == 10) = true ∧ af1 = true ∧ endsB s1 x = true := by
            have ha := HAF.out
            unfold endsB
            by_cases h : x = 10
            · subst h
              cases hq : (s1.ahead == 13) with
              | false => exact .inr (.inl ⟨rfl, by rw [ha, hq], rfl⟩)
              | true => exact .inr (.inr ⟨rfl, by rw [ha, hq], rfl⟩)
            · exact .inl ⟨beq_false_of_ne (by omega), by rw [beq_false_of_ne h]; simp⟩
          have HCA := Lib.hid hcase
          clear hcase
          rcases HCA.out with ⟨g10, he⟩ | ⟨g10, ga, he⟩ | ⟨g10, ga, he⟩
          · have HGO := Lib.hid (go_skip HRA.out HF3.out HM.out he HB13.out)
            clear he HCA
            go_wp2_with fail
            go_roundw
            case rel => exact ⟨_, _, _, _, _, _, _, _, R2, by have := HLE.out; omega, HGO.out⟩
            case measure => exact HME.out _ _ _ _ _ _ _ _ HGO.out.f.b
          · have HGO := Lib.hid (go_skip HRA.out HF3.out HM.out he HB13.out)
            rw [ga] at d7
            clear he HCA
            go_wp2_with fail
            go_roundw
            case rel => exact ⟨_, _, _, _, _, _, _, _, R2, by have := HLE.out; omega, HGO.out⟩
            case measure => exact HME.out _ _ _ _ _ _ _ _ HGO.out.f.b
          · have HE := Lib.hid he
            rw [ga] at d7
            have HF7 := Lib.hid (HF3.out.set7 b13)
            have HK7 := Lib.hid (HRA.out.set (j := 7) (v := .bool b13) HF3.out)
            clear he HCA
            go_wp2_with fail
            refine (clear_any p _ _ _ _ _ _ _ _ _ HF7.out).mono ?_
            rintro e w4 ⟨rfl, hf4, hft4, _, hb4⟩
            have hst : runS s1 (x :: R2) = runS st0 R2 := by
              have hstep : stepS s1 x = (st0, 0) := by
                unfold stepS
                rw [HM.out]
                show skipS s1 x = _
                unfold skipS
                rw [HE.out, if_pos rfl]
              conv => lhs; unfold runS
              rw [hstep]
              rfl
            have HGO := Lib.hid (go_clear HK7.out HF7.out hf4 hft4 hb4 hst)
            clear hf4 hft4 hb4 hst
            go_wp2_with fail
            go_roundw
            case rel => exact ⟨_, _, _, _, _, _, _, _, R2, by have := HLE.out; omega, HGO.out⟩
            case measure => exact HME.out _ _ _ _ _ _ _ _ HGO.out.f.b
end Go.Proofs.Ytgafalobbhoaoaa
