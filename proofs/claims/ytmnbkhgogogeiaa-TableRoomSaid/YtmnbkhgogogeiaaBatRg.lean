/-
  batches, f40: all pairs in one lot, or none.
-/
import Derived.Test.YtmnbkhgogogeiaaBatPRg
namespace Go.Proofs.Ytmnbkhgogogeiaa
set_option linter.unusedVariables false
open Go.RowKit

set_option maxRecDepth 100000 in
set_option maxHeartbeats 16000000 in
theorem batches_any {w : World} {B pt : Nat} {lv : Value} {sec cost : Nat} {pv : Value} {L : List Pr} (ht : TbV w pt lv sec cost pv) (hr : PairR w B pv L) (hL : L.length ≤ 10000) (hN : 16 + lotN L ≤ 65536) (hz : ∀ x ∈ L, x.key.length ≤ 100000 ∧ x.val.length ≤ 100000) :
    Calls Try.prog 40 #[.pointer (some ⟨pt, 0, none⟩)] w fun e w' => ∃ o, e = .returned o ∧ ((L = [] ∧ o = .slice none 0 0) ∨ (L ≠ [] ∧ ∃ g cap ov C, o = .slice (some ⟨g, 0, none⟩) 1 cap ∧ w'.ownsRow w.heap.size 22 1 o 1 [ov] ∧ ChR w' w.heap.size ov C ∧ C.map Ch.of = L.map Pr.chg)) ∧ Below w.heap.size w w' := by
  refine (callsIn_wide (n := 3)).1 ?_
  refine callsIn_of_wp_marks Try.func40 rfl trivial ?_ rfl
  simp only [Try.ntmps40, List.size_toArray, List.length_cons, List.length_nil, Nat.reduceAdd, Nat.reduceSub, Array.replicate_succ, Array.replicate_zero, List.push_toArray, List.append_toArray, List.nil_append, List.cons_append]
  refine wpIn_wide.2 ?_
  obtain ⟨b3, hb3⟩ : ∃ b3, w.heap.size = b3 := ⟨_, rfl⟩
  have HE3 := Lib.hid hb3
  have hba : Below w.heap.size w (w.alloc (.cells #[.slice none 0 0] 81)) := (Below.refl _ _).alloc (Nat.le_refl _) _
  have hbb : Below w.heap.size w ((w.alloc (.cells #[.slice none 0 0] 81)).alloc (.cells #[.int .i64 0] 3)) := hba.alloc hba.size _
  have HX3 := Lib.hid ((Boxed.new w 81 (.slice none 0 0)).alloc (.cells #[.int .i64 0] 3))
  have HX4 := Lib.hid (Boxed.new (w.alloc (.cells #[.slice none 0 0] 81)) 3 (.int .i64 0))
  have HSC := Lib.hid (scan_seqX (X := fun k => k = b3 ∨ k = b3 + 1) (ht.below hbb) (hr.below hbb) (Nat.le_trans hL (by decide)) (by
    rintro k (rfl | rfl)
    · have := HX3.out
      rw [hb3] at this
      exact ⟨_, _, _, this, by decide, by decide, by decide⟩
    · have := HX4.out
      rw [World.size_alloc, hb3] at this
      exact ⟨_, _, _, this, by decide, by decide, by decide⟩) hz)
  have HB1 := Lib.hid hbb
  have H256 : Hid (∀ x ∈ L, (∀ n ∈ x.key, n < 256) ∧ ∀ n ∈ x.val, n < 256) := Lib.hid fun x hx => (hr.own x hx).2.2
  have HL := Lib.hid (And.intro hL (And.intro hN hz))
  clear hba hbb ht hr hL hN hz
  go_upto_region 3 with (fail)
  have hb4 : (w.alloc (.cells #[.slice none 0 0] 81)).heap.size = b3 + 1 := by rw [← hb3]; simp
  rw [hb4] at HX4
  generalize hw1 : (w.alloc (.cells #[.slice none 0 0] 81)).alloc (.cells #[.int .i64 0] 3) = w1 at *
  have HE4 : Hid (w1.heap.size = b3 + 1 + 1) := Lib.hid (by rw [← hw1]; simp [hb3])
  clear hw1 hb4
  rw [hb3] at HX3 HB1
  try rw [hb3]
  clear hb3
  generalize hb4 : b3 + 1 = b4 at *
  have HE5 := Lib.hid hb4
  clear hb4
  go_upto_region 4 with (first | (go_at_call 21; refine HSC.out.mono ?_; rintro e w2 ⟨b, St, rfl, hsq, hst, hb2⟩; have HSQ := Lib.hid hsq; have HST := Lib.hid hst; have HB2 := Lib.hid hb2; clear hsq hst hb2))
  have hPT := HL.out
  have HI3 : Hid (BI w w2.heap.size b3 b4 [] w2) := Lib.hid (.inl ⟨rfl, (HB2.out.block _ HX3.out.lt).trans HX3.out, (HB2.out.block _ HX4.out.lt).trans HX4.out, HB1.out.trans (HB2.out.mono (Nat.le_of_lt HX3.out.lt)), Nat.le_refl _⟩)
  have HSZ : Hid (b4 = b3 + 1 ∧ b4 + 1 ≤ w2.heap.size) := Lib.hid ⟨HE5.out.symm, by have := HE4.out; have := HB2.out.size; omega⟩
  clear HX3 HX4 HSC HB1 hPT HB2 HE4 HE5
  refine (wpIn_wide (n := 3)).1 ?_
  refine range_w rfl (by omega) (gf := 39) (lb := #[.pointer (some ⟨b, 0, none⟩)]) rfl trivial (enters_of Try.func39 (by kernel_rfl) rfl)
    HSQ.out (fun r => HST.out _ (Bx.of (((Below.refl _ w2).alloc (Nat.le_refl _) _).alloc (by simp) _))) (fun h k => h.trans k)
    (fun W r r' hb => Bx.of ((Below.refl _ W).grown (grownBy_putObj' W _ _) (by have := (Array.getElem?_eq_some_iff.1 hb.2).1; omega) (fun k e => by cases e; omega))) rfl
    (fun x u v W r r' hb he => ⟨ownB_put he.1 hb, ownB_put he.2.1 hb, he.2.2⟩)
    (BI w w2.heap.size b3 b4) (fun _ _ _ => False)
    (fun s A C row h hg hr => h.kept hg (fun r e => ⟨by have := (hr r e).1; have := HSZ.out; omega, (hr r e).2⟩) (Nat.le_of_lt h.lt)) (fun c s A C row h => h.elim)
    (fun s A C hs hb => hs.calm hb (Nat.le_of_lt hs.lt)) (fun c s A C h => h.elim) HI3.out
    (fun a u v => { tmps := (((a.tmps.setIfInBounds 11 u).setIfInBounds 12 v).setIfInBounds 5 u).setIfInBounds 6 v, defers := [] }) ?assign ?body ?done ?stop
  case assign =>
    intro x u v W1 he W K hK
    obtain ⟨ua, uc, rfl⟩ := he.1.shape
    obtain ⟨va2, vc2, rfl⟩ := he.2.1.shape
    gi_wp2_with (rw [Oper.semAt_eq _ _ _ (fun c h => by cases h)]; go_simp; try go_bits)
    exact hK
  case body =>
    intro pre x rest u v W hx he hB
    obtain ⟨he1, he2, he3⟩ := he
    obtain ⟨ua, uc, rfl⟩ := he1.shape
    obtain ⟨va, vc, rfl⟩ := he2.shape
    have HX := Lib.hid (And.intro he1 (And.intro he2 he3))
    have hlx := lotN_pre (pre ++ [x]) rest
    rw [List.append_assoc, List.singleton_append, ← hx, lotN_snoc] at hlx
    have hxL : x ∈ L := by rw [hx]; simp
    obtain ⟨hzk, hzv⟩ := HL.out.2.2 x hxL
    have HLX := Lib.hid (And.intro hlx HL.out.2.1)
    have hnz : (x.key.length : Int) + (x.val.length : Int) + 8 ≤ 1000000 := by omega
    have HB := Lib.hid hB
    clear he1 he2 he3 hlx hB
    obtain ⟨n8, hn8⟩ : ∃ n8, x.key.length + x.val.length + 8 = n8 := ⟨_, rfl⟩
    have hn8z : (x.key.length : Int) + (x.val.length : Int) + 8 = (n8 : Int) := by omega
    have HN8 := Lib.hid hn8
    gi_upto_region 7 with (rw [Oper.semAt_eq _ _ _ (fun c h => by cases h)]; go_simp; try go_bits)
    clear hn8 hn8z hnz
    have HBX : Hid ((∃ cs t fr, W.heap[b3]? = some (.cells cs t fr)) ∧ ∃ cs t fr, W.heap[b4]? = some (.cells cs t fr)) := Lib.hid (by
      rcases HB.out with ⟨-, h1, h2, -, -⟩ | ⟨-, g, cap, ov, C, hm, -⟩
      · exact ⟨⟨_, _, _, h1⟩, ⟨_, _, _, h2⟩⟩
      · exact ⟨⟨_, _, _, hm.out⟩, ⟨_, _, _, hm.size⟩⟩)
    have HWS : Hid (w2.heap.size ≤ W.heap.size) := Lib.hid (by
      rcases HB.out with ⟨-, -, -, -, h⟩ | ⟨-, g, cap, ov, C, hm, -⟩
      · exact h
      · obtain ⟨cur, h1, h2, -⟩ := hm.gblock
        exact Nat.le_of_lt (Nat.lt_of_le_of_lt h1 (lt_of_block h2)))
    rcases HB.out with ⟨hp0, h3, h4, hbl, hms⟩ | ⟨hp0, g, cap, ov, C, hm, hC⟩
    · have c3 := h3.cell
      obtain ⟨i0, hi0, hz0, hz1, hz2⟩ := info_parts Try.info22
      have HI := Lib.hid hi0
      have H3 := Lib.hid h3
      have H4 := Lib.hid h4
      clear hi0 h3 h4
      have hrn : (W.alloc (.cells #[.slice none 0 0] 22)).heap.size = W.heap.size + 1 := by simp
      gi_upto_region 9 with (first
        | (gi_at_builtin; go_loud (refine wpListIn_append_own _ rfl (.tmp 28) (.tmp 29) 81 rfl w2.heap.size 22 i0 (.slice none 0 0) 1 24 Try.underlying81 HI.out hz0 hz1 hz2 rfl (by decide) (.slice none 0 0) 0 [] rfl (World.ownsRow_nil _ _ _ _) ⟨W.heap.size, 0, none⟩ 1 1 [.slice none 0 0] rfl rfl (by have := cell_one_new W (.slice none 0 0) 22; simpa using this) (by simp [Value.oneCell']) (by unfold maxLen; omega) (by omega) (by rw [hrn]; omega) ?_)
           intro vo w7 hown7 hgr7 _
           obtain ⟨g, cap, rfl⟩ := ownsRow_succ hown7
           have hb7 : Boxed w7 b3 81 (.slice none 0 0) := (H3.out.alloc _).kept hgr7 (by simp [Value.ownBlock])
           have c7 := hb7.cell
           have f7 := hb7.frozen
           have HB7 := Lib.hid hb7
           have HO7 := Lib.hid hown7
           have HG7 := Lib.hid hgr7
           clear hown7 hgr7 hb7
           refine ⟨fun _ _ => trivial, ?_⟩)
        | (rw [Oper.semAt_eq _ _ _ (fun c h => by cases h)]; go_simp; try go_bits))
      have hn34 : b3 ≠ b4 := by have := HSZ.out; omega
      have hlt3 : b3 < W.heap.size := H3.out.lt
      have hb8 : Boxed (w7.setCell ⟨b3, 0, none⟩ (.slice (some ⟨g, 0, none⟩) 1 cap)) b3 81 (.slice (some ⟨g, 0, none⟩) 1 cap) := Boxed.set _ HB7.out
      have h48 : Boxed (w7.setCell ⟨b3, 0, none⟩ (.slice (some ⟨g, 0, none⟩) 1 cap)) b4 3 (.int .i64 0) := ((H4.out.alloc _).kept HG7.out (by simp [Value.ownBlock])).kept (grownBy_setCell' w7 b3 _) (fun e => hn34 (Option.some.inj e).symm)
      have hro : w7.ownsRow w2.heap.size 22 1 (.slice (some ⟨g, 0, none⟩) 1 cap) 1 [.slice none 0 0] := HO7.out
      have hB8 : BM (w7.setCell ⟨b3, 0, none⟩ (.slice (some ⟨g, 0, none⟩) 1 cap)) w w2.heap.size b3 b4 0 g cap (.slice none 0 0) [] := by
        refine ⟨hb8, h48, ownsRow_beside hro ((Beside.refl (fun k => k = b3) w7).setCell (p := ⟨b3, 0, none⟩) (.inl rfl) _) (fun k hk e => ownsRow_ne hro HB7.out (by decide) k hk e), ⟨World.ownsRow_nil _ _ _ _, fun _ h => by cases h⟩, ?_⟩
        exact ((hbl.alloc (Nat.le_of_lt hlt3) _).grown HG7.out (by simp; omega) (fun k e => by simp [Value.ownBlock] at e)).setCell (p := ⟨b3, 0, none⟩) (Nat.le_refl _) _
      have hO8 : Beside (OwnX W w2.heap.size b3 b4) W ((w7.setCell ⟨b3, 0, none⟩ (.slice (some ⟨g, 0, none⟩) 1 cap)).setCell ⟨b4, 0, none⟩ (.int .i64 16)) :=
        ((((Beside.refl _ W).alloc _).grown HG7.out (fun k e => by simp [Value.ownBlock] at e)).setCell (p := ⟨b3, 0, none⟩) (.inl (.inl rfl)) _).setCell (p := ⟨b4, 0, none⟩) (.inl (.inr (.inl rfl))) _
      have c4 := h48.cell
      have f4 := h48.frozen
      have HM : Hid (BM ((w7.setCell ⟨b3, 0, none⟩ (.slice (some ⟨g, 0, none⟩) 1 cap)).setCell ⟨b4, 0, none⟩ (.int .i64 16)) w w2.heap.size b3 b4 16 g cap (.slice none 0 0) []) := Lib.hid (hB8.set4 (by have := HSZ.out; omega) 16)
      have HBS := Lib.hid hO8
      have hrows : ∀ (v : Value) (l : List Nat), OwnB W w2.heap.size v l → OwnB ((w7.setCell ⟨b3, 0, none⟩ (.slice (some ⟨g, 0, none⟩) 1 cap)).setCell ⟨b4, 0, none⟩ (.int .i64 16)) w2.heap.size v l := fun v l h => by
        have h7 : OwnB w7 w2.heap.size v l := World.ownsRow.kept (h.alloc _) HG7.out (by
          by_cases hv : v.ownBlock = none
          · exact .inl hv
          · exact .inr (by simpa [Value.ownBlock] using hv))
        have h8 : OwnB (w7.setCell ⟨b3, 0, none⟩ (.slice (some ⟨g, 0, none⟩) 1 cap)) w2.heap.size v l := ownsRow_beside h7 ((Beside.refl (fun k => k = b3) w7).setCell (p := ⟨b3, 0, none⟩) (.inl rfl) _) (fun k hk e => ownsRow_ne h7 HB7.out (by decide) k hk e)
        exact ownsRow_beside h8 ((Beside.refl (fun k => k = b4) _).setCell (p := ⟨b4, 0, none⟩) (.inl rfl) _) (fun k hk e => ownsRow_ne h8 h48 (by decide) k hk e)
      have HXV := Lib.hid (And.intro (hrows _ _ HX.out.1) (hrows _ _ HX.out.2.1))
      clear hb8 h48 hro hB8 hO8 hn34 hlt3 hbl hrows
      gi_upto_region 10 with (rw [Oper.semAt_eq _ _ _ (fun c h => by cases h)]; go_simp; try go_bits)
      have HC : Hid (([] : List Ch).map Ch.of = pre.map Pr.chg) := Lib.hid (by rw [hp0]; rfl)
      obtain ⟨z, hz16⟩ : ∃ z : Nat, 16 = z := ⟨_, rfl⟩
      have HZ : Hid (z = 16 + lotN pre) := Lib.hid (by rw [hp0, ← hz16]; rfl)
      clear c4 f4 c3 hp0 hz0 hz1 hz2 HI H3 H4 HB7 HO7 HG7 hrn
      generalize (w7.setCell ⟨b3, 0, none⟩ (.slice (some ⟨g, 0, none⟩) 1 cap)).setCell ⟨b4, 0, none⟩ (.int .i64 16) = wv at *
      rw [hz16] at HM
      clear hz16
      generalize ([] : List Ch) = C at HM HC
      generalize (Value.slice none 0 0) = ov at HM

      have c4 := HM.out.size.cell
      have f4 := HM.out.size.frozen
      have c3 := HM.out.out.cell
      obtain ⟨zz, hzz⟩ : ∃ zz, z + n8 = zz := ⟨_, rfl⟩
      have hzq : (z : Int) + (n8 : Int) = (zz : Int) := by omega
      have hzb : (zz : Int) ≤ 65536 := by have := HZ.out; have := HLX.out; have := HN8.out; omega
      have HZZ := Lib.hid hzz
      clear hzz
      gi_upto_region 11 with (rw [Oper.semAt_eq _ _ _ (fun c h => by cases h)]; go_simp; try go_bits)
      have HM2 : Hid (BM (wv.setCell ⟨b4, 0, none⟩ (.int .i64 (zz : Nat))) w w2.heap.size b3 b4 zz g cap ov C) := Lib.hid (HM.out.set4 (by have := HSZ.out; omega) zz)
      have HBS2 : Hid (Beside (OwnX W w2.heap.size b3 b4) W (wv.setCell ⟨b4, 0, none⟩ (.int .i64 (zz : Nat)))) := Lib.hid (HBS.out.setCell (p := ⟨b4, 0, none⟩) (.inl (.inr (.inl rfl))) _)
      have hrowu : ∀ {v : Value} {l : List Nat}, OwnB wv w2.heap.size v l → OwnB (wv.setCell ⟨b4, 0, none⟩ (.int .i64 (zz : Nat))) w2.heap.size v l := fun h =>
        ownsRow_beside h ((Beside.refl (fun k => k = b4) _).setCell (p := ⟨b4, 0, none⟩) (.inl rfl) _) (fun k hk e => ownsRow_ne h HM.out.size (by decide) k hk e)
      have HXU := Lib.hid (And.intro (hrowu HXV.out.1) (hrowu HXV.out.2))
      have HMS : Hid (w2.heap.size ≤ (wv.setCell ⟨b4, 0, none⟩ (.int .i64 (zz : Nat))).heap.size) := Lib.hid (Nat.le_trans HWS.out HBS2.out.size)
      clear c4 f4 c3 HM HBS HXV hrowu
      generalize wv.setCell ⟨b4, 0, none⟩ (.int .i64 (zz : Nat)) = wu at *
      have c3 := HM2.out.out.cell
      gi_upto_region 12 with (rw [Oper.semAt_eq _ _ _ (fun c h => by cases h)]; go_simp; try go_bits)
      obtain ⟨cur, hgM, hgb, hg0⟩ := HM2.out.gblock
      have HGB := Lib.hid (And.intro hgM hgb)
      have yg : wu.drew.cell? ⟨g, 0, none⟩ = some ov := by
        show wu.cell? ⟨g, 0, none⟩ = some ov
        rw [cell_of_row _ _ _ _ 22 (0, 0) hgb]
        exact hg0
      have c3d : wu.drew.cell? ⟨b3, 0, none⟩ = some (.slice (some ⟨g, 0, none⟩) 1 cap) := c3
      clear hgM hgb hg0
      have hA : Below wu.heap.size wu (wu.drew.alloc (.cells #[.slice ua x.key.length uc, .slice va x.val.length vc, .bool false] 35)) := ((Below.refl _ _).drew).alloc (Nat.le_refl _) _
      have c3a : (wu.drew.alloc (.cells #[.slice ua x.key.length uc, .slice va x.val.length vc, .bool false] 35)).cell? ⟨b3, 0, none⟩ = some (.slice (some ⟨g, 0, none⟩) 1 cap) := (hA.cell (p := ⟨b3, 0, none⟩) HM2.out.out.lt).trans c3
      have yga : (wu.drew.alloc (.cells #[.slice ua x.key.length uc, .slice va x.val.length vc, .bool false] 35)).cell? ⟨g, 0, none⟩ = some ov := (hA.cell (p := ⟨g, 0, none⟩) (lt_of_block HGB.out.2)).trans yg
      have yge : (wu.alloc (.cells #[.slice ua x.key.length uc, .slice va x.val.length vc, .bool false] 35)).drew.cell? ⟨g, 0, none⟩ = some ov := yga
      have HNW := Lib.hid (heap_alloc_new wu.drew (.cells #[.slice ua x.key.length uc, .slice va x.val.length vc, .bool false] 35))
      have HRZ : Hid ((wu.drew.alloc (.cells #[.slice ua x.key.length uc, .slice va x.val.length vc, .bool false] 35)).ownsRow w2.heap.size 35 3 ov C.length (chC C)) := Lib.hid (ownsRow_below HM2.out.chr.row hA)
      have HSZ35 : Hid ((wu.drew.alloc (.cells #[.slice ua x.key.length uc, .slice va x.val.length vc, .bool false] 35)).heap.size = wu.heap.size + 1) := Lib.hid (by show (wu.heap.push _).size = _; simp)
      have HCL : Hid (C.length ≤ 10000) := Lib.hid (by
        have h1 := congrArg List.length HC.out
        have h2 := HL.out.1
        rw [hx] at h2
        simp at h1 h2
        omega)
      have HA := Lib.hid hA
      obtain ⟨i35, hi35, hy0, hy1, hy2⟩ := info_parts Try.info35
      have HI35 := Lib.hid hi35
      have HOW : Hid (∀ k, ov.ownBlock = some k → w2.heap.size ≤ k) := Lib.hid fun k e => (World.ownsRow.lt HM2.out.chr.row k e).1
      clear hA hi35
      refine region_roundH (fun w' => w'.cell? ⟨b3, 0, none⟩ = some (.slice (some ⟨g, 0, none⟩) 1 cap)) (by kernel_rfl) (by rintro ⟨_, _, h⟩; exact h) (by kernel_rfl) c3d (fun hHeld => ?_)
      refine wpAnyH_take (i := 0) (oi := ⟨_, _, _, _, _, _⟩) (v := ?_) rfl (by kernel_rfl) (by kernel_rfl) (by kernel_rfl) (fun _ _ _ h => h) (Or.inl ⟨by rfl, ?_⟩) (by assumption) ?_
      rotate_left
      · intro w hSw; (try dsimp only at hSw); go_simp <;> with_reducible rfl
      simp only [Act.put, List.setIfInBounds_toArray, List.set_cons_zero, List.set_cons_succ]
      refine wpAnyH_take (i := 1) (oi := ⟨_, _, _, _, _, _⟩) (v := ?_) rfl (by kernel_rfl) (by kernel_rfl) (by kernel_rfl) (fun _ _ _ h => h) (Or.inl ⟨by rfl, ?_⟩) (by assumption) ?_
      rotate_left
      · intro w hSw; (try dsimp only at hSw); go_simp <;> with_reducible rfl
      simp only [Act.put, List.setIfInBounds_toArray, List.set_cons_zero, List.set_cons_succ]
      refine wpAnyH_take (i := 2) (oi := ⟨_, _, _, _, _, _⟩) (v := ?_) rfl (by kernel_rfl) (by kernel_rfl) (by kernel_rfl) (fun _ _ _ h => h) (Or.inl ⟨by rfl, ?_⟩) (by assumption) ?_
      rotate_left
      · intro w hSw; (try dsimp only at hSw); go_simp <;> with_reducible rfl
      simp only [Act.put, List.setIfInBounds_toArray, List.set_cons_zero, List.set_cons_succ]
      refine wpAnyH_take (i := 3) (oi := ⟨_, _, _, _, _, _⟩) (v := ?_) rfl (by kernel_rfl) (by kernel_rfl) (by kernel_rfl) (fun _ _ _ h => h) (Or.inl ⟨by rfl, ?_⟩) (by assumption) ?_
      rotate_left
      · intro w hSw; (try dsimp only at hSw); go_simp <;> with_reducible rfl
      simp only [Act.put, List.setIfInBounds_toArray, List.set_cons_zero, List.set_cons_succ]
      refine wpAnyH_take (i := 4) (oi := ⟨_, _, _, _, _, _⟩) (v := ?_) rfl (by kernel_rfl) (by kernel_rfl) (by kernel_rfl) (fun _ _ _ h => h) (Or.inl ⟨by rfl, ?_⟩) (by assumption) ?_
      rotate_left
      · intro w hSw; (try dsimp only at hSw); go_simp <;> with_reducible rfl
      simp only [Act.put, List.setIfInBounds_toArray, List.set_cons_zero, List.set_cons_succ]
      refine wpAnyH_take (i := 6) (oi := ⟨_, _, _, _, _, _⟩) (v := ?_) rfl (by kernel_rfl) (by kernel_rfl) (by kernel_rfl) (fun _ _ _ h => h) (Or.inl ⟨by rfl, ?_⟩) (by assumption) ?_
      rotate_left
      · intro w hSw; (try dsimp only at hSw); go_simp <;> with_reducible rfl
      simp only [Act.put, List.setIfInBounds_toArray, List.set_cons_zero, List.set_cons_succ]
      refine wpAnyH_take (i := 7) (oi := ⟨_, _, _, _, _, _⟩) (v := ?_) rfl (by kernel_rfl) (by kernel_rfl) (by kernel_rfl) (fun _ _ _ h => h) (Or.inl ⟨by rfl, ?_⟩) (by assumption) ?_
      rotate_left
      · intro w hSw; (try dsimp only at hSw); go_simp <;> with_reducible rfl
      simp only [Act.put, List.setIfInBounds_toArray, List.set_cons_zero, List.set_cons_succ]
      refine wpAnyH_take (i := 8) (oi := ⟨_, _, _, _, _, _⟩) (v := ?_) rfl (by kernel_rfl) (by kernel_rfl) (by kernel_rfl) (fun _ _ _ h => h) (Or.inl ⟨by rfl, ?_⟩) (by assumption) ?_
      rotate_left
      · intro w hSw; (try dsimp only at hSw); go_simp <;> with_reducible rfl
      simp only [Act.put, List.setIfInBounds_toArray, List.set_cons_zero, List.set_cons_succ]
      refine wpAnyH_ready (rs := [5, 9]) (by kernel_rfl) (by simp) ?_
      refine AllReadyH.cons (o := ⟨_, _, _, _, _, _⟩) rfl (fun K hK => ?_) (AllReadyH.cons (o := ⟨_, _, _, _, _, _⟩) rfl (fun K hK => ?_) AllReadyH.nil)
      · go_simp
        refine hK.out _ _ hHeld (fun _ => ?_)
        clear hK K
        refine wpAnyH_ready (rs := [9]) (by kernel_rfl) (by simp) ?_
        refine AllReadyH.cons (o := ⟨_, _, _, _, _, _⟩) rfl (fun K hK => ?_) AllReadyH.nil
        go_simp
        refine hK.out _ _ c3a (fun hHeld2 => ?_)
        clear hK K
        try simp only [Act.put, List.setIfInBounds_toArray, List.set_cons_zero, List.set_cons_succ]
        refine wpAnyH_ready (rs := [10]) (by kernel_rfl) (by simp) ?_
        refine AllReadyH.cons (o := ⟨_, _, _, _, _, _⟩) rfl (fun K hK => ?_) AllReadyH.nil
        refine step_append_lies _ (by rfl) (.tmp 42) (.tmp 46) 22 (by rfl) w2.heap.size 35 i35 _ 3 56 Try.underlying22 HI35.out hy0 hy1 hy2 rfl (by decide) ov C.length (chC C) (by rfl) HRZ.out ⟨wu.heap.size, 0, none⟩ 1 1 [.slice ua x.key.length uc, .slice va x.val.length vc, .bool false] (by rfl) (by rfl) (World.news_of_block (cs := #[.slice ua x.key.length uc, .slice va x.val.length vc, .bool false]) (t := 35) (fr := (0, 0)) HNW.out) (by simp [Value.oneCell']) (by decide) (by have := HCL.out; unfold maxLen; omega) (by have := HCL.out; omega) (Nat.le_trans HMS.out HA.out.size) (wu.heap.size + 1) HSZ35.out ?_
        intro gg cap4 w4 hown4 hgrow hat hlt4
        have h3w : Boxed w4 b3 81 (.slice (some ⟨g, 0, none⟩) 1 cap) := Boxed.kept (W := wu.drew.alloc (.cells #[.slice ua x.key.length uc, .slice va x.val.length vc, .bool false] 35)) ((HA.out.block b3 HM2.out.out.lt).trans HM2.out.out) hgrow (fun e => by have := HOW.out b3 e.symm; have := HSZ.out; omega)
        have hgo : some g ≠ ov.ownBlock := fun e => ownsRow_ne HM2.out.chr.row HGB.out.2 (by decide) g e.symm rfl
        have hgb4 : w4.heap[g]? = some (.cells cur 22 (0, 0)) := (hgrow.block g (Nat.lt_of_lt_of_le (lt_of_block HGB.out.2) HA.out.size) hgo).trans ((HA.out.block g (lt_of_block HGB.out.2)).trans HGB.out.2)
        have y4 : ∃ u, w4.cell? ⟨g, 0, none⟩ = some u := ⟨ov, by
          rw [cell_of_row _ _ _ _ 22 (0, 0) hgb4, ← cell_of_row wu g 0 _ 22 (0, 0) HGB.out.2]
          exact yg⟩
        obtain ⟨yv, y4⟩ := y4
        have f4 : w4.frozen? ⟨g, 0, none⟩ = false := frozen_of_row w4 g 0 _ _ hgb4
        have HH3 := Lib.hid h3w
        have HO4 := Lib.hid hown4
        have HG4 := Lib.hid hgrow
        clear hown4 hgrow hat hlt4 hgb4 hgo
        refine hK.out _ _ h3w.cell (fun hHeld3 => ?_)
        clear hK K h3w
        simp only [Act.put, List.setIfInBounds_toArray, List.set_cons_zero, List.set_cons_succ]
        refine wpAnyH_take (i := 11) (oi := ⟨_, _, _, _, _, _⟩) (v := ?_) rfl (by kernel_rfl) (by kernel_rfl) (by kernel_rfl) (fun _ _ _ h => h) (Or.inl ⟨by rfl, ?_⟩) (by assumption) ?_
        rotate_left
        · intro w hSw; (try dsimp only at hSw); go_simp <;> with_reducible rfl
        simp only [Act.put, List.setIfInBounds_toArray, List.set_cons_zero, List.set_cons_succ]
        refine wpAnyH_ready (rs := [12]) (by kernel_rfl) (by simp) ?_
        refine AllReadyH.cons (o := ⟨_, _, _, _, _, _⟩) rfl (fun K hK => ?_) AllReadyH.nil
        go_simp
        have hgb3 : g ≠ b3 := by have := HGB.out.1; have := HSZ.out; omega
        refine hK.out _ _ (show (w4.setCell _ _).cell? _ = _ from (World.cell?_of_block (Below.heap_setCell w4 _ _ _ (fun e => hgb3 e.symm))).trans hHeld3) (fun _ => ?_)
        clear hK K
        refine wpAnyH_done (by kernel_rfl) ?_ _
        have HBM := Lib.hid (HM2.out.app (x := ⟨.slice ua x.key.length uc, .slice va x.val.length vc, x.key, x.val, false⟩) (by have := HSZ.out; omega) HMS.out ⟨HXU.out.1, HXU.out.2, (H256.out x hxL).1, (H256.out x hxL).2⟩ HG4.out HO4.out)
        have hgx : OwnX W w2.heap.size b3 b4 g := OwnX.of HBS2.out (by have := HSZ.out; omega) HGB.out.2 HGB.out.1
        have hox : ∀ k, ov.ownBlock = some k → OwnX W w2.heap.size b3 b4 k := fun k e => by
          rcases HM2.out.chr.row.2 with ⟨e2, _⟩ | ⟨q, cp, cu, e2, hB, hh, _⟩
          · rw [e2] at e; cases e
          · rw [e2] at e
            cases e
            exact OwnX.of HBS2.out (by have := HSZ.out; omega) hh hB
        have hfin : Beside (OwnX W w2.heap.size b3 b4) W (w4.setCell ⟨g, 0, none⟩ (.slice (some ⟨gg, 0, none⟩) (C.length + 1) cap4)) :=
          ((HBS2.out.drew.alloc _).grown HG4.out (fun k e => .inl (hox k e))).setCell (p := ⟨g, 0, none⟩) (.inl hgx) _
        change KeepsFrom _ W _ ∧ Bx _ _ W _ ∧ BI w w2.heap.size b3 b4 (pre ++ [x]) _
        refine ⟨OwnX.keeps hfin HBX.out.1 HBX.out.2 _, OwnX.bx hfin HWS.out, .inr ⟨by simp, g, cap, .slice (some ⟨gg, 0, none⟩) (C.length + 1) cap4, C ++ [⟨.slice ua x.key.length uc, .slice va x.val.length vc, x.key, x.val, false⟩], ?_, ?_⟩⟩
        rotate_left
        · rw [List.map_append, List.map_append, HC.out]
          rfl
        rw [lotN_snoc, HN8.out, ← Nat.add_assoc, ← HZ.out, HZZ.out]
        exact HBM.out
      · go_simp
        refine hK.out _ _ c3a (fun hHeld2 => ?_)
        clear hK K
        refine wpAnyH_ready (rs := [5]) (by kernel_rfl) (by simp) ?_
        refine AllReadyH.cons (o := ⟨_, _, _, _, _, _⟩) rfl (fun K hK => ?_) AllReadyH.nil
        go_simp
        refine hK.out _ _ c3a (fun _ => ?_)
        clear hK K
        try simp only [Act.put, List.setIfInBounds_toArray, List.set_cons_zero, List.set_cons_succ]
        refine wpAnyH_ready (rs := [10]) (by kernel_rfl) (by simp) ?_
        refine AllReadyH.cons (o := ⟨_, _, _, _, _, _⟩) rfl (fun K hK => ?_) AllReadyH.nil
        refine step_append_lies _ (by rfl) (.tmp 42) (.tmp 46) 22 (by rfl) w2.heap.size 35 i35 _ 3 56 Try.underlying22 HI35.out hy0 hy1 hy2 rfl (by decide) ov C.length (chC C) (by rfl) HRZ.out ⟨wu.heap.size, 0, none⟩ 1 1 [.slice ua x.key.length uc, .slice va x.val.length vc, .bool false] (by rfl) (by rfl) (World.news_of_block (cs := #[.slice ua x.key.length uc, .slice va x.val.length vc, .bool false]) (t := 35) (fr := (0, 0)) HNW.out) (by simp [Value.oneCell']) (by decide) (by have := HCL.out; unfold maxLen; omega) (by have := HCL.out; omega) (Nat.le_trans HMS.out HA.out.size) (wu.heap.size + 1) HSZ35.out ?_
        intro gg cap4 w4 hown4 hgrow hat hlt4
        have h3w : Boxed w4 b3 81 (.slice (some ⟨g, 0, none⟩) 1 cap) := Boxed.kept (W := wu.drew.alloc (.cells #[.slice ua x.key.length uc, .slice va x.val.length vc, .bool false] 35)) ((HA.out.block b3 HM2.out.out.lt).trans HM2.out.out) hgrow (fun e => by have := HOW.out b3 e.symm; have := HSZ.out; omega)
        have hgo : some g ≠ ov.ownBlock := fun e => ownsRow_ne HM2.out.chr.row HGB.out.2 (by decide) g e.symm rfl
        have hgb4 : w4.heap[g]? = some (.cells cur 22 (0, 0)) := (hgrow.block g (Nat.lt_of_lt_of_le (lt_of_block HGB.out.2) HA.out.size) hgo).trans ((HA.out.block g (lt_of_block HGB.out.2)).trans HGB.out.2)
        have y4 : ∃ u, w4.cell? ⟨g, 0, none⟩ = some u := ⟨ov, by
          rw [cell_of_row _ _ _ _ 22 (0, 0) hgb4, ← cell_of_row wu g 0 _ 22 (0, 0) HGB.out.2]
          exact yg⟩
        obtain ⟨yv, y4⟩ := y4
        have f4 : w4.frozen? ⟨g, 0, none⟩ = false := frozen_of_row w4 g 0 _ _ hgb4
        have HH3 := Lib.hid h3w
        have HO4 := Lib.hid hown4
        have HG4 := Lib.hid hgrow
        clear hown4 hgrow hat hlt4 hgb4 hgo
        refine hK.out _ _ h3w.cell (fun hHeld3 => ?_)
        clear hK K h3w
        simp only [Act.put, List.setIfInBounds_toArray, List.set_cons_zero, List.set_cons_succ]
        refine wpAnyH_take (i := 11) (oi := ⟨_, _, _, _, _, _⟩) (v := ?_) rfl (by kernel_rfl) (by kernel_rfl) (by kernel_rfl) (fun _ _ _ h => h) (Or.inl ⟨by rfl, ?_⟩) (by assumption) ?_
        rotate_left
        · intro w hSw; (try dsimp only at hSw); go_simp <;> with_reducible rfl
        simp only [Act.put, List.setIfInBounds_toArray, List.set_cons_zero, List.set_cons_succ]
        refine wpAnyH_ready (rs := [12]) (by kernel_rfl) (by simp) ?_
        refine AllReadyH.cons (o := ⟨_, _, _, _, _, _⟩) rfl (fun K hK => ?_) AllReadyH.nil
        go_simp
        have hgb3 : g ≠ b3 := by have := HGB.out.1; have := HSZ.out; omega
        refine hK.out _ _ (show (w4.setCell _ _).cell? _ = _ from (World.cell?_of_block (Below.heap_setCell w4 _ _ _ (fun e => hgb3 e.symm))).trans hHeld3) (fun _ => ?_)
        clear hK K
        refine wpAnyH_done (by kernel_rfl) ?_ _
        have HBM := Lib.hid (HM2.out.app (x := ⟨.slice ua x.key.length uc, .slice va x.val.length vc, x.key, x.val, false⟩) (by have := HSZ.out; omega) HMS.out ⟨HXU.out.1, HXU.out.2, (H256.out x hxL).1, (H256.out x hxL).2⟩ HG4.out HO4.out)
        have hgx : OwnX W w2.heap.size b3 b4 g := OwnX.of HBS2.out (by have := HSZ.out; omega) HGB.out.2 HGB.out.1
        have hox : ∀ k, ov.ownBlock = some k → OwnX W w2.heap.size b3 b4 k := fun k e => by
          rcases HM2.out.chr.row.2 with ⟨e2, _⟩ | ⟨q, cp, cu, e2, hB, hh, _⟩
          · rw [e2] at e; cases e
          · rw [e2] at e
            cases e
            exact OwnX.of HBS2.out (by have := HSZ.out; omega) hh hB
        have hfin : Beside (OwnX W w2.heap.size b3 b4) W (w4.setCell ⟨g, 0, none⟩ (.slice (some ⟨gg, 0, none⟩) (C.length + 1) cap4)) :=
          ((HBS2.out.drew.alloc _).grown HG4.out (fun k e => .inl (hox k e))).setCell (p := ⟨g, 0, none⟩) (.inl hgx) _
        change KeepsFrom _ W _ ∧ Bx _ _ W _ ∧ BI w w2.heap.size b3 b4 (pre ++ [x]) _
        refine ⟨OwnX.keeps hfin HBX.out.1 HBX.out.2 _, OwnX.bx hfin HWS.out, .inr ⟨by simp, g, cap, .slice (some ⟨gg, 0, none⟩) (C.length + 1) cap4, C ++ [⟨.slice ua x.key.length uc, .slice va x.val.length vc, x.key, x.val, false⟩], ?_, ?_⟩⟩
        rotate_left
        · rw [List.map_append, List.map_append, HC.out]
          rfl
        rw [lotN_snoc, HN8.out, ← Nat.add_assoc, ← HZ.out, HZZ.out]
        exact HBM.out
    · obtain ⟨z, hz16⟩ : ∃ z : Nat, 16 + lotN pre = z := ⟨_, rfl⟩
      rw [hz16] at hm
      have HZ : Hid (z = 16 + lotN pre) := Lib.hid hz16.symm
      have HM := Lib.hid hm
      have HC := Lib.hid hC
      have HBS : Hid (Beside (OwnX W w2.heap.size b3 b4) W W) := Lib.hid (Beside.refl _ W)
      have HXV := Lib.hid (And.intro HX.out.1 HX.out.2.1)
      have c3 := hm.out.cell
      have c4 := hm.size.cell
      have hzb : (z : Int) + (n8 : Int) ≤ 65536 := by have := HLX.out; have := HN8.out; omega
      have hgt : decide ((65536 : Int) < (z : Int) + (n8 : Int)) = false := decide_eq_false (by omega)
      have hng : ¬ (65536 : Int) < (z : Int) + (n8 : Int) := by omega
      clear hm hC hz16
      gi_upto_region 10 with (rw [Oper.semAt_eq _ _ _ (fun c h => by cases h)]; go_simp; try go_bits)
      clear c3 c4 hzb hgt hng hp0
      have c4 := HM.out.size.cell
      have f4 := HM.out.size.frozen
      have c3 := HM.out.out.cell
      obtain ⟨zz, hzz⟩ : ∃ zz, z + n8 = zz := ⟨_, rfl⟩
      have hzq : (z : Int) + (n8 : Int) = (zz : Int) := by omega
      have hzb : (zz : Int) ≤ 65536 := by have := HZ.out; have := HLX.out; have := HN8.out; omega
      have HZZ := Lib.hid hzz
      clear hzz
      gi_upto_region 11 with (rw [Oper.semAt_eq _ _ _ (fun c h => by cases h)]; go_simp; try go_bits)
      have HM2 : Hid (BM (W.setCell ⟨b4, 0, none⟩ (.int .i64 (zz : Nat))) w w2.heap.size b3 b4 zz g cap ov C) := Lib.hid (HM.out.set4 (by have := HSZ.out; omega) zz)
      have HBS2 : Hid (Beside (OwnX W w2.heap.size b3 b4) W (W.setCell ⟨b4, 0, none⟩ (.int .i64 (zz : Nat)))) := Lib.hid (HBS.out.setCell (p := ⟨b4, 0, none⟩) (.inl (.inr (.inl rfl))) _)
      have hrowu : ∀ {v : Value} {l : List Nat}, OwnB W w2.heap.size v l → OwnB (W.setCell ⟨b4, 0, none⟩ (.int .i64 (zz : Nat))) w2.heap.size v l := fun h =>
        ownsRow_beside h ((Beside.refl (fun k => k = b4) _).setCell (p := ⟨b4, 0, none⟩) (.inl rfl) _) (fun k hk e => ownsRow_ne h HM.out.size (by decide) k hk e)
      have HXU := Lib.hid (And.intro (hrowu HXV.out.1) (hrowu HXV.out.2))
      have HMS : Hid (w2.heap.size ≤ (W.setCell ⟨b4, 0, none⟩ (.int .i64 (zz : Nat))).heap.size) := Lib.hid (Nat.le_trans HWS.out HBS2.out.size)
      clear c4 f4 c3 HM HBS HXV hrowu
      generalize W.setCell ⟨b4, 0, none⟩ (.int .i64 (zz : Nat)) = wu at *
      have c3 := HM2.out.out.cell
      gi_upto_region 12 with (rw [Oper.semAt_eq _ _ _ (fun c h => by cases h)]; go_simp; try go_bits)
      obtain ⟨cur, hgM, hgb, hg0⟩ := HM2.out.gblock
      have HGB := Lib.hid (And.intro hgM hgb)
      have yg : wu.drew.cell? ⟨g, 0, none⟩ = some ov := by
        show wu.cell? ⟨g, 0, none⟩ = some ov
        rw [cell_of_row _ _ _ _ 22 (0, 0) hgb]
        exact hg0
      have c3d : wu.drew.cell? ⟨b3, 0, none⟩ = some (.slice (some ⟨g, 0, none⟩) 1 cap) := c3
      clear hgM hgb hg0
      have hA : Below wu.heap.size wu (wu.drew.alloc (.cells #[.slice ua x.key.length uc, .slice va x.val.length vc, .bool false] 35)) := ((Below.refl _ _).drew).alloc (Nat.le_refl _) _
      have c3a : (wu.drew.alloc (.cells #[.slice ua x.key.length uc, .slice va x.val.length vc, .bool false] 35)).cell? ⟨b3, 0, none⟩ = some (.slice (some ⟨g, 0, none⟩) 1 cap) := (hA.cell (p := ⟨b3, 0, none⟩) HM2.out.out.lt).trans c3
      have yga : (wu.drew.alloc (.cells #[.slice ua x.key.length uc, .slice va x.val.length vc, .bool false] 35)).cell? ⟨g, 0, none⟩ = some ov := (hA.cell (p := ⟨g, 0, none⟩) (lt_of_block HGB.out.2)).trans yg
      have yge : (wu.alloc (.cells #[.slice ua x.key.length uc, .slice va x.val.length vc, .bool false] 35)).drew.cell? ⟨g, 0, none⟩ = some ov := yga
      have HNW := Lib.hid (heap_alloc_new wu.drew (.cells #[.slice ua x.key.length uc, .slice va x.val.length vc, .bool false] 35))
      have HRZ : Hid ((wu.drew.alloc (.cells #[.slice ua x.key.length uc, .slice va x.val.length vc, .bool false] 35)).ownsRow w2.heap.size 35 3 ov C.length (chC C)) := Lib.hid (ownsRow_below HM2.out.chr.row hA)
      have HSZ35 : Hid ((wu.drew.alloc (.cells #[.slice ua x.key.length uc, .slice va x.val.length vc, .bool false] 35)).heap.size = wu.heap.size + 1) := Lib.hid (by show (wu.heap.push _).size = _; simp)
      have HCL : Hid (C.length ≤ 10000) := Lib.hid (by
        have h1 := congrArg List.length HC.out
        have h2 := HL.out.1
        rw [hx] at h2
        simp at h1 h2
        omega)
      have HA := Lib.hid hA
      obtain ⟨i35, hi35, hy0, hy1, hy2⟩ := info_parts Try.info35
      have HI35 := Lib.hid hi35
      have HOW : Hid (∀ k, ov.ownBlock = some k → w2.heap.size ≤ k) := Lib.hid fun k e => (World.ownsRow.lt HM2.out.chr.row k e).1
      clear hA hi35
      refine region_roundH (fun w' => w'.cell? ⟨b3, 0, none⟩ = some (.slice (some ⟨g, 0, none⟩) 1 cap)) (by kernel_rfl) (by rintro ⟨_, _, h⟩; exact h) (by kernel_rfl) c3d (fun hHeld => ?_)
      refine wpAnyH_take (i := 0) (oi := ⟨_, _, _, _, _, _⟩) (v := ?_) rfl (by kernel_rfl) (by kernel_rfl) (by kernel_rfl) (fun _ _ _ h => h) (Or.inl ⟨by rfl, ?_⟩) (by assumption) ?_
      rotate_left
      · intro w hSw; (try dsimp only at hSw); go_simp <;> with_reducible rfl
      simp only [Act.put, List.setIfInBounds_toArray, List.set_cons_zero, List.set_cons_succ]
      refine wpAnyH_take (i := 1) (oi := ⟨_, _, _, _, _, _⟩) (v := ?_) rfl (by kernel_rfl) (by kernel_rfl) (by kernel_rfl) (fun _ _ _ h => h) (Or.inl ⟨by rfl, ?_⟩) (by assumption) ?_
      rotate_left
      · intro w hSw; (try dsimp only at hSw); go_simp <;> with_reducible rfl
      simp only [Act.put, List.setIfInBounds_toArray, List.set_cons_zero, List.set_cons_succ]
      refine wpAnyH_take (i := 2) (oi := ⟨_, _, _, _, _, _⟩) (v := ?_) rfl (by kernel_rfl) (by kernel_rfl) (by kernel_rfl) (fun _ _ _ h => h) (Or.inl ⟨by rfl, ?_⟩) (by assumption) ?_
      rotate_left
      · intro w hSw; (try dsimp only at hSw); go_simp <;> with_reducible rfl
      simp only [Act.put, List.setIfInBounds_toArray, List.set_cons_zero, List.set_cons_succ]
      refine wpAnyH_take (i := 3) (oi := ⟨_, _, _, _, _, _⟩) (v := ?_) rfl (by kernel_rfl) (by kernel_rfl) (by kernel_rfl) (fun _ _ _ h => h) (Or.inl ⟨by rfl, ?_⟩) (by assumption) ?_
      rotate_left
      · intro w hSw; (try dsimp only at hSw); go_simp <;> with_reducible rfl
      simp only [Act.put, List.setIfInBounds_toArray, List.set_cons_zero, List.set_cons_succ]
      refine wpAnyH_take (i := 4) (oi := ⟨_, _, _, _, _, _⟩) (v := ?_) rfl (by kernel_rfl) (by kernel_rfl) (by kernel_rfl) (fun _ _ _ h => h) (Or.inl ⟨by rfl, ?_⟩) (by assumption) ?_
      rotate_left
      · intro w hSw; (try dsimp only at hSw); go_simp <;> with_reducible rfl
      simp only [Act.put, List.setIfInBounds_toArray, List.set_cons_zero, List.set_cons_succ]
      refine wpAnyH_take (i := 6) (oi := ⟨_, _, _, _, _, _⟩) (v := ?_) rfl (by kernel_rfl) (by kernel_rfl) (by kernel_rfl) (fun _ _ _ h => h) (Or.inl ⟨by rfl, ?_⟩) (by assumption) ?_
      rotate_left
      · intro w hSw; (try dsimp only at hSw); go_simp <;> with_reducible rfl
      simp only [Act.put, List.setIfInBounds_toArray, List.set_cons_zero, List.set_cons_succ]
      refine wpAnyH_take (i := 7) (oi := ⟨_, _, _, _, _, _⟩) (v := ?_) rfl (by kernel_rfl) (by kernel_rfl) (by kernel_rfl) (fun _ _ _ h => h) (Or.inl ⟨by rfl, ?_⟩) (by assumption) ?_
      rotate_left
      · intro w hSw; (try dsimp only at hSw); go_simp <;> with_reducible rfl
      simp only [Act.put, List.setIfInBounds_toArray, List.set_cons_zero, List.set_cons_succ]
      refine wpAnyH_take (i := 8) (oi := ⟨_, _, _, _, _, _⟩) (v := ?_) rfl (by kernel_rfl) (by kernel_rfl) (by kernel_rfl) (fun _ _ _ h => h) (Or.inl ⟨by rfl, ?_⟩) (by assumption) ?_
      rotate_left
      · intro w hSw; (try dsimp only at hSw); go_simp <;> with_reducible rfl
      simp only [Act.put, List.setIfInBounds_toArray, List.set_cons_zero, List.set_cons_succ]
      refine wpAnyH_ready (rs := [5, 9]) (by kernel_rfl) (by simp) ?_
      refine AllReadyH.cons (o := ⟨_, _, _, _, _, _⟩) rfl (fun K hK => ?_) (AllReadyH.cons (o := ⟨_, _, _, _, _, _⟩) rfl (fun K hK => ?_) AllReadyH.nil)
      · go_simp
        refine hK.out _ _ hHeld (fun _ => ?_)
        clear hK K
        refine wpAnyH_ready (rs := [9]) (by kernel_rfl) (by simp) ?_
        refine AllReadyH.cons (o := ⟨_, _, _, _, _, _⟩) rfl (fun K hK => ?_) AllReadyH.nil
        go_simp
        refine hK.out _ _ c3a (fun hHeld2 => ?_)
        clear hK K
        try simp only [Act.put, List.setIfInBounds_toArray, List.set_cons_zero, List.set_cons_succ]
        refine wpAnyH_ready (rs := [10]) (by kernel_rfl) (by simp) ?_
        refine AllReadyH.cons (o := ⟨_, _, _, _, _, _⟩) rfl (fun K hK => ?_) AllReadyH.nil
        refine step_append_lies _ (by rfl) (.tmp 42) (.tmp 46) 22 (by rfl) w2.heap.size 35 i35 _ 3 56 Try.underlying22 HI35.out hy0 hy1 hy2 rfl (by decide) ov C.length (chC C) (by rfl) HRZ.out ⟨wu.heap.size, 0, none⟩ 1 1 [.slice ua x.key.length uc, .slice va x.val.length vc, .bool false] (by rfl) (by rfl) (World.news_of_block (cs := #[.slice ua x.key.length uc, .slice va x.val.length vc, .bool false]) (t := 35) (fr := (0, 0)) HNW.out) (by simp [Value.oneCell']) (by decide) (by have := HCL.out; unfold maxLen; omega) (by have := HCL.out; omega) (Nat.le_trans HMS.out HA.out.size) (wu.heap.size + 1) HSZ35.out ?_
        intro gg cap4 w4 hown4 hgrow hat hlt4
        have h3w : Boxed w4 b3 81 (.slice (some ⟨g, 0, none⟩) 1 cap) := Boxed.kept (W := wu.drew.alloc (.cells #[.slice ua x.key.length uc, .slice va x.val.length vc, .bool false] 35)) ((HA.out.block b3 HM2.out.out.lt).trans HM2.out.out) hgrow (fun e => by have := HOW.out b3 e.symm; have := HSZ.out; omega)
        have hgo : some g ≠ ov.ownBlock := fun e => ownsRow_ne HM2.out.chr.row HGB.out.2 (by decide) g e.symm rfl
        have hgb4 : w4.heap[g]? = some (.cells cur 22 (0, 0)) := (hgrow.block g (Nat.lt_of_lt_of_le (lt_of_block HGB.out.2) HA.out.size) hgo).trans ((HA.out.block g (lt_of_block HGB.out.2)).trans HGB.out.2)
        have y4 : ∃ u, w4.cell? ⟨g, 0, none⟩ = some u := ⟨ov, by
          rw [cell_of_row _ _ _ _ 22 (0, 0) hgb4, ← cell_of_row wu g 0 _ 22 (0, 0) HGB.out.2]
          exact yg⟩
        obtain ⟨yv, y4⟩ := y4
        have f4 : w4.frozen? ⟨g, 0, none⟩ = false := frozen_of_row w4 g 0 _ _ hgb4
        have HH3 := Lib.hid h3w
        have HO4 := Lib.hid hown4
        have HG4 := Lib.hid hgrow
        clear hown4 hgrow hat hlt4 hgb4 hgo
        refine hK.out _ _ h3w.cell (fun hHeld3 => ?_)
        clear hK K h3w
        simp only [Act.put, List.setIfInBounds_toArray, List.set_cons_zero, List.set_cons_succ]
        refine wpAnyH_take (i := 11) (oi := ⟨_, _, _, _, _, _⟩) (v := ?_) rfl (by kernel_rfl) (by kernel_rfl) (by kernel_rfl) (fun _ _ _ h => h) (Or.inl ⟨by rfl, ?_⟩) (by assumption) ?_
        rotate_left
        · intro w hSw; (try dsimp only at hSw); go_simp <;> with_reducible rfl
        simp only [Act.put, List.setIfInBounds_toArray, List.set_cons_zero, List.set_cons_succ]
        refine wpAnyH_ready (rs := [12]) (by kernel_rfl) (by simp) ?_
        refine AllReadyH.cons (o := ⟨_, _, _, _, _, _⟩) rfl (fun K hK => ?_) AllReadyH.nil
        go_simp
        have hgb3 : g ≠ b3 := by have := HGB.out.1; have := HSZ.out; omega
        refine hK.out _ _ (show (w4.setCell _ _).cell? _ = _ from (World.cell?_of_block (Below.heap_setCell w4 _ _ _ (fun e => hgb3 e.symm))).trans hHeld3) (fun _ => ?_)
        clear hK K
        refine wpAnyH_done (by kernel_rfl) ?_ _
        have HBM := Lib.hid (HM2.out.app (x := ⟨.slice ua x.key.length uc, .slice va x.val.length vc, x.key, x.val, false⟩) (by have := HSZ.out; omega) HMS.out ⟨HXU.out.1, HXU.out.2, (H256.out x hxL).1, (H256.out x hxL).2⟩ HG4.out HO4.out)
        have hgx : OwnX W w2.heap.size b3 b4 g := OwnX.of HBS2.out (by have := HSZ.out; omega) HGB.out.2 HGB.out.1
        have hox : ∀ k, ov.ownBlock = some k → OwnX W w2.heap.size b3 b4 k := fun k e => by
          rcases HM2.out.chr.row.2 with ⟨e2, _⟩ | ⟨q, cp, cu, e2, hB, hh, _⟩
          · rw [e2] at e; cases e
          · rw [e2] at e
            cases e
            exact OwnX.of HBS2.out (by have := HSZ.out; omega) hh hB
        have hfin : Beside (OwnX W w2.heap.size b3 b4) W (w4.setCell ⟨g, 0, none⟩ (.slice (some ⟨gg, 0, none⟩) (C.length + 1) cap4)) :=
          ((HBS2.out.drew.alloc _).grown HG4.out (fun k e => .inl (hox k e))).setCell (p := ⟨g, 0, none⟩) (.inl hgx) _
        change KeepsFrom _ W _ ∧ Bx _ _ W _ ∧ BI w w2.heap.size b3 b4 (pre ++ [x]) _
        refine ⟨OwnX.keeps hfin HBX.out.1 HBX.out.2 _, OwnX.bx hfin HWS.out, .inr ⟨by simp, g, cap, .slice (some ⟨gg, 0, none⟩) (C.length + 1) cap4, C ++ [⟨.slice ua x.key.length uc, .slice va x.val.length vc, x.key, x.val, false⟩], ?_, ?_⟩⟩
        rotate_left
        · rw [List.map_append, List.map_append, HC.out]
          rfl
        rw [lotN_snoc, HN8.out, ← Nat.add_assoc, ← HZ.out, HZZ.out]
        exact HBM.out
      · go_simp
        refine hK.out _ _ c3a (fun hHeld2 => ?_)
        clear hK K
        refine wpAnyH_ready (rs := [5]) (by kernel_rfl) (by simp) ?_
        refine AllReadyH.cons (o := ⟨_, _, _, _, _, _⟩) rfl (fun K hK => ?_) AllReadyH.nil
        go_simp
        refine hK.out _ _ c3a (fun _ => ?_)
        clear hK K
        try simp only [Act.put, List.setIfInBounds_toArray, List.set_cons_zero, List.set_cons_succ]
        refine wpAnyH_ready (rs := [10]) (by kernel_rfl) (by simp) ?_
        refine AllReadyH.cons (o := ⟨_, _, _, _, _, _⟩) rfl (fun K hK => ?_) AllReadyH.nil
        refine step_append_lies _ (by rfl) (.tmp 42) (.tmp 46) 22 (by rfl) w2.heap.size 35 i35 _ 3 56 Try.underlying22 HI35.out hy0 hy1 hy2 rfl (by decide) ov C.length (chC C) (by rfl) HRZ.out ⟨wu.heap.size, 0, none⟩ 1 1 [.slice ua x.key.length uc, .slice va x.val.length vc, .bool false] (by rfl) (by rfl) (World.news_of_block (cs := #[.slice ua x.key.length uc, .slice va x.val.length vc, .bool false]) (t := 35) (fr := (0, 0)) HNW.out) (by simp [Value.oneCell']) (by decide) (by have := HCL.out; unfold maxLen; omega) (by have := HCL.out; omega) (Nat.le_trans HMS.out HA.out.size) (wu.heap.size + 1) HSZ35.out ?_
        intro gg cap4 w4 hown4 hgrow hat hlt4
        have h3w : Boxed w4 b3 81 (.slice (some ⟨g, 0, none⟩) 1 cap) := Boxed.kept (W := wu.drew.alloc (.cells #[.slice ua x.key.length uc, .slice va x.val.length vc, .bool false] 35)) ((HA.out.block b3 HM2.out.out.lt).trans HM2.out.out) hgrow (fun e => by have := HOW.out b3 e.symm; have := HSZ.out; omega)
        have hgo : some g ≠ ov.ownBlock := fun e => ownsRow_ne HM2.out.chr.row HGB.out.2 (by decide) g e.symm rfl
        have hgb4 : w4.heap[g]? = some (.cells cur 22 (0, 0)) := (hgrow.block g (Nat.lt_of_lt_of_le (lt_of_block HGB.out.2) HA.out.size) hgo).trans ((HA.out.block g (lt_of_block HGB.out.2)).trans HGB.out.2)
        have y4 : ∃ u, w4.cell? ⟨g, 0, none⟩ = some u := ⟨ov, by
          rw [cell_of_row _ _ _ _ 22 (0, 0) hgb4, ← cell_of_row wu g 0 _ 22 (0, 0) HGB.out.2]
          exact yg⟩
        obtain ⟨yv, y4⟩ := y4
        have f4 : w4.frozen? ⟨g, 0, none⟩ = false := frozen_of_row w4 g 0 _ _ hgb4
        have HH3 := Lib.hid h3w
        have HO4 := Lib.hid hown4
        have HG4 := Lib.hid hgrow
        clear hown4 hgrow hat hlt4 hgb4 hgo
        refine hK.out _ _ h3w.cell (fun hHeld3 => ?_)
        clear hK K h3w
        simp only [Act.put, List.setIfInBounds_toArray, List.set_cons_zero, List.set_cons_succ]
        refine wpAnyH_take (i := 11) (oi := ⟨_, _, _, _, _, _⟩) (v := ?_) rfl (by kernel_rfl) (by kernel_rfl) (by kernel_rfl) (fun _ _ _ h => h) (Or.inl ⟨by rfl, ?_⟩) (by assumption) ?_
        rotate_left
        · intro w hSw; (try dsimp only at hSw); go_simp <;> with_reducible rfl
        simp only [Act.put, List.setIfInBounds_toArray, List.set_cons_zero, List.set_cons_succ]
        refine wpAnyH_ready (rs := [12]) (by kernel_rfl) (by simp) ?_
        refine AllReadyH.cons (o := ⟨_, _, _, _, _, _⟩) rfl (fun K hK => ?_) AllReadyH.nil
        go_simp
        have hgb3 : g ≠ b3 := by have := HGB.out.1; have := HSZ.out; omega
        refine hK.out _ _ (show (w4.setCell _ _).cell? _ = _ from (World.cell?_of_block (Below.heap_setCell w4 _ _ _ (fun e => hgb3 e.symm))).trans hHeld3) (fun _ => ?_)
        clear hK K
        refine wpAnyH_done (by kernel_rfl) ?_ _
        have HBM := Lib.hid (HM2.out.app (x := ⟨.slice ua x.key.length uc, .slice va x.val.length vc, x.key, x.val, false⟩) (by have := HSZ.out; omega) HMS.out ⟨HXU.out.1, HXU.out.2, (H256.out x hxL).1, (H256.out x hxL).2⟩ HG4.out HO4.out)
        have hgx : OwnX W w2.heap.size b3 b4 g := OwnX.of HBS2.out (by have := HSZ.out; omega) HGB.out.2 HGB.out.1
        have hox : ∀ k, ov.ownBlock = some k → OwnX W w2.heap.size b3 b4 k := fun k e => by
          rcases HM2.out.chr.row.2 with ⟨e2, _⟩ | ⟨q, cp, cu, e2, hB, hh, _⟩
          · rw [e2] at e; cases e
          · rw [e2] at e
            cases e
            exact OwnX.of HBS2.out (by have := HSZ.out; omega) hh hB
        have hfin : Beside (OwnX W w2.heap.size b3 b4) W (w4.setCell ⟨g, 0, none⟩ (.slice (some ⟨gg, 0, none⟩) (C.length + 1) cap4)) :=
          ((HBS2.out.drew.alloc _).grown HG4.out (fun k e => .inl (hox k e))).setCell (p := ⟨g, 0, none⟩) (.inl hgx) _
        change KeepsFrom _ W _ ∧ Bx _ _ W _ ∧ BI w w2.heap.size b3 b4 (pre ++ [x]) _
        refine ⟨OwnX.keeps hfin HBX.out.1 HBX.out.2 _, OwnX.bx hfin HWS.out, .inr ⟨by simp, g, cap, .slice (some ⟨gg, 0, none⟩) (C.length + 1) cap4, C ++ [⟨.slice ua x.key.length uc, .slice va x.val.length vc, x.key, x.val, false⟩], ?_, ?_⟩⟩
        rotate_left
        · rw [List.map_append, List.map_append, HC.out]
          rfl
        rw [lotN_snoc, HN8.out, ← Nat.add_assoc, ← HZ.out, HZZ.out]
        exact HBM.out
  case done =>
    intro W hB hK
    have HB := Lib.hid hB
    have HK := Lib.hid hK
    clear hB hK
    rcases HB.out with ⟨hL0, h1, h2, h4, h5⟩ | ⟨hL0, g, cap, ov, C, hm, hC⟩
    · have c3 := h1.cell
      have H4 := Lib.hid h4
      clear h1 h2 h4 h5
      go_wp2_with fail
      have hkf := HK.out
      refine ⟨by simp, .inl ⟨_, _, rfl, run_takeDeferred hkf, ?_⟩⟩
      refine ⟨.slice none 0 0, by have h6 : Try.f40.results = #[.tmp 2] := rfl; simp [results, go_sem], ?_⟩
      refine ⟨_, rfl, .inl ⟨hL0, rfl⟩, ?_⟩
      have hk := HB.out.kept (grownBy_putObj' W w2.heap.size (.deferred none)) (fun r e => by cases e; exact ⟨by have := HSZ.out; omega, _, hkf, rfl⟩) (Nat.le_of_lt HB.out.lt)
      rw [HE3.out]
      exact hk.bel
    · have c3 := hm.out.cell
      have HM := Lib.hid hm
      have HC := Lib.hid hC
      clear hm hC
      go_wp2_with fail
      have hkf := HK.out
      refine ⟨by simp, .inl ⟨_, _, rfl, run_takeDeferred hkf, ?_⟩⟩
      refine ⟨.slice (some ⟨g, 0, none⟩) 1 cap, by have h6 : Try.f40.results = #[.tmp 2] := rfl; simp [results, go_sem], ?_⟩
      have hk := HM.out.kept (grownBy_putObj' W w2.heap.size (.deferred none)) (fun r e => by cases e; exact ⟨by have := HSZ.out; omega, _, hkf, rfl⟩) (Nat.le_of_lt HM.out.out.lt)
      rw [HE3.out]
      have hle : b3 ≤ w2.heap.size := by have := HSZ.out; omega
      exact ⟨_, rfl, .inr ⟨hL0, g, cap, ov, C, rfl, rows_mono hk.row hle, hk.chr.mono hle, HC.out⟩, hk.bel⟩
  case stop =>
    rintro c pre W _ h
    exact h.elim
end Go.Proofs.Ytmnbkhgogogeiaa
