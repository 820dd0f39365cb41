/-
  The law's told.
-/
import Derived.Test.YtmnbkhgogogeiaaRg30
import Derived.Test.YtmnbkhgogogeiaaRg28
import Derived.Test.YtmnbkhgogogeiaaRg31
import Derived.Test.YtmnbkhgogogeiaaRg33
import Derived.Laws.StructEq
import Derived.Sort.CutIn
import Derived.Stop.RegionWithIn
namespace Go.Proofs.Ytmnbkhgogogeiaa
set_option linter.unusedVariables false
open Go.RowKit
attribute [local go_sem] Oper.semAt_some

set_option maxRecDepth 100000 in
set_option maxHeartbeats 4000000 in
theorem len_tb {w : World} {pt : Nat} {lv : Value} {sec cost : Nat} {a : Option Addr} {n c : Nat} (ht : TbV w pt lv sec cost (.slice a n c)) :
    Calls Try.prog 22 #[.pointer (some ⟨pt, 0, none⟩)] w fun e w' => e = .returned (.int .i64 (n : Nat)) ∧ w = w' := by
  obtain ⟨-, -, -, t3⟩ := ht.cells
  clear ht
  go_enter Try.func22, Try.ntmps22
  go_wp2_with fail
  go_ret
  exact ⟨rfl, rfl⟩

theorem wp_cutA {P : Program} {c : Code} {Q : Exit → Act → World → Prop} {a : Act} {w : World} (R : Act → Act → World → Prop)
    (h1 : c.wp P (fun e a' w' => match e with | .normal => R a a' w' | _ => False) a w) (h2 : ∀ a' w', R a a' w' → Q .normal a' w') : c.wp P Q a w :=
  wp_mono h1 (by
    intro e a' w' h
    cases e <;> first | exact h2 _ _ h | exact h.elim)
theorem PairR.all {w : World} {B : Nat} {pv : Value} {L : List Pr} (h : PairR w B pv L) : AllB (L.map Pr.of) := by
  intro x hx
  obtain ⟨y, hy, rfl⟩ := List.mem_map.1 hx
  exact (h.own y hy).2.2

theorem und45 : Try.prog.underlying 45 = some (.struct (Try.prog.fieldsOf 45)) := by kernel_rfl
theorem stood45 : Try.prog.stoodInHeld 45 = false := by kernel_rfl
theorem flds45 : (Try.prog.fieldsOf 45).toList.map (fun f => (f.name, f.type, f.offset)) = [("k", 9, 0), ("v", 9, 1)] := by kernel_rfl
theorem eq_same (W : World) (s1 s2 : ByteArray) : (Op.equal 45 (.agg #[.string s1, .string s2]) (.agg #[.string s1, .string s2])).run Try.prog W = .ok true W := by
  have hf := flds45
  unfold Op.equal
  rw [show Op.maxDepth = 9998 + 1 + 1 from rfl, Go.run_equalIn_agg _ _ _ _ _ und45 stood45]
  generalize (Try.prog.fieldsOf 45).toList = fs at *
  obtain ⟨f1, r, rfl, h1, hr⟩ := List.map_eq_cons_iff.1 hf
  obtain ⟨f2, r2, rfl, h2, hr2⟩ := List.map_eq_cons_iff.1 hr
  obtain rfl := List.map_eq_nil_iff.1 hr2
  simp only [Prod.mk.injEq] at h1 h2
  obtain ⟨n1, t1, o1⟩ := h1
  obtain ⟨n2, t2, o2⟩ := h2
  have e1 := fun w => Go.run_equalIn_string (P := Try.prog) w 9998 9 s1 s1 Try.underlying9
  have e2 := fun w => Go.run_equalIn_string (P := Try.prog) w 9998 9 s2 s2 Try.underlying9
  simp only [Op.eqFields, n1, n2, t1, t2, o1, o2]
  simp [e1, e2, go_sem]
theorem neq_same (W : World) (s1 s2 : ByteArray) : (binOp .neq 45 (.agg #[.string s1, .string s2]) (.agg #[.string s1, .string s2])).run Try.prog W = .ok (.bool false) W := by
  simp only [binOp]
  simp [go_sem, eq_same]

/-- between two rounds of told's range -/
structure TI (W w : World) (M b8 b12 n : Nat) (lv : Value) (P : List KV) (k : Nat) : Prop where
  res : Boxed W b8 4 (.bool false)
  list : Boxed W M 38 lv
  num : Boxed W b12 3 (.int .i64 (k : Nat))
  row : W.ownsRow (M + 1) 45 2 lv n (stC P)
  bel : Below b8 w W
theorem TI.kept {W W' w : World} {M b8 b12 n : Nat} {lv : Value} {P : List KV} {k : Nat} (h : TI W w M b8 b12 n lv P k) {row : Option Nat} (hg : W.grownBy W' row) (hr : ∀ r, row = some r → b8 ≤ r ∧ ∃ o : Obj, W.heap[r]? = some o ∧ o.isCells = false) (hb : b8 ≤ W.heap.size) : TI W' w M b8 b12 n lv P k := by
  have hne : ∀ (j : Nat) cs t fr, W.heap[j]? = some (.cells cs t fr) → some j ≠ row := fun j cs t fr hj e => by
    obtain ⟨-, o, ho, hc⟩ := hr j e.symm
    rw [hj] at ho
    cases ho
    cases hc
  refine ⟨h.res.kept hg (hne _ _ _ _ h.res), h.list.kept hg (hne _ _ _ _ h.list), h.num.kept hg (hne _ _ _ _ h.num), ⟨h.row.1, ?_⟩, h.bel.grown hg hb (fun r e => (hr r e).1)⟩
  rcases h.row.2 with h1 | ⟨g, cap, cur, e, h1, hh, r⟩
  · exact .inl h1
  · exact .inr ⟨g, cap, cur, e, h1, (hg.block g (lt_of_block hh) (hne _ _ _ _ hh)).trans hh, r⟩
theorem TI.calm {W W' w : World} {M b8 b12 n : Nat} {lv : Value} {P : List KV} {k : Nat} (h : TI W w M b8 b12 n lv P k) (hb : Below W.heap.size W W') (h8 : b8 ≤ W.heap.size) : TI W' w M b8 b12 n lv P k :=
  ⟨(hb.block _ h.res.lt).trans h.res, (hb.block _ h.list.lt).trans h.list, (hb.block _ h.num.lt).trans h.num, ownsRow_below h.row hb, h.bel.trans (hb.mono h8)⟩
theorem TI.step {W w : World} {M b8 b12 n : Nat} {lv : Value} {P : List KV} {k : Nat} (h : TI W w M b8 b12 n lv P k) (h8 : b8 < b12) (hm : M < b12) : TI (W.setCell ⟨b12, 0, none⟩ (.int .i64 ((k + 1 : Nat) : Int))) w M b8 b12 n lv P (k + 1) := by
  have hg := grownBy_setCell' W b12 (.int .i64 ((k + 1 : Nat) : Int))
  refine ⟨h.res.kept hg (by simp; omega), h.list.kept hg (by simp; omega), Boxed.set _ h.num, World.ownsRow.kept h.row hg (.inr fun e => (Boxed.not_row h.num (by decide) h.row) e.symm), h.bel.setCell (p := ⟨b12, 0, none⟩) (by show b8 ≤ b12; omega) _⟩
theorem wpIn_cutB {F : Fence} {n : Nat} {P : Program} {c : Code} {Q : Exit → Act → World → Prop} {a : Act} {w : World} (R : Act → Act → World → Prop)
    (h1 : c.wpIn F n P (fun e a' w' => match e with | .normal => R a a' w' | _ => False) a w) (h2 : ∀ a' w', R a a' w' → Q .normal a' w') : c.wpIn F n P Q a w :=
  wpIn_mono h1 (by
    intro e a' w' h
    cases e <;> first | exact h2 _ _ h | exact h.elim)

set_option maxRecDepth 100000 in
set_option maxHeartbeats 16000000 in
theorem told_any {w : World} {B Bm pt : Nat} {lv : Value} {sec cost : Nat} {pv vm : Value} {L : List Pr} (ht : TbV w pt lv sec cost pv) (hr : PairR w B pv L) (hm : RowS w Bm vm (L.map Pr.of)) (hL : L.length ≤ 10000) (hz : ∀ x ∈ L, x.key.length ≤ 100000 ∧ x.val.length ≤ 100000) :
    Calls Try.prog 16 #[.pointer (some ⟨pt, 0, none⟩), vm, .slice none 0 0, .slice none 0 0] w fun e w' => e = .returned (.bool true) ∧ Below w.heap.size w w' := by
  refine (callsIn_wide (n := 3)).1 ?_
  refine callsIn_of_wp_marks Try.func16 rfl trivial ?_ rfl
  simp only [Try.ntmps16, List.size_toArray, List.length_cons, List.length_nil, Nat.reduceAdd, Nat.reduceSub, Array.replicate_succ, Array.replicate_zero, List.push_toArray, List.append_toArray, List.nil_append, List.cons_append]
  refine wpIn_wide.2 ?_
  obtain ⟨P, hP⟩ : ∃ P, L.map Pr.of = P := ⟨_, rfl⟩
  have HAB : Hid (AllB P) := Lib.hid (by rw [← hP]; exact hr.all)
  rw [hP] at hm
  have HPL : Hid (L.length = P.length ∧ P.length ≤ 10000) := Lib.hid (by rw [← hP]; simpa using hL)
  obtain ⟨pa, pc, hpv⟩ := own_shape hr.row
  subst hpv
  obtain ⟨ma, mc, rfl, hmc⟩ := hm.shape
  have hb1 : Below w.heap.size w (w.alloc (.cells #[.bool false] 4)) := (Below.refl _ _).alloc (Nat.le_refl _) _
  have HX1 := Lib.hid (Boxed.new w 4 (.bool false))
  have HT1 := Lib.hid (ht.below hb1)
  have HS1 := Lib.hid (scan_seq (ht.below hb1) (hr.below hb1) (Nat.le_trans hL (by decide)) hz)
  have HM1 := Lib.hid (hm.below hb1)
  have HB1 := Lib.hid hb1
  have HPP := Lib.hid hP
  rw [HPL.out.1] at HT1
  clear ht hr hm hL hz hb1 hP
  obtain ⟨n, hn⟩ : ∃ n, P.length = n := ⟨_, rfl⟩
  rw [hn] at HT1 HPL hmc HM1
  rw [hn]
  have HN := Lib.hid hn
  clear hn
  have HW1 : Hid (w.heap.size < (w.alloc (.cells #[.bool false] 4)).heap.size) := Lib.hid (by simp)
  go_upto_region 1 with (fail)
  generalize w.alloc (.cells #[.bool false] 4) = w1 at *
  go_upto_region 2 with (first | (go_at_call 21; refine HS1.out.mono ?_; rintro e w2 ⟨b, St, rfl, hsq, hst, hb2⟩; have HSQ := Lib.hid hsq; have HST := Lib.hid hst; have HB2 := Lib.hid hb2; clear hsq hst hb2))
  obtain ⟨b8, hb8⟩ : ∃ b8, w.heap.size = b8 := ⟨_, rfl⟩
  have HE8 := Lib.hid hb8
  rw [hb8] at HX1 HB1 HW1
  rw [hb8]
  have HX2 : Hid (Boxed w2 b8 4 (.bool false)) := Lib.hid ((HB2.out.block _ HW1.out).trans HX1.out)
  have HM2 := Lib.hid (HM1.out.below HB2.out)
  have HLN : Hid (Calls Try.prog 22 #[.pointer (some ⟨pt, 0, none⟩)] w2 fun e w' => e = .returned (.int .i64 (n : Nat)) ∧ w2 = w') := Lib.hid (len_tb (HT1.out.below HB2.out))
  have HBW : Hid (Below b8 w w2 ∧ b8 < w2.heap.size) := Lib.hid ⟨HB1.out.trans (HB2.out.mono (Nat.le_of_lt HW1.out)), Nat.lt_of_lt_of_le HW1.out HB2.out.size⟩
  clear HX1 HM1 HT1 HB2 HB1 HW1 HS1 hb8
  go_wp2_with fail
  rw [run_fn_nil]
  simp only [Result.andThen]
  rw [Oper.upon_value]
  go_upto_region 4 with (first | (go_at_call 22; refine HLN.out.mono ?_; rintro e w' ⟨rfl, rfl⟩))
  have HX10 := Lib.hid (Boxed.new w2 38 (.slice none 0 0))
  have HB3 : Hid (Below w2.heap.size w2 (w2.alloc (.cells #[.slice none 0 0] 38))) := Lib.hid ((Below.refl _ _).alloc (Nat.le_refl _) _)
  have HS3 : Hid ((w2.alloc (.cells #[.slice none 0 0] 38)).heap.size = w2.heap.size + 1) := Lib.hid (by simp)
  have hnz : (n : Int) ≤ 10000 := by have := HPL.out.2; omega
  clear HLN
  go_wp2_with fail
  generalize w2.alloc (.cells #[.slice none 0 0] 38) = w3 at *
  obtain ⟨M, hM⟩ : ∃ M, w2.heap.size = M := ⟨_, rfl⟩
  rw [hM] at HX10 HB3 HS3 HSQ HST HBW
  rw [hM]
  have HME := Lib.hid hM
  clear hM
  go_loopw [11] (fun i wr => ∃ k lv, k ≤ n ∧ i = .int .i64 (k : Nat) ∧ Boxed wr M 38 lv ∧ wr.ownsRow (M + 1) 45 2 lv k (stC (P.take k)) ∧ Below M w2 wr ∧ M + 1 ≤ wr.heap.size) (fun i _ => n - (RowKit.intOf i).toNat)
  case atStart => exact ⟨0, _, Nat.zero_le _, rfl, HX10.out, World.ownsRow_nil _ _ _ _, HB3.out, by rw [HS3.out]; exact Nat.le_refl _⟩
  case round =>
    obtain ⟨k, lv, hk, rfl, hbx, hrow, hbw, hsz⟩ := hrel
    obtain ⟨la, lc, rfl⟩ := own_shape hrow
    by_cases hkn : k < n
    · have HM3 := HM2.out.below (w' := wr) (by rw [HME.out]; exact hbw)
      obtain ⟨g, cap, e, -, d0, d1, -⟩ := HM3.at k (by rw [HN.out]; exact hkn)
      obtain ⟨rfl, -, rfl⟩ := Value.slice.inj e
      obtain ⟨s1, hs1⟩ : ∃ s, strN (P[k]'(by rw [HN.out]; exact hkn)).1 = s := ⟨_, rfl⟩
      obtain ⟨s2, hs2⟩ : ∃ s, strN (P[k]'(by rw [HN.out]; exact hkn)).2 = s := ⟨_, rfl⟩
      have HNX : Hid (stC (P.take (k + 1)) = stC (P.take k) ++ [.string s1, .string s2]) := Lib.hid (by
        rw [List.take_succ_eq_append_getElem (by rw [HN.out]; exact hkn), stC_append, ← hs1, ← hs2]
        rfl)
      have hlt : Op.bytesLess s1.toList (strN []).toList = false := by
        rw [← hs1, bytesLess_strN _ _ (HAB.out _ (List.getElem_mem _)).1 (by simp)]
        exact decide_eq_false (by have := cmpL_nil (P[k]'(by rw [HN.out]; exact hkn)).1; omega)
      rw [hs1] at d0
      rw [hs2] at d1
      have hcv : ∀ W, (convert 23 9 (.slice none 0 0)).run Try.prog W = .ok (.string (strN [])) W := fun W => run_str (rowB_nil W)
      have hge : ∀ W, (binOp .geq 9 (.string s1) (.string (strN []))).run Try.prog W = .ok (.bool true) W := fun W => by simp [go_sem, binOp, Op.stringOp, hlt]
      have hkz : (k : Int) < (n : Int) := by omega
      have hcapz : (k : Int) < (mc : Int) := by omega
      generalize strN [] = e0 at *
      have HBX := Lib.hid hbx
      have HROW := Lib.hid hrow
      have HBR := Lib.hid (And.intro hbw hsz)
      have HKN := Lib.hid hkn
      clear hbx hrow hbw hsz hs1 hs2 hkn e HM3
      have d0d : wr.drew.cell? ⟨g, k * 2, none⟩ = some (.string s1) := d0
      go_upto_region 8 with (fail)
      go_region
      go_upto_region 9 with (fail)
      have HBX1 : Hid (Boxed wr.drew M 38 (.slice la k lc)) := Lib.hid HBX.out
      have HRW1 := Lib.hid (ownsRow_below HROW.out ((Below.refl wr.heap.size wr).drew))
      have HBR1 : Hid (Below M w2 wr.drew ∧ M + 1 ≤ wr.drew.heap.size) := Lib.hid ⟨HBR.out.1.drew, HBR.out.2⟩
      have d1d : wr.drew.cell? ⟨g, k * 2 + 1, none⟩ = some (.string s2) := d1
      clear HBX HROW HBR d0 d1 hlt hcv
      generalize wr.drew = wx at *
      obtain ⟨i0, hi0, hz0, hz1, hz2⟩ := info_parts Try.info45
      have HI := Lib.hid hi0
      have hA : Below wx.heap.size wx (wx.alloc (.cells #[.string s1, .string s2] 45)) := (Below.refl _ _).alloc (Nat.le_refl _) _
      have HNW := Lib.hid (heap_alloc_new wx (.cells #[.string s1, .string s2] 45))
      have b0 := HBX1.out.cell
      have b0d : wx.drew.cell? ⟨M, 0, none⟩ = some (.slice la k lc) := b0
      have b0z : (wx.alloc (.cells #[.string s1, .string s2] 45)).drew.cell? ⟨M, 0, none⟩ = some (.slice la k lc) := (hA.cell (p := ⟨M, 0, none⟩) HBX1.out.lt).trans b0
      have d0x : wx.drew.cell? ⟨g, k * 2, none⟩ = some (.string s1) := d0d
      have d1x : wx.drew.cell? ⟨g, k * 2 + 1, none⟩ = some (.string s2) := d1d
      have HRZ : Hid ((wx.alloc (.cells #[.string s1, .string s2] 45)).drew.ownsRow (M + 1) 45 2 (.slice la k lc) k (stC (P.take k))) := Lib.hid (ownsRow_below HRW1.out hA.drew)
      have HBZ := Lib.hid (HBX1.out.alloc (.cells #[.string s1, .string s2] 45))
      have HMX : Hid (M + 1 ≤ (wx.alloc (.cells #[.string s1, .string s2] 45)).drew.heap.size) := Lib.hid (Nat.le_trans HBR1.out.2 hA.size)
      have HSZ : Hid ((wx.alloc (.cells #[.string s1, .string s2] 45)).drew.heap.size = wx.heap.size + 1) := Lib.hid (by show (wx.heap.push _).size = _; simp)
      have HAA := Lib.hid hA.drew
      clear b0 hA d0d d1d hi0
      refine wp_cutA (fun a a' w' => ∃ gg cap4, a' = { tmps := ((((((a.tmps.setIfInBounds 57 (.slice la k lc)).setIfInBounds 58 (.slice (some ⟨g, 0, none⟩) n mc)).setIfInBounds 59 (.int .i64 (k : Nat))).setIfInBounds 60 (.pointer (some ⟨g, k * 2, none⟩))).setIfInBounds 61 (.agg #[.string s1, .string s2])).setIfInBounds 62 (.slice (some ⟨wx.heap.size, 0, none⟩) 1 1)).setIfInBounds 63 (.slice (some ⟨gg, 0, none⟩) (k + 1) cap4), defers := a.defers } ∧
          Boxed w' M 38 (.slice (some ⟨gg, 0, none⟩) (k + 1) cap4) ∧ w'.ownsRow (M + 1) 45 2 (.slice (some ⟨gg, 0, none⟩) (k + 1) cap4) (k + 1) (stC (P.take (k + 1))) ∧ Below M w2 w' ∧ M + 1 ≤ w'.heap.size) ?_ ?_
      · go_region_law (first
          | (refine step_append_lies _ (by rfl) _ _ _ (by rfl) (M + 1) 45 i0 _ 2 32 Try.underlying38 HI.out hz0 hz1 hz2 rfl (by decide) (.slice la k lc) k (stC (P.take k)) (by rfl) HRZ.out ⟨wx.heap.size, 0, none⟩ 1 1 [.string s1, .string s2] (by rfl) (by rfl) (World.news_of_block (cs := #[.string s1, .string s2]) (t := 45) (fr := (0, 0)) HNW.out) (by simp [Value.oneCell']) (by omega) (by have := HKN.out; unfold maxLen; omega) (by have := HKN.out; omega) HMX.out (wx.heap.size + 1) HSZ.out ?_
             intro gg cap4 w4 hown4 hgrow hat hlt4
             have hnm : (Value.slice la k lc).ownBlock ≠ some M := fun e => by have := (World.ownsRow.lt HRZ.out M e).1; omega
             have hbx4 : Boxed w4 M 38 (.slice la k lc) := (hgrow.block M HBZ.out.lt (fun e => hnm e.symm)).trans HBZ.out
             have HBX4 := Lib.hid hbx4
             have c4 := hbx4.cell
             have f4 := hbx4.frozen
             have HOW4 := Lib.hid hown4
             have HGR4 := Lib.hid hgrow
             clear hown4 hgrow hat hlt4 hbx4 hnm))
        all_goals
          refine ⟨gg, cap4, ?_, Boxed.set _ HBX4.out, ?_, ?_, ?_⟩
          · simp only [List.setIfInBounds_toArray, List.set_cons_zero, List.set_cons_succ]
          · rw [HNX.out]
            exact ownsRow_setCell_below HOW4.out (a := ⟨M, 0, none⟩) (Nat.lt_succ_self M) _
          · have h0 : M ≤ wx.heap.size := Nat.le_of_succ_le HBR1.out.2
            have h1 : M ≤ (wx.alloc (.cells #[.string s1, .string s2] 45)).drew.heap.size := Nat.le_of_succ_le HMX.out
            have h2 : Below M (wx.alloc (.cells #[.string s1, .string s2] 45)).drew w4 := ((Beside.refl (fun j => (Value.slice la k lc).ownBlock = some j) _).grown HGR4.out (fun j h => .inl h)).below (fun j e => Nat.le_of_succ_le (World.ownsRow.lt HRZ.out j e).1) h1
            exact (HBR1.out.1.trans ((HAA.out.mono h0).trans h2)).setCell (p := ⟨M, 0, none⟩) (Nat.le_refl _) _
          · exact Nat.le_trans HMX.out (Nat.le_trans HGR4.out.size (by simp))
      · rintro a' w' ⟨gg, cap4, rfl, hbx, hrow, hbw, hsz⟩
        have H1 := Lib.hid (And.intro hbx (And.intro hrow (And.intro hbw hsz)))
        clear hbx hrow hbw hsz
        simp only [List.setIfInBounds_toArray, List.set_cons_zero, List.set_cons_succ]
        go_wp2_with fail
        go_roundw
        case rel => exact ⟨k + 1, _, HKN.out, by go_num, H1.out⟩
        case measure => have := HKN.out; simp [intOf]; omega
    · obtain rfl : n = k := by omega
      have htk : P.take n = P := by rw [← HN.out, List.take_length]
      rw [htk] at hrow
      have HBX := Lib.hid hbx
      have HROW := Lib.hid hrow
      have HBW2 := Lib.hid (And.intro hbw hsz)
      clear hbx hrow hbw hsz hk hkn htk
      have HX12 : Hid (Boxed ((wr.alloc (.cells #[.int .i64 0] 3)).setCell ⟨wr.heap.size, 0, none⟩ (.int .i64 0)) wr.heap.size 3 (.int .i64 0)) := Lib.hid (Boxed.set _ (Boxed.new wr 3 (.int .i64 0)))
      have hnew := Boxed.new wr 3 (.int .i64 0)
      have c12 := hnew.cell
      have f12 := hnew.frozen
      go_wp2_with fail
      have hw5 : Below wr.heap.size wr (wr.alloc (.cells #[.int .i64 0] 3)) := (Below.refl _ _).alloc (Nat.le_refl _) _
      obtain ⟨b12, hb12⟩ : ∃ b12, wr.heap.size = b12 := ⟨_, rfl⟩
      have HE12 := Lib.hid hb12
      have H2W : Hid (Below M w2 (wr.alloc (.cells #[.int .i64 0] 3))) := Lib.hid (HBW2.out.1.trans (hw5.mono (Nat.le_of_succ_le HBW2.out.2)))
      have HTI : Hid (TI (wr.alloc (.cells #[.int .i64 0] 3)) w M b8 b12 n (.slice la n lc) P 0) := Lib.hid (by
        have h2 := H2W.out
        have h8M : b8 < M := by have := HBW.out.2; omega
        refine ⟨(h2.block b8 h8M).trans HX2.out, HBX.out.alloc _, by rw [← hb12]; exact hnew, ownsRow_below HROW.out hw5, HBW.out.1.trans (h2.mono (Nat.le_of_lt h8M))⟩)
      have HDZ : Hid ((wr.alloc (.cells #[.int .i64 0] 3)).heap.size = b12 + 1 ∧ M < b12 ∧ b8 < M) := Lib.hid ⟨by rw [← hb12]; simp, by rw [← hb12]; exact HBW2.out.2, HBW.out.2⟩
      clear hw5 hnew c12 f12 HX12 HBX HROW HBW2 HBW HX2
      rw [hb12]
      clear hb12
      generalize wr.alloc (.cells #[.int .i64 0] 3) = w5 at *
      refine (wpIn_wide (n := 3)).1 ?_
      refine range_w rfl (by omega) (gf := 39) (lb := #[.pointer (some ⟨b, 0, none⟩)]) rfl trivial (enters_of Try.func39 (by kernel_rfl) rfl)
        HSQ.out (fun r => HST.out _ (H2W.out.trans ((((Below.refl _ w5).alloc (Nat.le_refl _) _).alloc (by simp) _).mono (by have := HDZ.out; omega)))) (fun h k => h.trans k)
        (fun W r r' hb => (Below.refl _ W).grown (grownBy_putObj' W _ _) (by have := (Array.getElem?_eq_some_iff.1 hb.2).1; have := HDZ.out; omega) (fun k e => by cases e; have := HDZ.out; omega)) rfl
        (fun x u v W r r' hb he => ⟨ownB_put he.1 hb, ownB_put he.2.1 hb, he.2.2⟩)
        (fun pre W => TI W w M b8 b12 n (.slice la n lc) P pre.length) (fun _ _ _ => False)
        (fun s A C row h hg hr => h.kept hg (fun r e => ⟨by have := (hr r e).1; have := HDZ.out; omega, (hr r e).2⟩) (Nat.le_of_lt h.res.lt)) (fun c s A C row h => h.elim)
        (fun s A C hs hb => hs.calm hb (Nat.le_of_lt hs.res.lt)) (fun c s A C h => h.elim) HTI.out
        (fun a u v => { tmps := (((a.tmps.setIfInBounds 65 u).setIfInBounds 66 v).setIfInBounds 13 u).setIfInBounds 14 v, defers := [] }) ?assign ?body ?done ?stop
      case assign =>
        intro x u v W1 he W K hK
        obtain ⟨ua, uc, rfl⟩ := he.1.shape
        obtain ⟨va2, vc2, rfl⟩ := he.2.1.shape
        gi_wp2
        exact hK
      case body =>
        intro pre x rest u v W hx he hB
        obtain ⟨he1, he2, he3⟩ := he
        obtain ⟨ua, uc, rfl⟩ := he1.shape
        obtain ⟨va2, vc2, rfl⟩ := he2.shape
        have hplen : pre.length < n := by
          have h1 := HPL.out.1
          rw [hx] at h1
          simp at h1
          omega
        have hPk : ∀ h, P[pre.length]'h = (x.key, x.val) := fun h => by
          have e : P[pre.length]'h = (L.map Pr.of)[pre.length]'(by rw [HPP.out]; exact h) := by simp only [HPP.out]
          rw [e, List.getElem_map]
          have : L[pre.length]'(by rw [hx]; simp) = x := by simp only [hx, List.getElem_append_right (Nat.le_refl _), Nat.sub_self, List.getElem_cons_zero]
          rw [this]
          rfl
        have hpl2 : pre.length < P.length := by rw [HN.out]; exact hplen
        have hxb := HAB.out _ (List.getElem_mem hpl2)
        rw [hPk hpl2] at hxb
        obtain ⟨g2, cap2, cur2, hla, hg2, hh2, hc2, hm2, hs2, ht2⟩ : ∃ g cap cur, Value.slice la n lc = .slice (some ⟨g, 0, none⟩) n cap ∧ M + 1 ≤ g ∧ W.heap[g]? = some (.cells cur 45 (0, 0)) ∧ n ≤ cap ∧ cap ≤ maxLen ∧ cur.size = cap * 2 ∧ cur.toList.take (n * 2) = stC P := by
          rcases hB.row.2 with ⟨-, h1⟩ | h1
          · omega
          · exact h1
        obtain ⟨rfl, -, rfl⟩ := Value.slice.inj hla
        obtain ⟨s1, hs1⟩ : ∃ s, strN x.key = s := ⟨_, rfl⟩
        obtain ⟨s2, hs2'⟩ : ∃ s, strN x.val = s := ⟨_, rfl⟩
        have hcl : ∀ j u, j < n * 2 → (stC P)[j]? = some u → W.cell? ⟨g2, j, none⟩ = some u := by
          intro j u hj hu
          rw [cell_of_row _ _ _ _ 45 (0, 0) hh2]
          rw [← ht2, List.getElem?_take_of_lt hj] at hu
          simpa using hu
        obtain ⟨q1, q2⟩ := stC_get P pre.length hpl2
        rw [hPk hpl2, hs1] at q1
        rw [hPk hpl2, hs2'] at q2
        have d0 := hcl _ _ (by omega) q1
        have d1 := hcl _ _ (by omega) q2
        have hk1 := run_str (RowB.below (he1.rowB hxb.1) ((Below.refl W.heap.size W).drew))
        have hk2 := run_str (RowB.below (he2.rowB hxb.2) ((Below.refl W.heap.size W).drew))
        rw [hs1] at hk1
        rw [hs2'] at hk2
        have HB := Lib.hid hB
        have HPN := Lib.hid hplen
        have hlz : (pre.length : Int) < (n : Int) := by omega
        have hcz2 : (pre.length : Int) < (lc : Int) := by omega
        have hgd : decide ((n : Int) ≤ (pre.length : Int)) = false := decide_eq_false (by omega)
        have hnl : ¬ (n : Int) ≤ (pre.length : Int) := by omega
        have hne := fun W => neq_same W s1 s2
        have b0 := hB.num.cell
        have b1 := hB.list.cell
        have HLN : Hid ((pre ++ [x]).length = pre.length + 1) := Lib.hid (by simp)
        clear he1 he2 he3 hPk hpl2 hxb hh2 hs2 ht2 hcl q1 q2 hB hx hla hplen hs1 hs2'
        generalize pre.length = k at *
        gi_upto_region 14 with (fail)
        refine wpIn_cutB (fun a a' w' => w' = W.drew ∧ ∃ v67 v68 v69 v70 v71 v72 v73 v74 v75 v76 v77 v78 v79 v80 v81, a' = { tmps := (((((((((((((((a.tmps.setIfInBounds 67 v67).setIfInBounds 68 v68).setIfInBounds 69 v69).setIfInBounds 70 v70).setIfInBounds 71 v71).setIfInBounds 72 v72).setIfInBounds 73 v73).setIfInBounds 74 v74).setIfInBounds 75 v75).setIfInBounds 76 v76).setIfInBounds 77 v77).setIfInBounds 78 v78).setIfInBounds 79 v79).setIfInBounds 80 v80).setIfInBounds 81 v81).setIfInBounds 82 (.bool false), defers := a.defers }) ?_ ?_
        · refine region_roundH (fun w' => w' = W.drew) (by kernel_rfl) (by rintro ⟨_, _, h⟩; exact h) (by kernel_rfl) rfl (fun hHeld => ?_)
          refine wpAnyH_take (i := 0) (oi := ⟨_, _, _, _, _, _⟩) (v := ?_) rfl (by kernel_rfl) (by kernel_rfl) (by kernel_rfl) (fun _ _ _ h => h) (Or.inl ⟨by rfl, ?_⟩) (by assumption) ?_
          rotate_left
          · intro w hSw; (try dsimp only at hSw); subst hSw; go_simp <;> with_reducible rfl
          simp only [Act.put, List.setIfInBounds_toArray, List.set_cons_zero, List.set_cons_succ]
          refine wpAnyH_take (i := 1) (oi := ⟨_, _, _, _, _, _⟩) (v := ?_) rfl (by kernel_rfl) (by kernel_rfl) (by kernel_rfl) (fun _ _ _ h => h) (Or.inl ⟨by rfl, ?_⟩) (by assumption) ?_
          rotate_left
          · intro w hSw; (try dsimp only at hSw); subst hSw; go_simp <;> with_reducible rfl
          simp only [Act.put, List.setIfInBounds_toArray, List.set_cons_zero, List.set_cons_succ]
          refine wpAnyH_take (i := 2) (oi := ⟨_, _, _, _, _, _⟩) (v := ?_) rfl (by kernel_rfl) (by kernel_rfl) (by kernel_rfl) (fun _ _ _ h => h) (Or.inl ⟨by rfl, ?_⟩) (by assumption) ?_
          rotate_left
          · intro w hSw; (try dsimp only at hSw); subst hSw; go_simp <;> with_reducible rfl
          simp only [Act.put, List.setIfInBounds_toArray, List.set_cons_zero, List.set_cons_succ]
          refine wpAnyH_take (i := 3) (oi := ⟨_, _, _, _, _, _⟩) (v := ?_) rfl (by kernel_rfl) (by kernel_rfl) (by kernel_rfl) (fun _ _ _ h => h) (Or.inl ⟨by rfl, ?_⟩) (by assumption) ?_
          rotate_left
          · intro w hSw; (try dsimp only at hSw); subst hSw; go_simp <;> with_reducible rfl
          simp only [Act.put, List.setIfInBounds_toArray, List.set_cons_zero, List.set_cons_succ]
          refine wpAnyH_take (i := 4) (oi := ⟨_, _, _, _, _, _⟩) (v := ?_) rfl (by kernel_rfl) (by kernel_rfl) (by kernel_rfl) (fun _ _ _ h => h) (Or.inl ⟨by rfl, ?_⟩) (by assumption) ?_
          rotate_left
          · intro w hSw; (try dsimp only at hSw); subst hSw; go_simp <;> with_reducible rfl
          simp only [Act.put, List.setIfInBounds_toArray, List.set_cons_zero, List.set_cons_succ]
          refine wpAnyH_take (i := 5) (oi := ⟨_, _, _, _, _, _⟩) (v := ?_) rfl (by kernel_rfl) (by kernel_rfl) (by kernel_rfl) (fun _ _ _ h => h) (Or.inl ⟨by rfl, ?_⟩) (by assumption) ?_
          rotate_left
          · intro w hSw; (try dsimp only at hSw); subst hSw; go_simp <;> with_reducible rfl
          simp only [Act.put, List.setIfInBounds_toArray, List.set_cons_zero, List.set_cons_succ]
          refine wpAnyH_take (i := 6) (oi := ⟨_, _, _, _, _, _⟩) (v := ?_) rfl (by kernel_rfl) (by kernel_rfl) (by kernel_rfl) (fun _ _ _ h => h) (Or.inl ⟨by rfl, ?_⟩) (by assumption) ?_
          rotate_left
          · intro w hSw; (try dsimp only at hSw); subst hSw; go_simp <;> with_reducible rfl
          simp only [Act.put, List.setIfInBounds_toArray, List.set_cons_zero, List.set_cons_succ]
          refine wpAnyH_take (i := 7) (oi := ⟨_, _, _, _, _, _⟩) (v := ?_) rfl (by kernel_rfl) (by kernel_rfl) (by kernel_rfl) (fun _ _ _ h => h) (Or.inl ⟨by rfl, ?_⟩) (by assumption) ?_
          rotate_left
          · intro w hSw; (try dsimp only at hSw); subst hSw; go_simp <;> with_reducible rfl
          simp only [Act.put, List.setIfInBounds_toArray, List.set_cons_zero, List.set_cons_succ]
          refine wpAnyH_take (i := 8) (oi := ⟨_, _, _, _, _, _⟩) (v := ?_) rfl (by kernel_rfl) (by kernel_rfl) (by kernel_rfl) (fun _ _ _ h => h) (Or.inl ⟨by rfl, ?_⟩) (by assumption) ?_
          rotate_left
          · intro w hSw; (try dsimp only at hSw); subst hSw; go_simp <;> with_reducible rfl
          simp only [Act.put, List.setIfInBounds_toArray, List.set_cons_zero, List.set_cons_succ]
          refine wpAnyH_take (i := 9) (oi := ⟨_, _, _, _, _, _⟩) (v := ?_) rfl (by kernel_rfl) (by kernel_rfl) (by kernel_rfl) (fun _ _ _ h => h) (Or.inl ⟨by rfl, ?_⟩) (by assumption) ?_
          rotate_left
          · intro w hSw; (try dsimp only at hSw); subst hSw; go_simp <;> with_reducible rfl
          simp only [Act.put, List.setIfInBounds_toArray, List.set_cons_zero, List.set_cons_succ]
          refine wpAnyH_take (i := 10) (oi := ⟨_, _, _, _, _, _⟩) (v := ?_) rfl (by kernel_rfl) (by kernel_rfl) (by kernel_rfl) (fun _ _ _ h => h) (Or.inl ⟨by rfl, ?_⟩) (by assumption) ?_
          rotate_left
          · intro w hSw; (try dsimp only at hSw); subst hSw; go_simp <;> with_reducible rfl
          simp only [Act.put, List.setIfInBounds_toArray, List.set_cons_zero, List.set_cons_succ]
          refine wpAnyH_take (i := 11) (oi := ⟨_, _, _, _, _, _⟩) (v := ?_) rfl (by kernel_rfl) (by kernel_rfl) (by kernel_rfl) (fun _ _ _ h => h) (Or.inl ⟨by rfl, ?_⟩) (by assumption) ?_
          rotate_left
          · intro w hSw; (try dsimp only at hSw); subst hSw; go_simp <;> with_reducible rfl
          simp only [Act.put, List.setIfInBounds_toArray, List.set_cons_zero, List.set_cons_succ]
          refine wpAnyH_take (i := 12) (oi := ⟨_, _, _, _, _, _⟩) (v := ?_) rfl (by kernel_rfl) (by kernel_rfl) (by kernel_rfl) (fun _ _ _ h => h) (Or.inl ⟨by rfl, ?_⟩) (by assumption) ?_
          rotate_left
          · intro w hSw; (try dsimp only at hSw); subst hSw; go_simp <;> with_reducible rfl
          simp only [Act.put, List.setIfInBounds_toArray, List.set_cons_zero, List.set_cons_succ]
          refine wpAnyH_take (i := 13) (oi := ⟨_, _, _, _, _, _⟩) (v := ?_) rfl (by kernel_rfl) (by kernel_rfl) (by kernel_rfl) (fun _ _ _ h => h) (Or.inl ⟨by rfl, ?_⟩) (by assumption) ?_
          rotate_left
          · intro w hSw; (try dsimp only at hSw); subst hSw; go_simp <;> with_reducible rfl
          simp only [Act.put, List.setIfInBounds_toArray, List.set_cons_zero, List.set_cons_succ]
          refine wpAnyH_take (i := 14) (oi := ⟨_, _, _, _, _, _⟩) (v := ?_) rfl (by kernel_rfl) (by kernel_rfl) (by kernel_rfl) (fun _ _ _ h => h) (Or.inl ⟨by rfl, ?_⟩) (by assumption) ?_
          rotate_left
          · intro w hSw; (try dsimp only at hSw); subst hSw; go_simp <;> with_reducible rfl
          simp only [Act.put, List.setIfInBounds_toArray, List.set_cons_zero, List.set_cons_succ]
          refine wpAnyH_take (i := 15) (oi := ⟨_, _, _, _, _, _⟩) (v := ?_) rfl (by kernel_rfl) (by kernel_rfl) (by kernel_rfl) (fun _ _ _ h => h) (Or.inl ⟨by rfl, ?_⟩) (by assumption) ?_
          rotate_left
          · intro w hSw; (try dsimp only at hSw); subst hSw; go_simp <;> with_reducible rfl
          simp only [Act.put, List.setIfInBounds_toArray, List.set_cons_zero, List.set_cons_succ]
          refine wpAnyH_done (by kernel_rfl) ?_ _
          refine ⟨hHeld, .int .i64 (k : Nat), .slice (some ⟨g2, 0, none⟩) n lc, .int .i64 (n : Nat), .bool false, .bool false, .slice (some ⟨g2, 0, none⟩) n lc, .int .i64 (k : Nat), .pointer (some ⟨g2, k * 2, none⟩), .agg #[.string s1, .string s2], .slice ua x.key.length uc, .string s1, .slice va2 x.val.length vc2, .string s2, .agg #[.string s1, .string s2], .bool false, ?_⟩
          rfl
        · rintro a' w' ⟨rfl, v67, v68, v69, v70, v71, v72, v73, v74, v75, v76, v77, v78, v79, v80, v81, rfl⟩
          simp only [List.setIfInBounds_toArray, List.set_cons_zero, List.set_cons_succ]
          have H5 : Hid (TI (W.drew.setCell ⟨b12, 0, none⟩ (.int .i64 ((k + 1 : Nat) : Int))) w M b8 b12 n (.slice (some ⟨g2, 0, none⟩) n lc) P (k + 1)) := Lib.hid ((HB.out.calm ((Below.refl _ _).drew) (Nat.le_of_lt HB.out.res.lt)).step (by have := HDZ.out; omega) (by have := HDZ.out; omega))
          have H6 : Hid (Beside (fun j => j = b12) W (W.drew.setCell ⟨b12, 0, none⟩ (.int .i64 ((k + 1 : Nat) : Int)))) := Lib.hid ((Beside.refl (fun j => j = b12) W).drew.setCell (p := ⟨b12, 0, none⟩) (.inl rfl) _)
          have hkq : ((k + 1 : Nat) : Int) = (k : Int) + 1 := by omega
          rw [hkq] at H5 H6
          have H7 : Hid (b12 < W.heap.size) := Lib.hid HB.out.num.lt
          have e0 : W.drew.cell? ⟨b12, 0, none⟩ = some (.int .i64 (k : Nat)) := b0
          have e1 : W.drew.frozen? ⟨b12, 0, none⟩ = false := HB.out.num.frozen
          have hkb : (k : Int) + 1 ≤ 10001 := by omega
          have hkc : IntKind.i64.wrap ((k : Int) + 1) = (k : Int) + 1 := by rw [IntKind.wrap_i64]; omega
          clear hkq
          clear d0 d1 hk1 hk2 b0 b1 hne
          generalize W.drew = W6 at *
          gi_wp2
          refine ⟨keepsFrom_beside _ H6.out (fun j hj => by rw [hj]; exact ⟨_, _, _, HB.out.num⟩), ?_, ?_⟩
          rotate_left
          · show TI _ w M b8 b12 n _ P (pre ++ [x]).length
            rw [HLN.out]
            exact H5.out
          exact H6.out.below (fun j hj => by rw [hj]; have := HDZ.out; omega) (by have := HDZ.out; have := H7.out; omega)
      case done =>
        intro W hB hK
        have hll : L.length = n := HPL.out.1
        rw [hll] at hB
        have HB := Lib.hid hB
        have HK := Lib.hid hK
        have c12 := hB.num.cell
        have c10 := hB.list.cell
        have c8 := hB.res.cell
        have f8 := hB.res.frozen
        clear hB hK hll
        go_wp2_with fail
        have h8 : b8 < w5.heap.size := by have := HDZ.out; omega
        have hkf : (W.setCell ⟨b8, 0, none⟩ (.bool true)).heap[w5.heap.size]? = some (.deferred (some [])) := (Below.heap_setCell _ _ _ _ (by show w5.heap.size ≠ b8; omega)).trans HK.out
        have hbf : Boxed ((W.setCell ⟨b8, 0, none⟩ (.bool true)).putObj w5.heap.size (.deferred none)) b8 4 (.bool true) := (World.putObj_heap_other (by omega)).trans (Boxed.set (W := W) (.bool true) HB.out.res)
        have hcf := hbf.cell
        refine ⟨by simp, .inl ⟨_, _, rfl, run_takeDeferred hkf, ?_⟩⟩
        refine ⟨.bool true, ?_, rfl, ?_⟩
        · have h6 : Try.f16.results = #[.cell 8 4] := rfl
          simp only [results, h6]
          simp [go_sem, hcf]
        · have hwl : w.heap.size = b8 := HE8.out
          have hbb := HB.out.bel
          rw [← hwl] at hbb
          exact (hbb.setCell (p := ⟨b8, 0, none⟩) (by show w.heap.size ≤ b8; omega) _).trans (belowK_b (w := w) (Nat.le_refl _) _ _ _ _ (by omega) hkf rfl rfl)
      case stop =>
        rintro c pre W _ h
        exact h.elim
end Go.Proofs.Ytmnbkhgogogeiaa
