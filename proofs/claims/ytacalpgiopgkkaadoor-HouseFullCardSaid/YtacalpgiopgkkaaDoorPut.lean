/-
  A message is put behind the others of a mailbox: the walk.
-/
import Derived.Test.YtacalpgiopgkkaaDoorPutE
namespace Go.Proofs.YtacalpgiopgkkaaDoor
set_option linter.unusedVariables false
open Go.RowKit Go.MapKept
attribute [local go_sem] Oper.semAt_some

set_option maxRecDepth 100000 in
set_option maxHeartbeats 4000000 in
theorem put_ok (S b q : Nat) (hp : Value) (vd nx n : Nat) (mv : Value) (xs : List Value) (lv bv : Value) (T : List S9.Tx) (bl : List Nat) (uv ov : Value) (w : World)
    (hb : At w b [.int .u32 (vd : Nat), .int .u64 (nx : Nat), mv] 59) (hq : At w q [hp, .int .u32 0, uv, ov, lv, .string ⟨#[]⟩, bv] 46) (hbq : b ≠ q) (hmv : w.ownsRow S 68 4 mv n xs) (hmo : ∀ k, mv.ownBlock = some k → k ≠ b ∧ k ≠ q)
    (ht : Pow w) (hz : NoZero w bv) (ha : AllOk w lv T) (hrb : ∀ W, Beside (fun k => k = b ∨ k = q) w W → RowB W bv bl) (hbl : bl.length ≤ 16384) (hn : n < 200) (hnx : nx ≤ 4294967294) (hS : S ≤ w.heap.size) :
    Calls Tryd.prog 13 #[.pointer (some ⟨b, 0, none⟩), .pointer (some ⟨q, 0, none⟩)] w (PutOk S b q hp mv vd nx n xs lv bv T bl uv ov w) := by
  have hr := hrb w (Beside.refl _ w)
  have HRB := Lib.hid hrb
  clear hrb
  obtain ⟨ma, mc, rfl⟩ : ∃ a c, mv = .slice a n c := by
    rcases hmv.2 with ⟨e, h0⟩ | ⟨g, cap, cur, e, _⟩
    · exact ⟨none, 0, by rw [e, h0]⟩
    · exact ⟨_, cap, e⟩
  have q5 := hq.cell 5 _ rfl
  have q6 := hq.cell 6 _ rfl
  have q4 := hq.cell 4 _ rfl
  have HD := Lib.hid (same_none w ht)
  obtain ⟨ba, bc, rfl⟩ : ∃ a c, bv = .slice a bl.length c := by obtain ⟨a, len, c, e, h, _⟩ := hr; exact ⟨a, c, by rw [e, h]⟩
  have H0 := Lib.hid (And.intro hb (And.intro hq (And.intro hmv (And.intro hmo (And.intro hz (And.intro ha hr))))))
  have he := eql_empty w
  have hbl2 : (bl.length : Int) ≤ 16384 := by omega
  clear hb hq hmv hmo hz ha hr ht
  go_enter Tryd.func13, Tryd.ntmps13
  go_upto_region 5 with (go_at_call 19; refine HD.out.mono ?_; rintro e w1 ⟨rfl, hb1⟩)
  have r6 := (hb1.cell (p := ⟨q, 6, none⟩) H0.out.2.1.lt).trans q6
  have r4 := (hb1.cell (p := ⟨q, 4, none⟩) H0.out.2.1.lt).trans q4
  have HB1 := Lib.hid hb1
  clear hb1 q5 q6 q4
  have hw1 : IntKind.u32.wrap (nx : Int) = (nx : Int) := IntWalk.u32_in _ ⟨by omega, by omega⟩
  have hw2 : IntKind.u64.wrap ((nx : Int) + 1) = ((nx + 1 : Nat) : Int) := by rw [IntWalk.u64_in _ ⟨by omega, by omega⟩]; omega
  have hn2 : (n : Int) < 200 := by omega
  have hx2 : (nx : Int) ≤ 4294967294 := by omega
  go_upto_region 7 with (go_at_call 20; refine (H0.out.2.2.2.2.1 _ HB1.out).mono ?_; rintro e w1' ⟨rfl, rfl⟩)
  go_upto_region 16 with (go_at_call 21; refine (H0.out.2.2.2.2.2.1 _ HB1.out).mono ?_; rintro e w2 ⟨o, rfl, ho, hb2⟩; obtain ⟨oa, oc, rfl⟩ := ownT_shape ho; have HO := Lib.hid ho; have hbb := HB1.out.trans (hb2.mono HB1.out.size); have HB2 := Lib.hid hbb; have t1 := H0.out.1.below hbb; have t2 := H0.out.2.1.below hbb; have b1 := t1.cell 1 _ rfl; have b2 := t1.cell 2 _ rfl; have q6 := t2.cell 6 _ rfl; have q1 := t2.cell 1 _ rfl; have HT := Lib.hid (And.intro t1 t2); clear ho hb2 hbb t1 t2)
  have f1 := HT.out.2.free 1
  go_upto_region 17 with fail
  have u2 := HT.out.2.set 1 (.int .u32 (nx : Nat))
  have u1 := HT.out.1.other 1 (.int .u32 (nx : Nat)) (Ne.symm hbq)
  simp only [List.set] at u2
  have hs3 : Below b w w2 ∧ True := ⟨HB2.out.mono (Nat.le_of_lt H0.out.1.lt), trivial⟩
  have BE3 : Beside (fun k => k = b ∨ k = q) w (w2.setCell ⟨q, 1, none⟩ (.int .u32 (nx : Nat))) := (Beside.of_below HB2.out (fun k h1 h2 => by omega)).setCell (p := ⟨q, 1, none⟩) (.inl (.inr rfl)) _
  have o3 : S9.OwnT (w2.setCell ⟨q, 1, none⟩ (.int .u32 (nx : Nat))) w.heap.size (.slice oa T.length oc) T := own_other (HO.out.mono HB1.out.size) H0.out.2.1.lt _ _
  generalize w2.setCell ⟨q, 1, none⟩ (.int .u32 (nx : Nat)) = W3 at *
  have b1 := u1.cell 1 _ rfl
  have g1 := u1.free 1
  have HU := Lib.hid (And.intro u1 (And.intro u2 (And.intro BE3 o3)))
  clear u1 u2 BE3 o3 hs3
  go_upto_region 18 with fail
  have u1 := HU.out.1.set 1 (.int .u64 ((nx : Int) + 1))
  have u2 := HU.out.2.1.other 1 (.int .u64 ((nx : Int) + 1)) hbq
  simp only [List.set] at u1
  have BE4 : Beside (fun k => k = b ∨ k = q) w (W3.setCell ⟨b, 1, none⟩ (.int .u64 ((nx : Int) + 1))) := HU.out.2.2.1.setCell (p := ⟨b, 1, none⟩) (.inl (.inl rfl)) _
  have o4 : S9.OwnT (W3.setCell ⟨b, 1, none⟩ (.int .u64 ((nx : Int) + 1))) w.heap.size (.slice oa T.length oc) T := own_other HU.out.2.2.2 H0.out.1.lt _ _
  generalize W3.setCell ⟨b, 1, none⟩ (.int .u64 ((nx : Int) + 1)) = W4 at *
  have hmrow : ∀ W, Beside (fun k => k = b ∨ k = q) w W → W.ownsRow S 68 4 (.slice ma n mc) n xs := fun W h => by
    refine ⟨H0.out.2.2.1.1, ?_⟩
    rcases H0.out.2.2.1.2 with h2 | ⟨g, cp, cur, e, hB, hh, r⟩
    · exact .inl h2
    · have hne := H0.out.2.2.2.1 g (by rw [e]; rfl)
      exact .inr ⟨g, cp, cur, e, hB, (h.block g (Array.getElem?_eq_some_iff.1 hh).1 (by rintro (rfl | rfl); exact hne.1 rfl; exact hne.2 rfl)).trans hh, r⟩
  have hrow4 : RowB W4.drew (.slice ba bl.length bc) bl := HRB.out _ BE4.drew
  have HCL := Lib.hid (bclone_any _ bl W4.drew hrow4 (by omega))
  obtain ⟨i0, hi, hz0, hz1, hz2⟩ := info_parts info51
  have HI0 := Lib.hid hi
  have c2 : W4.drew.cell? ⟨b, 2, none⟩ = some (.slice ma n mc) := u1.cell 2 _ rfl
  have c1 : W4.drew.cell? ⟨q, 1, none⟩ = some (.int .u32 (nx : Nat)) := u2.cell 1 _ rfl
  have c6 : W4.drew.cell? ⟨q, 6, none⟩ = some (.slice ba bl.length bc) := u2.cell 6 _ rfl
  have H4 := Lib.hid (And.intro u1 (And.intro u2 (And.intro BE4 o4)))
  have HMR := Lib.hid hmrow
  clear u1 u2 BE4 o4 hmrow hrow4 hi
  obtain ⟨m4, hm4⟩ : ∃ m, W4.heap.size = m := ⟨_, rfl⟩
  have HM4 := Lib.hid hm4
  clear hm4
  go_region_law (first
    | (go_simp; go_at_call 22; refine HCL.out.mono ?_; rintro e w5 ⟨bd, rfl, hbd, hb5⟩
       obtain ⟨da, dc, rfl⟩ := hbd.shape
       have HBD := Lib.hid hbd
       have HB5 := Lib.hid hb5
       have hq5 := At.below (w := W4.drew) H4.out.2.1 hb5
       have hb5' := At.below (w := W4.drew) H4.out.1 hb5
       have d2 : w5.cell? ⟨b, 2, none⟩ = some (.slice ma n mc) := hb5'.cell 2 _ rfl
       have d1 : w5.cell? ⟨q, 1, none⟩ = some (.int .u32 (nx : Nat)) := hq5.cell 1 _ rfl
       have hX := (Below.refl w5.heap.size w5).alloc (Nat.le_refl _) (.cells #[.int .u32 (nx : Nat), .slice oa T.length oc, .string noneB, .slice da bl.length dc] 68)
       have e2 : (w5.alloc (.cells #[.int .u32 (nx : Nat), .slice oa T.length oc, .string noneB, .slice da bl.length dc] 68)).cell? ⟨b, 2, none⟩ = some (.slice ma n mc) := (hb5'.below hX).cell 2 _ rfl
       have HNX := Lib.hid (heap_alloc_new w5 (.cells #[.int .u32 (nx : Nat), .slice oa T.length oc, .string noneB, .slice da bl.length dc] 68))
       have HBE := Lib.hid (H4.out.2.2.1.drew.trans (Beside.of_below hb5 (fun k h1 h2 => absurd h2 (by omega))))
       have HBX := Lib.hid (HBE.out.alloc (.cells #[.int .u32 (nx : Nat), .slice oa T.length oc, .string noneB, .slice da bl.length dc] 68))
       have HRX := Lib.hid (HMR.out _ HBX.out)
       have hdz : (w5.alloc (.cells #[.int .u32 (nx : Nat), .slice oa T.length oc, .string noneB, .slice da bl.length dc] 68)).heap.size = w5.heap.size + 1 := (by simp)
       have HSX := Lib.hid (And.intro (hb5'.below hX) (hq5.below hX))
       clear hbd hb5 hq5 hb5' hX)
    | (refine step_append_lies _ (by rfl) _ _ _ (by rfl) S 68 i0 _ 4 72 Tryd.underlying57 HI0.out hz0 hz1 hz2 rfl (by decide) (.slice ma n mc) n xs (by rfl) HRX.out ⟨w5.heap.size, 0, none⟩ 1 1 [.int .u32 (nx : Nat), .slice oa T.length oc, .string noneB, .slice da bl.length dc] (by rfl) (by rfl) (World.news_of_block (cs := #[.int .u32 (nx : Nat), .slice oa T.length oc, .string noneB, .slice da bl.length dc]) (t := 68) (fr := (0, 0)) HNX.out) (by simp [Value.oneCell']) (by omega) (by unfold maxLen; omega) (by omega) (Nat.le_trans hS HBX.out.size) (w5.heap.size + 1) hdz ?_
       intro g cp w6 hown6 hgr6 hlies6 hlt6
       have hb6 : At w6 b [.int .u32 (vd : Nat), .int .u64 ((nx : Int) + 1), .slice ma n mc] 59 := (hgr6.block b HSX.out.1.lt (fun e => (H0.out.2.2.2.1 b e.symm).1 rfl)).trans HSX.out.1
       have hq6 := (hgr6.block q HSX.out.2.lt (fun e => (H0.out.2.2.2.1 q e.symm).2 rfl)).trans HSX.out.2
       have k2 := hb6.cell 2 _ rfl
       have k3 := hb6.free 2
       have HO6 := Lib.hid (And.intro hown6 (And.intro hgr6 (And.intro hlies6 (And.intro hlt6 (And.intro hb6 hq6)))))
       clear hown6 hgr6 hlies6 hlt6 hb6 hq6))
  all_goals go_wp2_with fail
  all_goals (go_ret; exact put_end H0.out.2.2.1 H0.out.1.lt hbq H0.out.2.2.2.1 H4.out.2.2.1.size H4.out.2.2.2 HB5.out HBD.out HBX.out HO6.out.1 HO6.out.2.1 HO6.out.2.2.1 HO6.out.2.2.2.2.1 HO6.out.2.2.2.2.2)
end Go.Proofs.YtacalpgiopgkkaaDoor
