/-
  Lex: the tokens of any bytes.
-/
import Derived.Test.YtghibofnfjnfcaaGreatDoorLexX
import Derived.BigQuiet
import Derived.Deep.QuietTactic
namespace Go.Proofs.YtghibofnfjnfcaaGreatDoor
set_option linter.unusedVariables false
open Go.RowKit

structure LexR (w wr : World) (p q : Nat) (o t : Value) (s : LS) : Prop where
  k : LexS wr p o t s 0
  r : ResB wr q (mdV s.m)
  fit : Fit s
  lf : s.left ≤ 16384
  lo : ∀ g, o.ownBlock = some g → w.heap.size ≤ g
  lt : ∀ g, t.ownBlock = some g → w.heap.size ≤ g
  pl : w.heap.size ≤ p
  ql : w.heap.size ≤ q
  b : Below w.heap.size w wr
theorem OwnT.base {w : World} {B : Nat} {v : Value} {l : List Tk} (h : OwnT w 0 v l) (hb : ∀ g, v.ownBlock = some g → B ≤ g) : OwnT w B v l := by
  refine ⟨h.1, ?_⟩
  rcases h.2 with h2 | ⟨g, cap, cur, rfl, hg, hh, r⟩
  · exact .inl h2
  · exact .inr ⟨g, cap, cur, rfl, hb g rfl, hh, r⟩
theorem left_step {s : LS} (c : Nat) (h : s.left ≤ 16384) : (stepL s c).1.left ≤ 16384 ∧ (stepL s c).1.out.length ≤ s.out.length + 2 ∧ (stepL s c).1.text.length ≤ s.text.length + 1 := by
  unfold stepL
  cases s.m <;> simp only [atomS, quoS, escS, sizS, carS, feeS, litS, betS, tellS, pushT]
  all_goals
    repeat' split
    all_goals
      simp only [List.length_append, List.length_cons, List.length_nil]
      refine ⟨?_, ?_, ?_⟩ <;> omega
section
variable {w wr w2 : World} {p q : Nat} {o t o' t' : Value} {s s' : LS} {err : Nat}
theorem LexR.keep (h : LexR w wr p q o t s) (hs : LexS w2 p o' t' s' err) (hf : Foot2 p o t wr w2) (mo : Moved o o' wr) (mt : Moved t t' wr) :
    ResB w2 q (mdV s.m) ∧ Below w.heap.size w w2 ∧ (∀ g, o'.ownBlock = some g → w.heap.size ≤ g) ∧ (∀ g, t'.ownBlock = some g → w.heap.size ≤ g) := by
  have hpq : q ≠ p := by
    rintro rfl
    have h1 := h.r.row
    rw [h.k.b.row] at h1
    simp at h1
  have hs0 := h.b.size
  refine ⟨h.r.same (hf.block q h.r.lt hpq (ownT_ne h.k.ot h.r.row (by decide)) (ownB_ne h.k.tx h.r.row (by decide))), ⟨hf.os.trans h.b.os, hf.tape.trans h.b.tape, hf.output.trans h.b.output, Nat.le_trans h.b.size hf.size, fun b hb => (hf.block b (Nat.lt_of_lt_of_le hb h.b.size) (by have := h.pl; omega) (fun e => by have := h.lo b e; omega) (fun e => by have := h.lt b e; omega)).trans (h.b.block b hb)⟩, ?_, ?_⟩
  · intro g hg
    rcases mo with m | m
    · rw [m] at hg; exact h.lo g hg
    · have := m g hg; omega
  · intro g hg
    rcases mt with m | m
    · rw [m] at hg; exact h.lt g hg
    · have := m g hg; omega
/-- a byte is read, and the next state stored -/
theorem LexR.step (h : LexR w wr p q o t s) (hs : LexS w2 p o' t' s' 0) (hf : Foot2 p o t wr w2) (mo : Moved o o' wr) (mt : Moved t t' wr) (fit : Fit s') (hl : s'.left ≤ 16384) : LexR w (w2.setCell ⟨q, 0, none⟩ (mdV s'.m)) p q o' t' s' := by
  obtain ⟨h1, h2, h3, h4⟩ := h.keep hs hf mo mt
  have hpq : p ≠ q := by
    rintro rfl
    have h5 := h1.row
    rw [hs.b.row] at h5
    simp at h5
  exact ⟨⟨hs.b.off hpq _, hs.ot.same fun g hg => heap_setCell_other _ _ _ _ (by rintro rfl; exact ownT_ne hs.ot h1.row (by decide) hg), hs.tx.off (ownB_ne hs.tx h1.row (by decide))⟩, h1.set _, fit, hl, h3, h4, h.pl, h.ql, h2.setCell h.ql _⟩
end

/-- what Lex answers -/
def LexOut (w : World) (r : Nat × List Tk) (e : Ending) (w' : World) : Prop := ∃ o, e = .returned (.tuple #[o, .int .i64 (r.1 : Nat)]) ∧ OwnT w' w.heap.size o r.2 ∧ Below w.heap.size w w'
theorem ownT_nil (w : World) (B : Nat) : OwnT w B (.slice none 0 0) [] := World.ownsRow_nil _ _ _ _

set_option maxRecDepth 100000 in
set_option maxHeartbeats 8000000 in
theorem lex_any (v : Value) (l : List Nat) (w : World) (hr : RowB w v l) (hl : l.length ≤ 30000000) (hv : RngV w) : Calls Tryz.prog 16 #[v] w (LexOut w (lexS l)) := by
  have HLT := Lib.hid hr.lt
  obtain ⟨a, cap, rfl⟩ : ∃ a c, v = .slice a l.length c := by obtain ⟨a, len, c, e, h, _⟩ := hr; exact ⟨a, c, by rw [e, h]⟩
  have HROW := Lib.hid hr
  have HV := Lib.hid hv
  clear hr hv
  go_enter Tryz.func16, Tryz.ntmps16
  go_upto_region 2 with fail
  have hb1 : Below w.heap.size w (w.alloc (.cells #[.slice none 0 0, .slice none 0 0, .int .i64 0, .bool false, .int .i64 0] 50)) := (Below.refl _ _).alloc (Nat.le_refl _) _
  have hp1 : LexB (w.alloc (.cells #[.slice none 0 0, .slice none 0 0, .int .i64 0, .bool false, .int .i64 0] 50)) w.heap.size (.slice none 0 0) (.slice none 0 0) 0 false 0 := ⟨heap_alloc_new w _⟩
  have HB1 := Lib.hid hb1
  have HP1 := Lib.hid hp1
  clear hb1 hp1
  generalize w.alloc (.cells #[.slice none 0 0, .slice none 0 0, .int .i64 0, .bool false, .int .i64 0] 50) = w1 at *
  go_wp2_with fail
  refine (start_any w1).mono ?_
  rintro e w2 ⟨rfl, hb2⟩
  have HB2 := Lib.hid (HB1.out.trans (hb2.mono HB1.out.size))
  have HP2 := Lib.hid (HP1.out.same (w' := w2) (hb2.block _ HP1.out.lt))
  clear hb2 HP1 HB1
  go_wp2_with fail
  have hk0 : ResB (w2.alloc (.cells #[.nilFunc] 53)) w2.heap.size .nilFunc := resB_new w2
  rw [hk0.store (mdV_one _)]
  have hR0 : LexR w ((w2.alloc (.cells #[.nilFunc] 53)).setCell ⟨w2.heap.size, 0, none⟩ (mdV .btw)) w.heap.size w2.heap.size (.slice none 0 0) (.slice none 0 0) ls0 := by
    have hb3 : Below w2.heap.size w2 (w2.alloc (.cells #[.nilFunc] 53)) := (Below.refl _ _).alloc (Nat.le_refl _) _
    have hp3 := HP2.out.same (w' := w2.alloc (.cells #[.nilFunc] 53)) (hb3.block _ HP2.out.lt)
    have hlt := HP2.out.lt
    have hs2 := HB2.out.size
    exact ⟨⟨hp3.off (show w.heap.size ≠ w2.heap.size by omega) _, World.ownsRow_nil _ _ _ _, World.ownsRow_nil _ _ _ _⟩, hk0.set _, fit0, Nat.zero_le _, (fun g h => by simp [Value.ownBlock] at h), (fun g h => by simp [Value.ownBlock] at h), Nat.le_refl _, hs2, (HB2.out.trans (hb3.mono hs2)).setCell hs2 _⟩
  have HR0 := Lib.hid hR0
  clear hk0 hR0 HB2 HP2
  generalize (w2.alloc (.cells #[.nilFunc] 53)).setCell ⟨w2.heap.size, 0, none⟩ (mdV .btw) = w3 at *
  generalize w.heap.size = p at *
  generalize w2.heap.size = q at *
  go_wp2_with fail
  go_loopw [13] (fun i wr => ∃ (kk : Nat) (s : LS) (o t : Value), kk ≤ l.length ∧ i = .int .i64 (kk : Int) ∧ LexR w wr p q o t s ∧ runL ls0 l = runL s (l.drop kk) ∧ s.out.length ≤ 2 * kk ∧ s.text.length ≤ kk) (fun i _ => l.length - (intOf i).toNat)
  case atStart => exact ⟨0, ls0, _, _, Nat.zero_le _, rfl, HR0.out, rfl, Nat.zero_le _, Nat.zero_le _⟩
  case round =>
    obtain ⟨kk, s, o, t, hkk, rfl, hlr, hrun, hol, htl⟩ := hrel
    have HR := Lib.hid hlr
    have HRUN := Lib.hid hrun
    have HLEF := Lib.hid hlr.lf
    have hol2 : s.out.length + 2 ≤ 100000000 := by omega
    have htl2 : s.text.length ≤ 100000000 := by omega
    have HOL := Lib.hid hol
    have HTL := Lib.hid htl
    obtain ⟨c0, c1, c2, c3, c4, x0, x1, x2, x3, x4⟩ := hlr.k.b.at
    have r0 := hlr.r.cell
    have r1 := hlr.r.free
    clear hlr hrun hol htl HR0
    by_cases hlt : kk < l.length
    · obtain ⟨c, hcv⟩ : ∃ c, l[kk] = c := ⟨_, rfl⟩
      have hc : c < 256 := by rw [← hcv]; exact HLT.out _ (List.getElem_mem hlt)
      have hrow := HROW.out.below HR.out.b
      obtain ⟨la, hla, hcc, hc0⟩ : ∃ x, a = some x ∧ wr.cell? (x.add kk) = some (.int .u8 (c : Nat)) ∧ ∃ u, wr.cell? (x.add 0) = some u := by
        obtain ⟨ad, len, cp, e, hl1, hl2, hl3, hl4, hl5, hl6⟩ := hrow
        simp only [Value.slice.injEq] at e
        obtain ⟨rfl, rfl, rfl⟩ := e
        cases a with
        | none => have := (hl5 rfl).1; omega
        | some x => exact ⟨x, rfl, by rw [hl6 x rfl kk hlt, hcv], _, hl6 x rfl 0 (by omega)⟩
      subst hla
      have hrun2 : runL ls0 l = runL s (c :: l.drop (kk + 1)) := by rw [HRUN.out, List.drop_eq_getElem_cons hlt, hcv]
      have HRUN2 := Lib.hid hrun2
      obtain ⟨lb, lo2, ls⟩ := la
      have hsp : ls = none := by obtain ⟨u, hu⟩ := hc0; simpa [Addr.add] using World.cell?_spot hu
      subst hsp
      rw [Addr.add_lit] at hcc
      have hst := left_step c HLEF.out
      have HST := Lib.hid hst
      have hfs : (stepL s c).2 = 0 → Fit (stepL s c).1 := fun h => fit_step HR.out.fit c hc h
      have HFS := Lib.hid hfs
      clear hrow hrun2 hcv HRUN hst hfs hc0
      have hrv : RngV wr := by obtain ⟨tp, q', h⟩ := HV.out; exact ⟨tp, q', (HR.out.b.cell (p := ⟨5, 0, none⟩) (World.block_lt_of_cell? w _ h)).trans h⟩
      cases hm : s.m
      · have hc2 := between_any p o t s c hc HR.out.fit.tb (by omega) htl2 wr HR.out.k
        have e : betS s c = stepL s c := by unfold stepL; rw [hm]
        rw [e] at hc2
        rw [hm] at r0
        unfold mdV at r0
        have HC := Lib.hid hc2
        clear hc2 e hm
        by_cases h0 : (stepL s c).2 = 0
        · have H0 := Lib.hid h0
          clear h0
          go_wp2_with fail
          refine HC.out.mono ?_
          rintro e w4 ⟨o', t', he, hs, hf, mo, mt⟩
          rw [if_pos H0.out] at he
          subst he
          rw [H0.out] at hs
          have HR4 := Lib.hid (HR.out.keep hs hf mo mt).1
          have HR5 := Lib.hid (HR.out.step hs hf mo mt (HFS.out H0.out) HST.out.1)
          clear hs hf mo mt
          go_wp2_with fail
          rw [HR4.out.store (mdV_one _)]
          obtain ⟨d0, d1, d2, d3, d4, y0, y1, y2, y3, y4⟩ := HR5.out.k.b.at
          generalize w4.setCell ⟨q, 0, none⟩ (mdV (stepL s c).1.m) = w5 at *
          go_wp2_with fail
          go_roundw
          case rel => exact ⟨kk + 1, (stepL s c).1, o', t', by omega, by go_num, HR5.out, by rw [HRUN2.out, runL, if_pos H0.out], by have := HST.out.2.1; have := HOL.out; omega, by have := HST.out.2.2; have := HTL.out; omega⟩
          case measure => simp [intOf]; omega
        · have H0 := Lib.hid h0
          clear h0
          go_wp2_with fail
          refine HC.out.mono ?_
          rintro e w4 ⟨o', t', he, hs, hf, mo, mt⟩
          rw [if_neg H0.out] at he
          subst he
          have HK4 := Lib.hid (HR.out.keep hs hf mo mt)
          have HS4 := Lib.hid hs
          have hout : lexS l = ((stepL s c).2, []) := by
            have e1 : runL ls0 l = stepL s c := by rw [HRUN2.out, runL, if_neg H0.out]
            unfold lexS
            rw [e1, if_neg H0.out]
          have HOUT := Lib.hid hout
          have hpq : p ≠ q := by
            have h1 := HK4.out.1.row
            rintro rfl
            rw [hs.b.row] at h1
            simp at h1
          have HB5 := Lib.hid (hs.b.off hpq (j := 0) .nilFunc)
          have HBB := Lib.hid (HK4.out.2.1.setCell (p := ⟨q, 0, none⟩) HR.out.ql .nilFunc)
          clear hs hf mo mt hout
          obtain ⟨d0, d1, d2, d3, d4, y0, y1, y2, y3, y4⟩ := HB5.out.at
          have q0 := HK4.out.1.cell
          have q1 := HK4.out.1.free
          have hn0 := H0.out
          generalize (stepL s c).2 = n at *
          have gn : ¬ (n : Int) = 0 := by omega
          have gn2 : ((n : Int) != 0) = true := by simpa using hn0
          go_wp2_with fail
          go_quiet (fail)
          go_wp2_with fail
          refine bodyPost_ret (v := .tuple #[.slice none 0 0, .int .i64 (n : Int)]) (by simp [results, Tryz.results16, go_sem]) rfl ?_
          rw [HOUT.out]
          exact ⟨_, rfl, ownT_nil _ _, below_drewN HBB.out _⟩
      · have hc2 := atom_any p o t s c hc HR.out.fit.tb hol2 htl2 wr HR.out.k
        have e : atomS s c = stepL s c := by unfold stepL; rw [hm]
        rw [e] at hc2
        rw [hm] at r0
        unfold mdV at r0
        have HC := Lib.hid hc2
        clear hc2 e hm
        by_cases h0 : (stepL s c).2 = 0
        · have H0 := Lib.hid h0
          clear h0
          go_wp2_with fail
          refine HC.out.mono ?_
          rintro e w4 ⟨o', t', he, hs, hf, mo, mt⟩
          rw [if_pos H0.out] at he
          subst he
          rw [H0.out] at hs
          have HR4 := Lib.hid (HR.out.keep hs hf mo mt).1
          have HR5 := Lib.hid (HR.out.step hs hf mo mt (HFS.out H0.out) HST.out.1)
          clear hs hf mo mt
          go_wp2_with fail
          rw [HR4.out.store (mdV_one _)]
          obtain ⟨d0, d1, d2, d3, d4, y0, y1, y2, y3, y4⟩ := HR5.out.k.b.at
          generalize w4.setCell ⟨q, 0, none⟩ (mdV (stepL s c).1.m) = w5 at *
          go_wp2_with fail
          go_roundw
          case rel => exact ⟨kk + 1, (stepL s c).1, o', t', by omega, by go_num, HR5.out, by rw [HRUN2.out, runL, if_pos H0.out], by have := HST.out.2.1; have := HOL.out; omega, by have := HST.out.2.2; have := HTL.out; omega⟩
          case measure => simp [intOf]; omega
        · have H0 := Lib.hid h0
          clear h0
          go_wp2_with fail
          refine HC.out.mono ?_
          rintro e w4 ⟨o', t', he, hs, hf, mo, mt⟩
          rw [if_neg H0.out] at he
          subst he
          have HK4 := Lib.hid (HR.out.keep hs hf mo mt)
          have HS4 := Lib.hid hs
          have hout : lexS l = ((stepL s c).2, []) := by
            have e1 : runL ls0 l = stepL s c := by rw [HRUN2.out, runL, if_neg H0.out]
            unfold lexS
            rw [e1, if_neg H0.out]
          have HOUT := Lib.hid hout
          have hpq : p ≠ q := by
            have h1 := HK4.out.1.row
            rintro rfl
            rw [hs.b.row] at h1
            simp at h1
          have HB5 := Lib.hid (hs.b.off hpq (j := 0) .nilFunc)
          have HBB := Lib.hid (HK4.out.2.1.setCell (p := ⟨q, 0, none⟩) HR.out.ql .nilFunc)
          clear hs hf mo mt hout
          obtain ⟨d0, d1, d2, d3, d4, y0, y1, y2, y3, y4⟩ := HB5.out.at
          have q0 := HK4.out.1.cell
          have q1 := HK4.out.1.free
          have hn0 := H0.out
          generalize (stepL s c).2 = n at *
          have gn : ¬ (n : Int) = 0 := by omega
          have gn2 : ((n : Int) != 0) = true := by simpa using hn0
          go_wp2_with fail
          go_quiet (fail)
          go_wp2_with fail
          refine bodyPost_ret (v := .tuple #[.slice none 0 0, .int .i64 (n : Int)]) (by simp [results, Tryz.results16, go_sem]) rfl ?_
          rw [HOUT.out]
          exact ⟨_, rfl, ownT_nil _ _, below_drewN HBB.out _⟩
      · have hc2 := quoted_any p o t s c hc HR.out.fit.tb (by omega) htl2 wr HR.out.k
        have e : quoS s c = stepL s c := by unfold stepL; rw [hm]
        rw [e] at hc2
        rw [hm] at r0
        unfold mdV at r0
        have HC := Lib.hid hc2
        clear hc2 e hm
        by_cases h0 : (stepL s c).2 = 0
        · have H0 := Lib.hid h0
          clear h0
          go_wp2_with fail
          refine HC.out.mono ?_
          rintro e w4 ⟨o', t', he, hs, hf, mo, mt⟩
          rw [if_pos H0.out] at he
          subst he
          rw [H0.out] at hs
          have HR4 := Lib.hid (HR.out.keep hs hf mo mt).1
          have HR5 := Lib.hid (HR.out.step hs hf mo mt (HFS.out H0.out) HST.out.1)
          clear hs hf mo mt
          go_wp2_with fail
          rw [HR4.out.store (mdV_one _)]
          obtain ⟨d0, d1, d2, d3, d4, y0, y1, y2, y3, y4⟩ := HR5.out.k.b.at
          generalize w4.setCell ⟨q, 0, none⟩ (mdV (stepL s c).1.m) = w5 at *
          go_wp2_with fail
          go_roundw
          case rel => exact ⟨kk + 1, (stepL s c).1, o', t', by omega, by go_num, HR5.out, by rw [HRUN2.out, runL, if_pos H0.out], by have := HST.out.2.1; have := HOL.out; omega, by have := HST.out.2.2; have := HTL.out; omega⟩
          case measure => simp [intOf]; omega
        · have H0 := Lib.hid h0
          clear h0
          go_wp2_with fail
          refine HC.out.mono ?_
          rintro e w4 ⟨o', t', he, hs, hf, mo, mt⟩
          rw [if_neg H0.out] at he
          subst he
          have HK4 := Lib.hid (HR.out.keep hs hf mo mt)
          have HS4 := Lib.hid hs
          have hout : lexS l = ((stepL s c).2, []) := by
            have e1 : runL ls0 l = stepL s c := by rw [HRUN2.out, runL, if_neg H0.out]
            unfold lexS
            rw [e1, if_neg H0.out]
          have HOUT := Lib.hid hout
          have hpq : p ≠ q := by
            have h1 := HK4.out.1.row
            rintro rfl
            rw [hs.b.row] at h1
            simp at h1
          have HB5 := Lib.hid (hs.b.off hpq (j := 0) .nilFunc)
          have HBB := Lib.hid (HK4.out.2.1.setCell (p := ⟨q, 0, none⟩) HR.out.ql .nilFunc)
          clear hs hf mo mt hout
          obtain ⟨d0, d1, d2, d3, d4, y0, y1, y2, y3, y4⟩ := HB5.out.at
          have q0 := HK4.out.1.cell
          have q1 := HK4.out.1.free
          have hn0 := H0.out
          generalize (stepL s c).2 = n at *
          have gn : ¬ (n : Int) = 0 := by omega
          have gn2 : ((n : Int) != 0) = true := by simpa using hn0
          go_wp2_with fail
          go_quiet (fail)
          go_wp2_with fail
          refine bodyPost_ret (v := .tuple #[.slice none 0 0, .int .i64 (n : Int)]) (by simp [results, Tryz.results16, go_sem]) rfl ?_
          rw [HOUT.out]
          exact ⟨_, rfl, ownT_nil _ _, below_drewN HBB.out _⟩
      · have hc2 := escaped_any p o t s c hc HR.out.fit.tb (by omega) htl2 wr HR.out.k
        have e : escS s c = stepL s c := by unfold stepL; rw [hm]
        rw [e] at hc2
        rw [hm] at r0
        unfold mdV at r0
        have HC := Lib.hid hc2
        clear hc2 e hm
        by_cases h0 : (stepL s c).2 = 0
        · have H0 := Lib.hid h0
          clear h0
          go_wp2_with fail
          refine HC.out.mono ?_
          rintro e w4 ⟨o', t', he, hs, hf, mo, mt⟩
          rw [if_pos H0.out] at he
          subst he
          rw [H0.out] at hs
          have HR4 := Lib.hid (HR.out.keep hs hf mo mt).1
          have HR5 := Lib.hid (HR.out.step hs hf mo mt (HFS.out H0.out) HST.out.1)
          clear hs hf mo mt
          go_wp2_with fail
          rw [HR4.out.store (mdV_one _)]
          obtain ⟨d0, d1, d2, d3, d4, y0, y1, y2, y3, y4⟩ := HR5.out.k.b.at
          generalize w4.setCell ⟨q, 0, none⟩ (mdV (stepL s c).1.m) = w5 at *
          go_wp2_with fail
          go_roundw
          case rel => exact ⟨kk + 1, (stepL s c).1, o', t', by omega, by go_num, HR5.out, by rw [HRUN2.out, runL, if_pos H0.out], by have := HST.out.2.1; have := HOL.out; omega, by have := HST.out.2.2; have := HTL.out; omega⟩
          case measure => simp [intOf]; omega
        · have H0 := Lib.hid h0
          clear h0
          go_wp2_with fail
          refine HC.out.mono ?_
          rintro e w4 ⟨o', t', he, hs, hf, mo, mt⟩
          rw [if_neg H0.out] at he
          subst he
          have HK4 := Lib.hid (HR.out.keep hs hf mo mt)
          have HS4 := Lib.hid hs
          have hout : lexS l = ((stepL s c).2, []) := by
            have e1 : runL ls0 l = stepL s c := by rw [HRUN2.out, runL, if_neg H0.out]
            unfold lexS
            rw [e1, if_neg H0.out]
          have HOUT := Lib.hid hout
          have hpq : p ≠ q := by
            have h1 := HK4.out.1.row
            rintro rfl
            rw [hs.b.row] at h1
            simp at h1
          have HB5 := Lib.hid (hs.b.off hpq (j := 0) .nilFunc)
          have HBB := Lib.hid (HK4.out.2.1.setCell (p := ⟨q, 0, none⟩) HR.out.ql .nilFunc)
          clear hs hf mo mt hout
          obtain ⟨d0, d1, d2, d3, d4, y0, y1, y2, y3, y4⟩ := HB5.out.at
          have q0 := HK4.out.1.cell
          have q1 := HK4.out.1.free
          have hn0 := H0.out
          generalize (stepL s c).2 = n at *
          have gn : ¬ (n : Int) = 0 := by omega
          have gn2 : ((n : Int) != 0) = true := by simpa using hn0
          go_wp2_with fail
          go_quiet (fail)
          go_wp2_with fail
          refine bodyPost_ret (v := .tuple #[.slice none 0 0, .int .i64 (n : Int)]) (by simp [results, Tryz.results16, go_sem]) rfl ?_
          rw [HOUT.out]
          exact ⟨_, rfl, ownT_nil _ _, below_drewN HBB.out _⟩
      · have hc2 := size_any p o t s c hc HR.out.fit.tb (by omega) htl2 wr HR.out.k
        have e : sizS s c = stepL s c := by unfold stepL; rw [hm]
        rw [e] at hc2
        rw [hm] at r0
        unfold mdV at r0
        have HC := Lib.hid hc2
        clear hc2 e hm
        by_cases h0 : (stepL s c).2 = 0
        · have H0 := Lib.hid h0
          clear h0
          go_wp2_with fail
          refine HC.out.mono ?_
          rintro e w4 ⟨o', t', he, hs, hf, mo, mt⟩
          rw [if_pos H0.out] at he
          subst he
          rw [H0.out] at hs
          have HR4 := Lib.hid (HR.out.keep hs hf mo mt).1
          have HR5 := Lib.hid (HR.out.step hs hf mo mt (HFS.out H0.out) HST.out.1)
          clear hs hf mo mt
          go_wp2_with fail
          rw [HR4.out.store (mdV_one _)]
          obtain ⟨d0, d1, d2, d3, d4, y0, y1, y2, y3, y4⟩ := HR5.out.k.b.at
          generalize w4.setCell ⟨q, 0, none⟩ (mdV (stepL s c).1.m) = w5 at *
          go_wp2_with fail
          go_roundw
          case rel => exact ⟨kk + 1, (stepL s c).1, o', t', by omega, by go_num, HR5.out, by rw [HRUN2.out, runL, if_pos H0.out], by have := HST.out.2.1; have := HOL.out; omega, by have := HST.out.2.2; have := HTL.out; omega⟩
          case measure => simp [intOf]; omega
        · have H0 := Lib.hid h0
          clear h0
          go_wp2_with fail
          refine HC.out.mono ?_
          rintro e w4 ⟨o', t', he, hs, hf, mo, mt⟩
          rw [if_neg H0.out] at he
          subst he
          have HK4 := Lib.hid (HR.out.keep hs hf mo mt)
          have HS4 := Lib.hid hs
          have hout : lexS l = ((stepL s c).2, []) := by
            have e1 : runL ls0 l = stepL s c := by rw [HRUN2.out, runL, if_neg H0.out]
            unfold lexS
            rw [e1, if_neg H0.out]
          have HOUT := Lib.hid hout
          have hpq : p ≠ q := by
            have h1 := HK4.out.1.row
            rintro rfl
            rw [hs.b.row] at h1
            simp at h1
          have HB5 := Lib.hid (hs.b.off hpq (j := 0) .nilFunc)
          have HBB := Lib.hid (HK4.out.2.1.setCell (p := ⟨q, 0, none⟩) HR.out.ql .nilFunc)
          clear hs hf mo mt hout
          obtain ⟨d0, d1, d2, d3, d4, y0, y1, y2, y3, y4⟩ := HB5.out.at
          have q0 := HK4.out.1.cell
          have q1 := HK4.out.1.free
          have hn0 := H0.out
          generalize (stepL s c).2 = n at *
          have gn : ¬ (n : Int) = 0 := by omega
          have gn2 : ((n : Int) != 0) = true := by simpa using hn0
          go_wp2_with fail
          go_quiet (fail)
          go_wp2_with fail
          refine bodyPost_ret (v := .tuple #[.slice none 0 0, .int .i64 (n : Int)]) (by simp [results, Tryz.results16, go_sem]) rfl ?_
          rw [HOUT.out]
          exact ⟨_, rfl, ownT_nil _ _, below_drewN HBB.out _⟩
      · have hc2 := carriage_any p o t s c hc HR.out.fit.tb (by omega) htl2 wr HR.out.k
        have e : carS s c = stepL s c := by unfold stepL; rw [hm]
        rw [e] at hc2
        rw [hm] at r0
        unfold mdV at r0
        have HC := Lib.hid hc2
        clear hc2 e hm
        by_cases h0 : (stepL s c).2 = 0
        · have H0 := Lib.hid h0
          clear h0
          go_wp2_with fail
          refine HC.out.mono ?_
          rintro e w4 ⟨o', t', he, hs, hf, mo, mt⟩
          rw [if_pos H0.out] at he
          subst he
          rw [H0.out] at hs
          have HR4 := Lib.hid (HR.out.keep hs hf mo mt).1
          have HR5 := Lib.hid (HR.out.step hs hf mo mt (HFS.out H0.out) HST.out.1)
          clear hs hf mo mt
          go_wp2_with fail
          rw [HR4.out.store (mdV_one _)]
          obtain ⟨d0, d1, d2, d3, d4, y0, y1, y2, y3, y4⟩ := HR5.out.k.b.at
          generalize w4.setCell ⟨q, 0, none⟩ (mdV (stepL s c).1.m) = w5 at *
          go_wp2_with fail
          go_roundw
          case rel => exact ⟨kk + 1, (stepL s c).1, o', t', by omega, by go_num, HR5.out, by rw [HRUN2.out, runL, if_pos H0.out], by have := HST.out.2.1; have := HOL.out; omega, by have := HST.out.2.2; have := HTL.out; omega⟩
          case measure => simp [intOf]; omega
        · have H0 := Lib.hid h0
          clear h0
          go_wp2_with fail
          refine HC.out.mono ?_
          rintro e w4 ⟨o', t', he, hs, hf, mo, mt⟩
          rw [if_neg H0.out] at he
          subst he
          have HK4 := Lib.hid (HR.out.keep hs hf mo mt)
          have HS4 := Lib.hid hs
          have hout : lexS l = ((stepL s c).2, []) := by
            have e1 : runL ls0 l = stepL s c := by rw [HRUN2.out, runL, if_neg H0.out]
            unfold lexS
            rw [e1, if_neg H0.out]
          have HOUT := Lib.hid hout
          have hpq : p ≠ q := by
            have h1 := HK4.out.1.row
            rintro rfl
            rw [hs.b.row] at h1
            simp at h1
          have HB5 := Lib.hid (hs.b.off hpq (j := 0) .nilFunc)
          have HBB := Lib.hid (HK4.out.2.1.setCell (p := ⟨q, 0, none⟩) HR.out.ql .nilFunc)
          clear hs hf mo mt hout
          obtain ⟨d0, d1, d2, d3, d4, y0, y1, y2, y3, y4⟩ := HB5.out.at
          have q0 := HK4.out.1.cell
          have q1 := HK4.out.1.free
          have hn0 := H0.out
          generalize (stepL s c).2 = n at *
          have gn : ¬ (n : Int) = 0 := by omega
          have gn2 : ((n : Int) != 0) = true := by simpa using hn0
          go_wp2_with fail
          go_quiet (fail)
          go_wp2_with fail
          refine bodyPost_ret (v := .tuple #[.slice none 0 0, .int .i64 (n : Int)]) (by simp [results, Tryz.results16, go_sem]) rfl ?_
          rw [HOUT.out]
          exact ⟨_, rfl, ownT_nil _ _, below_drewN HBB.out _⟩
      · have hc2 := feed_any p o t s c hc HR.out.fit.tb (by omega) htl2 (HR.out.fit.dg (.inr (.inr hm))) (HR.out.fit.ne (.inr hm)) wr hrv HR.out.k
        have e : feeS s c = stepL s c := by unfold stepL; rw [hm]
        rw [e] at hc2
        rw [hm] at r0
        unfold mdV at r0
        have HC := Lib.hid hc2
        clear hc2 e hm
        by_cases h0 : (stepL s c).2 = 0
        · have H0 := Lib.hid h0
          clear h0
          go_wp2_with fail
          refine HC.out.mono ?_
          rintro e w4 ⟨o', t', he, hs, hf, mo, mt⟩
          rw [if_pos H0.out] at he
          subst he
          rw [H0.out] at hs
          have HR4 := Lib.hid (HR.out.keep hs hf mo mt).1
          have HR5 := Lib.hid (HR.out.step hs hf mo mt (HFS.out H0.out) HST.out.1)
          clear hs hf mo mt
          go_wp2_with fail
          rw [HR4.out.store (mdV_one _)]
          obtain ⟨d0, d1, d2, d3, d4, y0, y1, y2, y3, y4⟩ := HR5.out.k.b.at
          generalize w4.setCell ⟨q, 0, none⟩ (mdV (stepL s c).1.m) = w5 at *
          go_wp2_with fail
          go_roundw
          case rel => exact ⟨kk + 1, (stepL s c).1, o', t', by omega, by go_num, HR5.out, by rw [HRUN2.out, runL, if_pos H0.out], by have := HST.out.2.1; have := HOL.out; omega, by have := HST.out.2.2; have := HTL.out; omega⟩
          case measure => simp [intOf]; omega
        · have H0 := Lib.hid h0
          clear h0
          go_wp2_with fail
          refine HC.out.mono ?_
          rintro e w4 ⟨o', t', he, hs, hf, mo, mt⟩
          rw [if_neg H0.out] at he
          subst he
          have HK4 := Lib.hid (HR.out.keep hs hf mo mt)
          have HS4 := Lib.hid hs
          have hout : lexS l = ((stepL s c).2, []) := by
            have e1 : runL ls0 l = stepL s c := by rw [HRUN2.out, runL, if_neg H0.out]
            unfold lexS
            rw [e1, if_neg H0.out]
          have HOUT := Lib.hid hout
          have hpq : p ≠ q := by
            have h1 := HK4.out.1.row
            rintro rfl
            rw [hs.b.row] at h1
            simp at h1
          have HB5 := Lib.hid (hs.b.off hpq (j := 0) .nilFunc)
          have HBB := Lib.hid (HK4.out.2.1.setCell (p := ⟨q, 0, none⟩) HR.out.ql .nilFunc)
          clear hs hf mo mt hout
          obtain ⟨d0, d1, d2, d3, d4, y0, y1, y2, y3, y4⟩ := HB5.out.at
          have q0 := HK4.out.1.cell
          have q1 := HK4.out.1.free
          have hn0 := H0.out
          generalize (stepL s c).2 = n at *
          have gn : ¬ (n : Int) = 0 := by omega
          have gn2 : ((n : Int) != 0) = true := by simpa using hn0
          go_wp2_with fail
          go_quiet (fail)
          go_wp2_with fail
          refine bodyPost_ret (v := .tuple #[.slice none 0 0, .int .i64 (n : Int)]) (by simp [results, Tryz.results16, go_sem]) rfl ?_
          rw [HOUT.out]
          exact ⟨_, rfl, ownT_nil _ _, below_drewN HBB.out _⟩
      · have hc2 := literal_any p o t s c hc HR.out.fit.tb (by omega) htl2 (HR.out.fit.lt hm) HLEF.out wr HR.out.k
        have e : litS s c = stepL s c := by unfold stepL; rw [hm]
        rw [e] at hc2
        rw [hm] at r0
        unfold mdV at r0
        have HC := Lib.hid hc2
        clear hc2 e hm
        by_cases h0 : (stepL s c).2 = 0
        · have H0 := Lib.hid h0
          clear h0
          go_wp2_with fail
          refine HC.out.mono ?_
          rintro e w4 ⟨o', t', he, hs, hf, mo, mt⟩
          rw [if_pos H0.out] at he
          subst he
          rw [H0.out] at hs
          have HR4 := Lib.hid (HR.out.keep hs hf mo mt).1
          have HR5 := Lib.hid (HR.out.step hs hf mo mt (HFS.out H0.out) HST.out.1)
          clear hs hf mo mt
          go_wp2_with fail
          rw [HR4.out.store (mdV_one _)]
          obtain ⟨d0, d1, d2, d3, d4, y0, y1, y2, y3, y4⟩ := HR5.out.k.b.at
          generalize w4.setCell ⟨q, 0, none⟩ (mdV (stepL s c).1.m) = w5 at *
          go_wp2_with fail
          go_roundw
          case rel => exact ⟨kk + 1, (stepL s c).1, o', t', by omega, by go_num, HR5.out, by rw [HRUN2.out, runL, if_pos H0.out], by have := HST.out.2.1; have := HOL.out; omega, by have := HST.out.2.2; have := HTL.out; omega⟩
          case measure => simp [intOf]; omega
        · have H0 := Lib.hid h0
          clear h0
          go_wp2_with fail
          refine HC.out.mono ?_
          rintro e w4 ⟨o', t', he, hs, hf, mo, mt⟩
          rw [if_neg H0.out] at he
          subst he
          have HK4 := Lib.hid (HR.out.keep hs hf mo mt)
          have HS4 := Lib.hid hs
          have hout : lexS l = ((stepL s c).2, []) := by
            have e1 : runL ls0 l = stepL s c := by rw [HRUN2.out, runL, if_neg H0.out]
            unfold lexS
            rw [e1, if_neg H0.out]
          have HOUT := Lib.hid hout
          have hpq : p ≠ q := by
            have h1 := HK4.out.1.row
            rintro rfl
            rw [hs.b.row] at h1
            simp at h1
          have HB5 := Lib.hid (hs.b.off hpq (j := 0) .nilFunc)
          have HBB := Lib.hid (HK4.out.2.1.setCell (p := ⟨q, 0, none⟩) HR.out.ql .nilFunc)
          clear hs hf mo mt hout
          obtain ⟨d0, d1, d2, d3, d4, y0, y1, y2, y3, y4⟩ := HB5.out.at
          have q0 := HK4.out.1.cell
          have q1 := HK4.out.1.free
          have hn0 := H0.out
          generalize (stepL s c).2 = n at *
          have gn : ¬ (n : Int) = 0 := by omega
          have gn2 : ((n : Int) != 0) = true := by simpa using hn0
          go_wp2_with fail
          go_quiet (fail)
          go_wp2_with fail
          refine bodyPost_ret (v := .tuple #[.slice none 0 0, .int .i64 (n : Int)]) (by simp [results, Tryz.results16, go_sem]) rfl ?_
          rw [HOUT.out]
          exact ⟨_, rfl, ownT_nil _ _, below_drewN HBB.out _⟩
    · obtain rfl : kk = l.length := by omega
      have hrun2 : runL ls0 l = (s, 0) := by rw [HRUN.out, List.drop_length]; rfl
      have hout : lexS l = finL s := by unfold lexS; rw [hrun2, if_pos rfl]
      have HOUT := Lib.hid hout
      clear hrun2 hout HRUN hlt
      obtain ⟨ta, tc, ht⟩ := HR.out.k.tx.shape
      subst ht
      cases hop : s.op
      · rw [hop] at c3
        by_cases htx : s.text = []
        · have hl0 : s.text.length = 0 := by rw [htx]; rfl
          rw [hl0] at c1
          have hfin : finL s = (0, s.out) := by unfold finL; rw [hop, if_neg (by decide), if_pos htx]
          have HFIN := Lib.hid hfin
          clear hfin htx hop hl0
          go_wp2_with fail
          refine bodyPost_ret (v := .tuple #[o, .int .i64 0]) (by simp [results, Tryz.results16, go_sem]) rfl ?_
          rw [HOUT.out, HFIN.out]
          exact ⟨_, rfl, HR.out.k.ot.base HR.out.lo, HR.out.b⟩
        · have hl0 : (0 : Int) < (s.text.length : Int) := by
            cases hx : s.text with
            | nil => exact absurd hx htx
            | cons => simp only [List.length_cons]; omega
          have hfin : finL s = (0, s.out ++ [(1, s.text)]) := by unfold finL; rw [hop, if_neg (by decide), if_neg htx]
          have HFIN := Lib.hid hfin
          clear hfin htx hop
          go_wp2_with fail
          refine (tell_any p _ _ s 1 HR.out.fit.tb (by omega) wr HR.out.k).mono ?_
          rintro e w4 ⟨o', t', he, hs, hf, mo, mt⟩
          obtain rfl : e = .returned (.agg #[mdV .btw]) := he
          obtain ⟨_, hb4, hlo, _⟩ := HR.out.keep hs hf mo mt
          have HS4 := Lib.hid hs
          have HB4 := Lib.hid hb4
          have HLO := Lib.hid hlo
          obtain ⟨d0, d1, d2, d3, d4, y0, y1, y2, y3, y4⟩ := hs.b.at
          clear hs hf mo mt hb4 hlo
          go_wp2_with fail
          refine bodyPost_ret (v := .tuple #[o', .int .i64 0]) (by simp [results, Tryz.results16, go_sem]) rfl ?_
          rw [HOUT.out, HFIN.out]
          exact ⟨_, rfl, HS4.out.ot.base HLO.out, HB4.out⟩
      · rw [hop] at c3
        have hfin : finL s = (8, []) := by unfold finL; rw [hop]; rfl
        have HFIN := Lib.hid hfin
        clear hfin hop
        go_wp2_with fail
        refine bodyPost_ret (v := .tuple #[.slice none 0 0, .int .i64 8]) (by simp [results, Tryz.results16, go_sem]) rfl ?_
        rw [HOUT.out, HFIN.out]
        exact ⟨_, rfl, ownT_nil _ _, HR.out.b⟩
end Go.Proofs.YtghibofnfjnfcaaGreatDoor
