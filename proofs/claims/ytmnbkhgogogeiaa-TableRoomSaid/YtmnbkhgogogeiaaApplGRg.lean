/-
  apply, of any changes on any table.
-/
import Derived.Test.YtmnbkhgogogeiaaRg19
import Derived.Test.YtmnbkhgogogeiaaInsGRg
import Derived.BigRegion
namespace Go.Proofs.Ytmnbkhgogogeiaa
set_option linter.unusedVariables false
open Go.RowKit

theorem doneP_take (P : List KV) (C : List Chg) (k : Nat) (h : k < C.length) : doneP P (C.take (k + 1)) = putP (doneP P (C.take k)) C[k] := by
  unfold doneP
  rw [List.take_succ_eq_append_getElem h, List.foldl_append]
  rfl
theorem putP_00 {Q : List KV} {key val : List Nat} {sc : Nat} (h : scanL Q key = sc) (hz : ¬ Q[sc]?.map (·.1) = some key) : putP Q ⟨key, val, false⟩ = Q.take sc ++ (key, val) :: Q.drop sc := by
  subst h
  simp only [putP]
  rw [if_neg hz]
  rfl
theorem putP_01 {Q : List KV} {key val : List Nat} {sc : Nat} (h : scanL Q key = sc) (hz : Q[sc]?.map (·.1) = some key) : putP Q ⟨key, val, false⟩ = Q.set sc (key, val) := by
  subst h
  simp only [putP]
  rw [if_pos hz]
  rfl
theorem putP_10 {Q : List KV} {key val : List Nat} {sc : Nat} (h : scanL Q key = sc) (hz : ¬ Q[sc]?.map (·.1) = some key) : putP Q ⟨key, val, true⟩ = Q := by
  subst h
  simp only [putP]
  rw [if_neg hz]
  rfl
theorem putP_11 {Q : List KV} {key val : List Nat} {sc : Nat} (h : scanL Q key = sc) (hz : Q[sc]?.map (·.1) = some key) : putP Q ⟨key, val, true⟩ = Q.take sc ++ Q.drop (sc + 1) := by
  subst h
  simp only [putP]
  rw [if_pos hz]
  rfl
theorem there_lt {Q : List KV} {key : List Nat} {sc : Nat} (hz : Q[sc]?.map (·.1) = some key) : ∃ h : sc < Q.length, Q[sc].1 = key := by
  by_cases h : sc < Q.length
  · refine ⟨h, ?_⟩
    rw [List.getElem?_eq_getElem h] at hz
    simpa using hz
  · rw [List.getElem?_eq_none (by omega)] at hz
    simp at hz

set_option maxRecDepth 100000 in
set_option maxHeartbeats 8000000 in
theorem apply_any {B : Nat} {w0 w : World} {pt pl pd : Nat} {kv : Value} {ring u sec : Nat} {P : List KV} (h : Tb B w0 w pt pl pd kv ring u sec P) (hS : SortP P) {ov : Value} {L : List Ch} (ho : ChR w B ov L) (hB : B ≤ w.heap.size)
    (hlen : P.length + L.length ≤ 10000) :
    Calls Try.prog 29 #[.pointer (some ⟨pt, 0, none⟩), ov] w fun e w' => e = .returned (.tuple #[]) ∧ Tb B w0 w' pt pl pd kv ring u sec (doneP P (L.map Ch.of)) ∧ LT w w' := by
  obtain ⟨oa, oc, rfl⟩ := own_shape ho.row
  have HH := Lib.hid h
  have HO := Lib.hid ho
  have HS := Lib.hid hS
  have HLN := Lib.hid (And.intro hlen hB)
  have hml : L.length ≤ 9223372036854775807 := by omega
  clear h ho hS hlen
  go_enter Try.func29, Try.ntmps29
  go_wp2_with fail
  go_loopw [10] (fun i wr => ∃ k : Nat, k ≤ L.length ∧ i = .int .i64 (k : Nat) ∧ Tb B w0 wr pt pl pd kv ring u sec (doneP P ((L.map Ch.of).take k)) ∧ LT w wr) (fun i _ => L.length - (RowKit.intOf i).toNat)
  case atStart => exact ⟨0, Nat.zero_le _, rfl, by simpa [doneP] using HH.out, LT.refl _⟩
  case round =>
    obtain ⟨k, hk, rfl, htb, hlt⟩ := hrel
    have HLT := Lib.hid hlt
    by_cases hkn : k < L.length
    · have hkz : (k : Int) < (L.length : Int) := by omega
      have hor := HO.out.lt hlt
      obtain ⟨g, cap, e, hcap, c0, c1, c2⟩ := hor.at k hkn
      obtain ⟨rfl, -, rfl⟩ := Value.slice.inj e
      obtain ⟨x, hx⟩ : ∃ x, L[k] = x := ⟨_, rfl⟩
      obtain ⟨o1, o2, o3, o4⟩ := hor.own _ (List.getElem_mem hkn)
      rw [hx] at c0 c1 c2 o1 o2 o3 o4
      have HNX : Hid (doneP P ((L.map Ch.of).take (k + 1)) = putP (doneP P ((L.map Ch.of).take k)) x.of) := Lib.hid (by rw [doneP_take _ _ _ (by simpa using hkn), List.getElem_map, hx])
      obtain ⟨xk, xv, key, val, drop⟩ := x
      simp only at c0 c1 c2 o1 o2 o3 o4
      obtain ⟨ka, kc, rfl⟩ := o1.shape
      obtain ⟨va, vc, rfl⟩ := o2.shape
      have HX : Hid (OwnB wr B (.slice ka key.length kc) key ∧ OwnB wr B (.slice va val.length vc) val ∧ (∀ n ∈ key, n < 256) ∧ ∀ n ∈ val, n < 256) := Lib.hid ⟨o1, o2, o3, o4⟩
      have HKN := Lib.hid hkn
      have HTB := Lib.hid htb
      have hkc : (k : Int) < (oc : Int) := by omega
      clear htb hlt hor o1 o2 o3 o4 e hx
      obtain ⟨Q, hQ⟩ : ∃ Q, doneP P ((L.map Ch.of).take k) = Q := ⟨_, rfl⟩
      have HQL : Hid (Q.length ≤ 10000 ∧ SortP Q) := Lib.hid (by
        have := HLN.out.1
        have h2 := doneP_length ((L.map Ch.of).take k) P
        rw [hQ] at h2
        rw [List.length_take, List.length_map] at h2
        refine ⟨by omega, ?_⟩
        rw [← hQ]
        exact doneP_sort _ HS.out)
      rw [hQ] at HTB HNX
      clear hQ
      go_upto_region 3 with (fail)
      have hA5 : Below wr.heap.size wr (wr.alloc (.cells #[.slice ka key.length kc, .slice va val.length vc, .bool drop] 35)) := (Below.refl _ _).alloc (Nat.le_refl _) _
      have HX5 := Lib.hid (heap_alloc_new wr (.cells #[.slice ka key.length kc, .slice va val.length vc, .bool drop] 35))
      have HB5 := Lib.hid hA5
      clear c0 c1 c2 hA5
      generalize wr.alloc (.cells #[.slice ka key.length kc, .slice va val.length vc, .bool drop] 35) = w5 at *
      generalize hb5 : wr.heap.size = b5 at *
      have HE5 := Lib.hid hb5
      clear hb5
      obtain ⟨⟨s, S, W, hlg, hst⟩, ⟨cost, pv, L2, htv, hco, hpr, hm2⟩, hBp, hfu⟩ := HTB.out
      have hbw : Below wr.heap.size wr w5 := by rw [HE5.out]; exact HB5.out
      have HST := Lib.hid (And.intro (hlg.below hbw) (And.intro hst (And.intro hco (And.intro hBp hfu))))
      have HTV := Lib.hid (htv.below hbw)
      have HPR := Lib.hid (And.intro (hpr.below hbw) hm2)
      have HX5O : Hid (OwnB w5 B (.slice ka key.length kc) key ∧ OwnB w5 B (.slice va val.length vc) val ∧ (∀ n ∈ key, n < 256) ∧ ∀ n ∈ val, n < 256) := Lib.hid ⟨ownsRow_below HX.out.1 hbw, ownsRow_below HX.out.2.1 hbw, HX.out.2.2⟩
      have y0 := cell_of_row w5 b5 0 _ _ _ HX5.out
      simp only [List.getElem?_toArray, List.getElem?_cons_zero] at y0
      obtain ⟨sc, hsc⟩ : ∃ sc, scanL Q key = sc := ⟨_, rfl⟩
      have hscl : sc ≤ Q.length := by rw [← hsc]; exact scanL_le _ _
      have HPL := Lib.hid (place_any (P := Q) (key := key) HTV.out (by rw [← hm2]; exact HPR.out.1.pairV) (HX5O.out.1.rowB HX.out.2.2.1) (by have := HQL.out; omega) sc hscl (fun i hi => by
        rw [← hsc]
        exact HQL.out.2.scan key i hi))
      have HSC := Lib.hid (And.intro hsc hscl)
      have HL2 : Hid (L2.length = Q.length) := Lib.hid (by rw [← hm2]; simp)
      obtain ⟨z, hz⟩ : ∃ z, decide (Q[sc]?.map (·.1) = some key) = z := ⟨_, rfl⟩
      rw [hz] at HPL
      have HZQ := Lib.hid hz
      clear hlg hst htv hco hpr hm2 hBp hfu hbw hsc hscl hz
      go_upto_region 5 with (first | (go_at_call 36; refine HPL.out.mono ?_; rintro e w6 ⟨rfl, hb6⟩
                                      have hx6 := (hb6.block b5 (lt_of_block HX5.out)).trans HX5.out
                                      have HX6 := Lib.hid hx6
                                      have HB6 := Lib.hid hb6
                                      have z2 := cell_of_row w6 b5 2 _ _ _ hx6
                                      simp only [List.getElem?_toArray, List.getElem?_cons_zero, List.getElem?_cons_succ] at z2
                                      clear hb6 hx6))
      have hbw6 : Below wr.heap.size wr w6 := by rw [HE5.out]; exact HB5.out.trans (HB6.out.mono (by rw [← HE5.out]; exact HB5.out.size))
      have HW6 := Lib.hid hbw6
      have HX6O : Hid (OwnB w6 B (.slice ka key.length kc) key ∧ OwnB w6 B (.slice va val.length vc) val ∧ (∀ n ∈ key, n < 256) ∧ ∀ n ∈ val, n < 256) := Lib.hid ⟨ownsRow_below HX.out.1 hbw6, ownsRow_below HX.out.2.1 hbw6, HX.out.2.2⟩
      have HP6 := Lib.hid (HPR.out.1.below HB6.out)
      have HT6 := Lib.hid (HTV.out.below HB6.out)
      have HUP : Hid (∀ w7 pv' (L' : List Pr), Beside (fun k => pv.ownBlock = some k) w6 w7 → w7.ownsRow B 79 2 pv' L'.length (prC L') → (∀ x ∈ L', OwnB w6 B x.kv x.key ∧ OwnB w6 B x.vv x.val ∧ (∀ n ∈ x.key, n < 256) ∧ ∀ n ∈ x.val, n < 256) →
          Tb B w0 (w7.setCell ⟨pt, 3, none⟩ pv') pt pl pd kv ring u sec (L'.map Pr.of) ∧ LT w (w7.setCell ⟨pt, 3, none⟩ pv')) := Lib.hid fun w7 pv' L' h1 h2 h3 => by
        have hst := HST.out
        have := Tb.upd3 (hst.1.below HB6.out) hst.2.1 HT6.out hst.2.2.1 HP6.out hst.2.2.2.1 hst.2.2.2.2 h1 h2 h3
        exact ⟨this.1, (HLT.out.trans (Below.lt hbw6)).trans this.2⟩
      have HST6 : Hid (Tb B w0 w6 pt pl pd kv ring u sec Q ∧ LT w w6) := Lib.hid ⟨HTB.out.below hbw6, HLT.out.trans (Below.lt hbw6)⟩
      obtain ⟨pa, pc, hpv⟩ := own_shape HP6.out.row
      subst hpv
      have hBw6 : B ≤ w6.heap.size := Nat.le_trans (Nat.le_trans HLN.out.2 HLT.out.size) hbw6.size
      have HBW6 := Lib.hid hBw6
      clear hBw6 hbw6 HX5 HB5 HX5O y0 HPL HTV
      cases drop
      · cases z
        · have hzq := of_decide_eq_false HZQ.out
          have hbw6 : Below w6.heap.size w6 w6.drew := (Below.refl _ _).drew
          have x0 : w6.drew.cell? ⟨b5, 0, none⟩ = some (.slice ka key.length kc) := cell_of_row w6 b5 0 _ _ _ HX6.out
          have x1 : w6.drew.cell? ⟨b5, 1, none⟩ = some (.slice va val.length vc) := cell_of_row w6 b5 1 _ _ _ HX6.out
          have x3 : w6.drew.cell? ⟨pt, 3, none⟩ = some (.slice pa L2.length pc) := HT6.out.cells.2.2.2
          have HZ := Lib.hid (heap_alloc_new w6 (.cells #[.slice ka key.length kc, .slice va val.length vc] 79))
          have HBZ : Hid (Below w6.heap.size w6 (w6.alloc (.cells #[.slice ka key.length kc, .slice va val.length vc] 79))) := Lib.hid ((Below.refl _ _).alloc (Nat.le_refl _) _)
          have HPZ := Lib.hid (HP6.out.below HBZ.out)
          have HTZ := Lib.hid (HT6.out.below HBZ.out)
          have HNE : Hid ((Value.slice pa L2.length pc).ownBlock ≠ some w6.heap.size) := Lib.hid (fun e => by have := (World.ownsRow.lt HP6.out.row _ e).2; omega)
          have HIN := Lib.hid (ins_any (w := (w6.alloc (.cells #[.slice ka key.length kc, .slice va val.length vc] 79)).drew) (B := B) (pv := .slice pa L2.length pc) (L := L2) HPZ.out.row HPZ.out.one (Nat.le_trans HBW6.out HBZ.out.size) (by rw [HL2.out]; have := HQL.out.1; omega) (i := sc) (by rw [HL2.out]; exact HSC.out.2) (gk := w6.heap.size) (kv := .slice ka key.length kc) (vv := .slice va val.length vc) HZ.out HNE.out rfl rfl)
          have HFN : Hid (∀ a c w7, w7.ownsRow B 79 2 (.slice a (L2.length + 1) c) (L2.length + 1) (insC (prC L2) sc [.slice ka key.length kc, .slice va val.length vc]) → Beside (fun k => (Value.slice pa L2.length pc).ownBlock = some k) (w6.alloc (.cells #[.slice ka key.length kc, .slice va val.length vc] 79)).drew w7 →
              Tb B w0 (w7.setCell ⟨pt, 3, none⟩ (.slice a (L2.length + 1) c)) pt pl pd kv ring u sec (putP Q (Ch.of ⟨.slice ka key.length kc, .slice va val.length vc, key, val, false⟩)) ∧ LT w (w7.setCell ⟨pt, 3, none⟩ (.slice a (L2.length + 1) c))) := Lib.hid fun a c w7 h1 h2 => by
            have hsl := HSC.out.2
            have hl2 := HL2.out
            have hlen : (L2.take sc ++ (⟨.slice ka key.length kc, .slice va val.length vc, key, val⟩ : Pr) :: L2.drop sc).length = L2.length + 1 := by simp; omega
            have hbs : Beside (fun k => (Value.slice pa L2.length pc).ownBlock = some k) w6 w7 := Beside.trans (b := (w6.alloc (.cells #[.slice ka key.length kc, .slice va val.length vc] 79)).drew) (((Beside.refl _ w6).alloc _).drew) h2
            have := HUP.out w7 (.slice a (L2.length + 1) c) (L2.take sc ++ (⟨.slice ka key.length kc, .slice va val.length vc, key, val⟩ : Pr) :: L2.drop sc) hbs (by rw [hlen, prC_ins]; exact h1) (fun x hx => by
              rcases List.mem_append.1 hx with h | h
              · exact HP6.out.own x (List.mem_of_mem_take h)
              · rcases List.mem_cons.1 h with rfl | h
                · exact HX6O.out
                · exact HP6.out.own x (List.mem_of_mem_drop h))
            have e : (L2.take sc ++ (⟨.slice ka key.length kc, .slice va val.length vc, key, val⟩ : Pr) :: L2.drop sc).map Pr.of = putP Q (Ch.of ⟨.slice ka key.length kc, .slice va val.length vc, key, val, false⟩) := by
              rw [List.map_append, List.map_cons, List.map_take, List.map_drop, HPR.out.2]
              exact (putP_00 HSC.out.1 hzq).symm
            rw [e] at this
            exact this
          have HRN : Hid (∀ w7, Beside (fun k => (Value.slice pa L2.length pc).ownBlock = some k) (w6.alloc (.cells #[.slice ka key.length kc, .slice va val.length vc] 79)).drew w7 → TbV w7 pt (.pointer (some ⟨pl, 0, none⟩)) sec cost (.slice pa L2.length pc)) := Lib.hid fun w7 h2 =>
            (h2.block pt (lt_of_block HTZ.out) (fun e => ownsRow_ne HPZ.out.row HTZ.out (by decide) pt e rfl)).trans HTZ.out
          have xz3 : (w6.alloc (.cells #[.slice ka key.length kc, .slice va val.length vc] 79)).drew.cell? ⟨pt, 3, none⟩ = some (.slice pa L2.length pc) := HTZ.out.cells.2.2.2
          clear hbw6 hzq
          go_upto_region 4 with (fail)
          go_region_law (first
            | (go_simp; go_at_call 59; refine HIN.out.mono ?_; rintro e w7 ⟨a7, c7, rfl, ho7, hb7⟩
               have ht7 := HRN.out _ hb7
               have u3 := ht7.cells.2.2.2
               have fu3 := ht7.free 3
               have HO7 := Lib.hid ho7
               have HB7 := Lib.hid hb7
               clear ho7 hb7 ht7))
          all_goals
            go_wp2_with fail
            go_roundw
            case rel => exact ⟨k + 1, HKN.out, by go_num, by rw [HNX.out]; exact (HFN.out _ _ _ HO7.out HB7.out).1, (HFN.out _ _ _ HO7.out HB7.out).2⟩
            case measure => simp [intOf]; omega
        · have hzq := of_decide_eq_true HZQ.out
          obtain ⟨hsl, hkey⟩ := there_lt hzq
          have hsl2 : sc < L2.length := by rw [HL2.out]; exact hsl
          obtain ⟨pg, rfl, hgc, hgf, hgb⟩ : ∃ pg, pa = some ⟨pg, 0, none⟩ ∧ (∃ u, w6.cell? ⟨pg, sc * 2 + 1, none⟩ = some u) ∧ w6.frozen? ⟨pg, sc * 2 + 1, none⟩ = false ∧ (w6.setCell ⟨pg, sc * 2 + 1, none⟩ (.slice va val.length vc)).ownsRow B 79 2 (.slice (some ⟨pg, 0, none⟩) L2.length pc) L2.length ((prC L2).set (sc * 2 + 1) (.slice va val.length vc)) := by
            rcases HP6.out.row.2 with ⟨e, h1⟩ | ⟨g, cap, cur, e, hb, hh, hc, hmx, hs, ht⟩
            · omega
            · obtain ⟨rfl, -, rfl⟩ := Value.slice.inj e
              refine ⟨g, rfl, ⟨cur[sc * 2 + 1], by rw [cell_of_row _ _ _ _ 79 (0, 0) hh, Array.getElem?_eq_getElem (by omega)]⟩, by simp [World.frozen?, hh], ?_⟩
              refine ⟨by rw [List.length_set, prC_length], .inr ⟨g, pc, cur.setIfInBounds (sc * 2 + 1) (.slice va val.length vc), rfl, hb, heap_setCell_same w6 g (sc * 2 + 1) cur 79 _ hh, hc, hmx, by simpa using hs, ?_⟩⟩
              rw [← ht, Array.toList_setIfInBounds, List.take_set]
          obtain ⟨pu, hpu⟩ := hgc
          obtain ⟨x2, hx2⟩ : ∃ x2, L2[sc] = x2 := ⟨_, rfl⟩
          have hx2o := HP6.out.own x2 (by rw [← hx2]; exact List.getElem_mem hsl2)
          have hxk : x2.key = key := by
            have e : (L2.map Pr.of)[sc]'(by simpa using hsl2) = Q[sc] := by simp only [HPR.out.2]
            rw [List.getElem_map, hx2] at e
            have := congrArg Prod.fst e
            rw [hkey] at this
            exact this
          have hl2 : (L2.set sc ⟨x2.kv, .slice va val.length vc, key, val⟩).length = L2.length := by simp
          have HFN : Hid (Tb B w0 (w6.setCell ⟨pg, sc * 2 + 1, none⟩ (.slice va val.length vc)) pt pl pd kv ring u sec (putP Q (Ch.of ⟨.slice ka key.length kc, .slice va val.length vc, key, val, false⟩)) ∧ LT w (w6.setCell ⟨pg, sc * 2 + 1, none⟩ (.slice va val.length vc))) := Lib.hid (by
            have hst := HST.out
            have hbs : Beside (fun k => k = pt ∨ (Value.slice (some ⟨pg, 0, none⟩) L2.length pc).ownBlock = some k) w6 (w6.setCell ⟨pg, sc * 2 + 1, none⟩ (.slice va val.length vc)) := (Beside.refl _ w6).setCell (p := ⟨pg, sc * 2 + 1, none⟩) (.inl (.inr rfl)) _
            have hbs1 : Beside (fun k => (Value.slice (some ⟨pg, 0, none⟩) L2.length pc).ownBlock = some k) w6 (w6.setCell ⟨pg, sc * 2 + 1, none⟩ (.slice va val.length vc)) := (Beside.refl (fun k => (Value.slice (some ⟨pg, 0, none⟩) L2.length pc).ownBlock = some k) w6).setCell (p := ⟨pg, sc * 2 + 1, none⟩) (.inl rfl) _
            have ht7 : TbV (w6.setCell ⟨pg, sc * 2 + 1, none⟩ (.slice va val.length vc)) pt (.pointer (some ⟨pl, 0, none⟩)) sec cost (.slice (some ⟨pg, 0, none⟩) L2.length pc) := (hbs1.block pt (lt_of_block HT6.out) (fun e => ownsRow_ne HP6.out.row HT6.out (by decide) pt e rfl)).trans HT6.out
            have := Tb.upd (L' := L2.set sc ⟨x2.kv, .slice va val.length vc, key, val⟩) (hst.1.below HB6.out) hst.2.1 HT6.out hst.2.2.1 HP6.out hst.2.2.2.1 hst.2.2.2.2 hbs ht7 (by rw [hl2, prC_set _ _ _ hsl2 (by rw [hx2])]; exact hgb) (fun y hy => by
              rcases List.mem_or_eq_of_mem_set hy with h | rfl
              · exact HP6.out.own y h
              · refine ⟨?_, HX6O.out.2.1, HX6O.out.2.2.1, HX6O.out.2.2.2⟩
                rw [← hxk]
                exact hx2o.1)
            have e : (L2.set sc ⟨x2.kv, .slice va val.length vc, key, val⟩).map Pr.of = putP Q (Ch.of ⟨.slice ka key.length kc, .slice va val.length vc, key, val, false⟩) := by
              rw [List.map_set, HPR.out.2]
              exact (putP_01 HSC.out.1 hzq).symm
            rw [e] at this
            exact ⟨this.1, (HLT.out.trans (Below.lt HW6.out)).trans this.2⟩)
          have hscz : (sc : Int) < (L2.length : Int) := by omega
          have HX6c := Lib.hid HX6.out
          have x1 : w6.drew.cell? ⟨b5, 1, none⟩ = some (.slice va val.length vc) := cell_of_row w6 b5 1 _ _ _ HX6.out
          have x3 : w6.drew.cell? ⟨pt, 3, none⟩ = some (.slice (some ⟨pg, 0, none⟩) L2.length pc) := HT6.out.cells.2.2.2
          have xg : w6.drew.cell? ⟨pg, sc * 2 + 1, none⟩ = some pu := hpu
          have xf : w6.drew.frozen? ⟨pg, sc * 2 + 1, none⟩ = false := hgf
          clear hzq hsl hsl2 hgf hgb hpu hx2 hx2o hxk hl2 hkey
          go_upto_region 9 with (fail)
          go_region
          all_goals
            go_wp2_with fail
            go_roundw
            case rel => exact ⟨k + 1, HKN.out, by go_num, by rw [HNX.out]; exact HFN.out.1.below ((Below.refl _ _).drew), HFN.out.2.trans (Below.lt ((Below.refl _ _).drew))⟩
            case measure => simp [intOf]; omega
      · cases z
        · have HPQ : Hid (putP Q (Ch.of ⟨.slice ka key.length kc, .slice va val.length vc, key, val, true⟩) = Q) := Lib.hid (putP_10 HSC.out.1 (of_decide_eq_false HZQ.out))
          go_wp2_with fail
          go_roundw
          case rel => exact ⟨k + 1, HKN.out, by go_num, by rw [HNX.out, HPQ.out]; exact HST6.out.1, HST6.out.2⟩
          case measure => simp [intOf]; omega
        · have hzq := of_decide_eq_true HZQ.out
          obtain ⟨hsl, -⟩ := there_lt hzq
          have hsl2 : sc < L2.length := by rw [HL2.out]; exact hsl
          have HDL := Lib.hid (del_any HP6.out.row HP6.out.one hsl2 (by rw [HL2.out]; have := HQL.out.1; omega))
          have HFN : Hid (∀ a c w7, w7.ownsRow B 79 2 (.slice a (L2.length - 1) c) (L2.length - 1) ((prC L2).take (sc * 2) ++ (prC L2).drop (sc * 2 + 2)) → Beside (fun k => (Value.slice pa L2.length pc).ownBlock = some k) w6 w7 →
              Tb B w0 (w7.setCell ⟨pt, 3, none⟩ (.slice a (L2.length - 1) c)) pt pl pd kv ring u sec (putP Q (Ch.of ⟨.slice ka key.length kc, .slice va val.length vc, key, val, true⟩)) ∧ LT w (w7.setCell ⟨pt, 3, none⟩ (.slice a (L2.length - 1) c))) := Lib.hid fun a c w7 h1 h2 => by
            have hlen : (L2.take sc ++ L2.drop (sc + 1)).length = L2.length - 1 := by simp; omega
            have := HUP.out w7 (.slice a (L2.length - 1) c) (L2.take sc ++ L2.drop (sc + 1)) h2 (by rw [hlen, prC_del]; exact h1) (fun x hx => HP6.out.own x (by
              rcases List.mem_append.1 hx with h | h
              · exact List.mem_of_mem_take h
              · exact List.mem_of_mem_drop h))
            have e : (L2.take sc ++ L2.drop (sc + 1)).map Pr.of = putP Q (Ch.of ⟨.slice ka key.length kc, .slice va val.length vc, key, val, true⟩) := by
              rw [List.map_append, List.map_take, List.map_drop, HPR.out.2]
              exact (putP_11 HSC.out.1 hzq).symm
            rw [e] at this
            exact this
          obtain ⟨-, -, -, x3⟩ := HT6.out.cells
          have hs1 : (sc : Int) + 1 ≤ 9223372036854775807 := by have := HQL.out.1; omega
          have hw1 : IntKind.i64.wrap ((sc : Int) + 1) = (sc : Int) + 1 := by rw [IntKind.wrap_i64]; omega
          have HRN : Hid (∀ a c w7, w7.ownsRow B 79 2 (.slice a (L2.length - 1) c) (L2.length - 1) ((prC L2).take (sc * 2) ++ (prC L2).drop (sc * 2 + 2)) → Beside (fun k => (Value.slice pa L2.length pc).ownBlock = some k) w6 w7 → TbV w7 pt (.pointer (some ⟨pl, 0, none⟩)) sec cost (.slice pa L2.length pc)) := Lib.hid fun a c w7 h1 h2 =>
            (h2.block pt (lt_of_block HT6.out) (fun e => ownsRow_ne HP6.out.row HT6.out (by decide) pt e rfl)).trans HT6.out
          clear hzq hsl hsl2
          go_wp2_with (first | (go_at_call 58; refine HDL.out.mono ?_; rintro e w7 ⟨a7, c7, rfl, ho7, -, hb7⟩
                                have ht7 := HRN.out _ _ _ ho7 hb7
                                have u3 := ht7.cells.2.2.2
                                have fu3 := ht7.free 3
                                have HO7 := Lib.hid ho7
                                have HB7 := Lib.hid hb7
                                clear ho7 hb7 ht7))
          go_roundw
          case rel => exact ⟨k + 1, HKN.out, by go_num, by rw [HNX.out]; exact (HFN.out _ _ _ HO7.out HB7.out).1, (HFN.out _ _ _ HO7.out HB7.out).2⟩
          case measure => simp [intOf]; omega
    · obtain rfl : k = L.length := by omega
      have HT := Lib.hid htb
      clear htb hlt
      go_wp2_with fail
      refine bodyPost_end (v := .tuple #[]) (by simp [results, Try.results29, go_sem]) rfl ⟨rfl, ?_, HLT.out⟩
      have := HT.out
      rwa [List.take_of_length_le (by simp)] at this
end Go.Proofs.Ytmnbkhgogogeiaa
