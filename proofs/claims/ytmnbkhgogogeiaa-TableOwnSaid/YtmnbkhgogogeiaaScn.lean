/-
  slices.Clone[pair]; Scan of a table that is not empty, from the first key to the last.
-/
import Derived.Test.YtmnbkhgogogeiaaCpy
import Derived.RangeFuncNested
namespace Go.Proofs.Ytmnbkhgogogeiaa
set_option linter.unusedVariables false
open Go.RowKit

set_option maxRecDepth 100000 in
set_option maxHeartbeats 4000000 in
theorem pclone_any {w : World} {B : Nat} {pv : Value} {L : List Pr} (h : PairR w B pv L) (h0 : 0 < L.length) (hL : L.length ≤ 100000) :
    Calls Try.prog 38 #[pv] w fun e w' => ∃ o, e = .returned o ∧ w'.ownsRow w.heap.size 79 2 o L.length (prC L) ∧ Below w.heap.size w w' := by
  obtain ⟨i0, hi, hz0, hz1, hz2⟩ := info_parts Try.info79
  have one : ∀ u ∈ prC L, u.oneCell' = true := by
    intro u hu
    obtain ⟨x, hx, hu⟩ := List.mem_flatMap.1 hu
    obtain ⟨o1, o2, -⟩ := h.own x hx
    obtain ⟨a1, c1, e1⟩ := o1.shape
    obtain ⟨a2, c2, e2⟩ := o2.shape
    simp only [Pr.cells, List.mem_cons, List.not_mem_nil, or_false] at hu
    rcases hu with rfl | rfl
    · rw [e1]; rfl
    · rw [e2]; rfl
  rcases h.row.2 with ⟨e, h1⟩ | ⟨g, cap, cur, rfl, hb, hh, hc, hmx, hs, ht⟩
  · omega
  have he := fun (w : World) => Lib.run_eql_slice_nil (P := Try.prog) w 66 79 (some ⟨g, 0, none⟩) L.length cap 0 0 Try.underlying66
  have hown0 := World.ownsRow_lit (base := w.heap.size) (e := 79) (size := 2) w #[] 0 (Nat.le_refl _) (by decide) rfl
  have hlen : (prC L).length = L.length * 2 := prC_length L
  have hnews : ∀ j u, (prC L)[j]? = some u → (w.alloc (.cells #[] 79)).cell? ((⟨g, 0, none⟩ : Addr).add j) = some u := by
    intro j u hj
    have hjl : j < L.length * 2 := by have := (List.getElem?_eq_some_iff.1 hj).1; omega
    have hx : w.cell? ⟨g, j, none⟩ = some u := by
      rw [cell_of_row _ _ _ _ 79 (0, 0) hh]
      have : cur.toList[j]? = some u := by
        rw [← ht, List.getElem?_take_of_lt hjl] at hj
        exact hj
      simpa using this
    have e : (⟨g, 0, none⟩ : Addr).add j = ⟨g, j, none⟩ := by simp [go_sem]
    rw [e, Below.cell ((Below.refl w.heap.size w).alloc (Nat.le_refl _) _) (World.block_lt_of_cell? w _ hx)]
    exact hx
  have HN := Lib.hid hnews
  have HLN := Lib.hid hlen
  clear h hh ht hs hnews hlen hb
  obtain ⟨xs, hxs⟩ : ∃ xs, prC L = xs := ⟨_, rfl⟩
  rw [hxs] at HN HLN one
  rw [hxs]
  clear hxs
  generalize L.length = n at *
  go_enter Try.func38, Try.ntmps38
  go_wp2_with (at_builtin; go_loud (refine wpList_append_own _ rfl (.tmp 5) (.tmp 6) 66 rfl (w.heap.size) 79 i0 _ 2 48 Try.underlying66 hi hz0 hz1 hz2 rfl (by decide) _ _ _ rfl hown0 ⟨g, 0, none⟩ n cap xs rfl HLN.out HN.out one (by simp [maxLen]; omega) (by simp; omega) (by simp) ?_))
  intro o w1 ho hgr _
  have HO := Lib.hid ho
  have HG := Lib.hid hgr
  clear ho hgr
  go_wp2_with fail
  go_ret
  refine ⟨_, rfl, ?_, ?_⟩
  · simpa using HO.out
  · exact ((Below.refl _ _).alloc (Nat.le_refl _) _).grown HG.out (by simp) (by intro k hk; simp [Value.ownBlock] at hk; omega)
theorem cmpL_nil (l : List Nat) : 0 ≤ cmpL l [] := by
  cases l <;> simp [cmpL]

set_option maxRecDepth 100000 in
set_option maxHeartbeats 4000000 in
theorem scan_any {w : World} {B pt : Nat} {lv : Value} {sec cost : Nat} {pv : Value} {L : List Pr} (ht : TbV w pt lv sec cost pv) (hr : PairR w B pv L) (h0 : 0 < L.length) (hL : L.length ≤ 100000) :
    Calls Try.prog 21 #[.pointer (some ⟨pt, 0, none⟩), .slice none 0 0, .slice none 0 0] w fun e w' => ∃ b o, e = .returned (.func (.func 39) #[] #[.pointer (some ⟨b, 0, none⟩)]) ∧ w'.heap[b]? = some (.cells #[o] 66 (0, 0)) ∧ w'.ownsRow w.heap.size 79 2 o L.length (prC L) ∧ w.heap.size ≤ b ∧ Below w.heap.size w w' := by
  have hbx : Below w.heap.size w (w.alloc (.cells #[.slice none 0 0] 66)) := (Below.refl _ _).alloc (Nat.le_refl _) _
  have HX := Lib.hid (heap_alloc_new w (.cells #[.slice none 0 0] 66))
  have HT1 := Lib.hid (ht.below hbx)
  have HR1 := Lib.hid (hr.below hbx)
  have HB1 := Lib.hid hbx
  have HS1 : Hid (w.heap.size < (w.alloc (.cells #[.slice none 0 0] 66)).heap.size) := Lib.hid (by simp)
  have HP : Hid (Calls Try.prog 36 #[.pointer (some ⟨pt, 0, none⟩), .slice none 0 0] (w.alloc (.cells #[.slice none 0 0] 66)) fun e w' => e = .returned (.tuple #[.int .i64 (0 : Nat), .bool (decide ((L.map Pr.of)[0]?.map (·.1) = some []))]) ∧ Below (w.alloc (.cells #[.slice none 0 0] 66)).heap.size (w.alloc (.cells #[.slice none 0 0] 66)) w') := Lib.hid (place_any HT1.out HR1.out.pairV (rowB_nil _) (by rw [List.length_map]; omega) 0 (Nat.zero_le _) (fun i hi => by rw [decide_eq_true (cmpL_nil _), decide_eq_true (Nat.zero_le _)]))
  have HL := Lib.hid (And.intro h0 hL)
  clear hbx ht hr h0 hL
  go_enter Try.func21, Try.ntmps21
  go_upto_region 3 with (fail)
  generalize w.alloc (.cells #[.slice none 0 0] 66) = w1 at *
  generalize decide ((L.map Pr.of)[0]?.map (·.1) = some []) = z at *
  go_upto_region 4 with (first | (go_at_call 36; refine HP.out.mono ?_; rintro e w2 ⟨rfl, hb2⟩; have HB2 := Lib.hid hb2; clear hb2))
  have HR2 := Lib.hid (HR1.out.below HB2.out)
  obtain ⟨-, -, -, t3⟩ := (HT1.out.below HB2.out).cells
  obtain ⟨pa, pc, rfl⟩ := own_shape HR2.out.row
  have hcap : L.length ≤ pc := by
    rcases HR2.out.row.2 with ⟨e, h1⟩ | ⟨g, cap, cur, e, hb, hh, hc, hmx, hs, htt⟩
    · have := HL.out.1; omega
    · obtain ⟨-, -, rfl⟩ := Value.slice.inj e
      exact hc
  have HC := Lib.hid (pclone_any HR2.out HL.out.1 HL.out.2)
  have hl := HL.out
  clear HR2
  have hnz : (L.length : Int) ≤ (pc : Int) := by omega
  have hmx : max (0 : Int) (L.length : Int) = (L.length : Int) := by omega
  have fin : ∀ w3 oa oc, Below w2.heap.size w2 w3 → w3.ownsRow w2.heap.size 79 2 (.slice oa L.length oc) L.length (prC L) → Boxed w3 w.heap.size 66 (.slice none 0 0) := fun w3 oa oc hb3 ho =>
    (hb3.block _ (Nat.lt_of_lt_of_le HS1.out HB2.out.size)).trans ((HB2.out.block _ HS1.out).trans HX.out)
  have FIN := Lib.hid fin
  clear fin
  go_upto_region 8 with (first | (go_at_call 38; refine HC.out.mono ?_; rintro e w3 ⟨o, rfl, ho, hb3⟩; obtain ⟨oa, oc, rfl⟩ := own_shape ho; have hbx := FIN.out w3 oa oc hb3 ho; have hcx := hbx.cell; have hfx := hbx.frozen; have HBX := Lib.hid hbx; have HO := Lib.hid ho; have HB3 := Lib.hid hb3; clear ho hb3 hbx))
  go_wp2_with fail
  go_ret
  refine ⟨w.heap.size, _, rfl, Boxed.set _ HBX.out, ?_, Nat.le_refl _, ?_⟩
  · exact rows_mono (ownsRow_setCell_below HO.out (a := ⟨w.heap.size, 0, none⟩) (Nat.lt_of_lt_of_le HS1.out HB2.out.size) _) (Nat.le_trans HB1.out.size HB2.out.size)
  · exact (HB1.out.trans ((HB2.out.trans (HB3.out.mono HB2.out.size)).mono HB1.out.size)).setCell (p := ⟨w.heap.size, 0, none⟩) (Nat.le_refl _) _
end Go.Proofs.Ytmnbkhgogogeiaa
