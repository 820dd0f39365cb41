/-
  Several texts of one proof, each in a section of its own: ScnG, TabC.
-/
import Derived.Test.YtmnbkhgogogeiaaItrRg
import Derived.Test.YtmnbkhgogogeiaaRg19
import Derived.Test.YtmnbkhgogogeiaaRg23
import Derived.Test.YtmnbkhgogogeiaaCutARg
namespace Go.Proofs.Ytmnbkhgogogeiaa
section
set_option linter.unusedVariables false
open Go.RowKit

set_option maxRecDepth 100000 in
set_option maxHeartbeats 4000000 in
theorem pclone_gen {w : World} {B : Nat} {pv : Value} {L : List Pr} (h : PairR w B pv L) (hL : L.length ≤ 100000) :
    Calls Try.prog 38 #[pv] w fun e w' => ∃ o, e = .returned o ∧ w'.ownsRow w.heap.size 79 2 o L.length (prC L) ∧ Below w.heap.size w w' := by
  obtain ⟨i0, hi, hz0, hz1, hz2⟩ := info_parts Try.info79
  have one : ∀ u ∈ prC L, u.oneCell' = true := by
    intro u hu
    obtain ⟨x, hx, hu⟩ := List.mem_flatMap.1 hu
    obtain ⟨o1, o2, -⟩ := h.own x hx
    obtain ⟨a1, c1, e1⟩ := o1.shape
    obtain ⟨a2, c2, e2⟩ := o2.shape
    simp only [Pr.cells, List.mem_cons, List.not_mem_nil, or_false] at hu
    rcases hu with rfl | rfl
    · rw [e1]; rfl
    · rw [e2]; rfl
  rcases h.row.2 with ⟨rfl, h1⟩ | ⟨g, cap, cur, rfl, hb, hh, hc, hmx, hs, ht⟩
  · have h2 : L = [] := List.eq_nil_of_length_eq_zero h1
    subst h2
    clear h one h1 hL hi
    have he := fun (w : World) => Lib.run_eql_slice_nil (P := Try.prog) w 66 79 none 0 0 0 0 Try.underlying66
    go_enter Try.func38, Try.ntmps38
    go_wp2_with fail
    go_ret
    exact ⟨_, rfl, World.ownsRow_nil _ _ _ _, Below.refl _ _⟩
  have he := fun (w : World) => Lib.run_eql_slice_nil (P := Try.prog) w 66 79 (some ⟨g, 0, none⟩) L.length cap 0 0 Try.underlying66
  have hown0 := World.ownsRow_lit (base := w.heap.size) (e := 79) (size := 2) w #[] 0 (Nat.le_refl _) (by decide) rfl
  have hlen : (prC L).length = L.length * 2 := prC_length L
  have hnews : ∀ j u, (prC L)[j]? = some u → (w.alloc (.cells #[] 79)).cell? ((⟨g, 0, none⟩ : Addr).add j) = some u := by
    intro j u hj
    have hjl : j < L.length * 2 := by have := (List.getElem?_eq_some_iff.1 hj).1; omega
    have hx : w.cell? ⟨g, j, none⟩ = some u := by
      rw [cell_of_row _ _ _ _ 79 (0, 0) hh]
      have : cur.toList[j]? = some u := by
        rw [← ht, List.getElem?_take_of_lt hjl] at hj
        exact hj
      simpa using this
    have e : (⟨g, 0, none⟩ : Addr).add j = ⟨g, j, none⟩ := by simp [go_sem]
    rw [e, Below.cell ((Below.refl w.heap.size w).alloc (Nat.le_refl _) _) (World.block_lt_of_cell? w _ hx)]
    exact hx
  have HN := Lib.hid hnews
  have HLN := Lib.hid hlen
  clear h hh ht hs hnews hlen hb
  obtain ⟨xs, hxs⟩ : ∃ xs, prC L = xs := ⟨_, rfl⟩
  rw [hxs] at HN HLN one
  rw [hxs]
  clear hxs
  generalize L.length = n at *
  go_enter Try.func38, Try.ntmps38
  go_wp2_with (at_builtin; go_loud (refine wpList_append_own _ rfl (.tmp 5) (.tmp 6) 66 rfl (w.heap.size) 79 i0 _ 2 48 Try.underlying66 hi hz0 hz1 hz2 rfl (by decide) _ _ _ rfl hown0 ⟨g, 0, none⟩ n cap xs rfl HLN.out HN.out one (by simp [maxLen]; omega) (by simp; omega) (by simp) ?_))
  intro o w1 ho hgr _
  have HO := Lib.hid ho
  have HG := Lib.hid hgr
  clear ho hgr
  go_wp2_with fail
  go_ret
  refine ⟨_, rfl, ?_, ?_⟩
  · simpa using HO.out
  · exact ((Below.refl _ _).alloc (Nat.le_refl _) _).grown HG.out (by simp) (by intro k hk; simp [Value.ownBlock] at hk; omega)

set_option maxRecDepth 100000 in
set_option maxHeartbeats 4000000 in
theorem scan_pos {w : World} {B pt : Nat} {lv : Value} {sec cost : Nat} {pa : Option Addr} {pc : Nat} {L : List Pr} (ht : TbV w pt lv sec cost (.slice pa L.length pc)) (hr : PairR w B (.slice pa L.length pc) L) (h0 : ¬ pc = 0) (hL : L.length ≤ 100000) :
    Calls Try.prog 21 #[.pointer (some ⟨pt, 0, none⟩), .slice none 0 0, .slice none 0 0] w fun e w' => ∃ b o, e = .returned (.func (.func 39) #[] #[.pointer (some ⟨b, 0, none⟩)]) ∧ w'.heap[b]? = some (.cells #[o] 66 (0, 0)) ∧ w'.ownsRow w.heap.size 79 2 o L.length (prC L) ∧ w.heap.size ≤ b ∧ Below w.heap.size w w' := by
  have hbx : Below w.heap.size w (w.alloc (.cells #[.slice none 0 0] 66)) := (Below.refl _ _).alloc (Nat.le_refl _) _
  have HX := Lib.hid (heap_alloc_new w (.cells #[.slice none 0 0] 66))
  have HT1 := Lib.hid (ht.below hbx)
  have HR1 := Lib.hid (hr.below hbx)
  have HB1 := Lib.hid hbx
  have HS1 : Hid (w.heap.size < (w.alloc (.cells #[.slice none 0 0] 66)).heap.size) := Lib.hid (by simp)
  have HP : Hid (Calls Try.prog 36 #[.pointer (some ⟨pt, 0, none⟩), .slice none 0 0] (w.alloc (.cells #[.slice none 0 0] 66)) fun e w' => e = .returned (.tuple #[.int .i64 (0 : Nat), .bool (decide ((L.map Pr.of)[0]?.map (·.1) = some []))]) ∧ Below (w.alloc (.cells #[.slice none 0 0] 66)).heap.size (w.alloc (.cells #[.slice none 0 0] 66)) w') := Lib.hid (place_any HT1.out HR1.out.pairV (rowB_nil _) (by rw [List.length_map]; omega) 0 (Nat.zero_le _) (fun i hi => by rw [decide_eq_true (cmpL_nil _), decide_eq_true (Nat.zero_le _)]))
  have HL := Lib.hid (And.intro h0 hL)
  clear hbx ht hr h0 hL
  go_enter Try.func21, Try.ntmps21
  go_upto_region 3 with (fail)
  generalize w.alloc (.cells #[.slice none 0 0] 66) = w1 at *
  generalize decide ((L.map Pr.of)[0]?.map (·.1) = some []) = z at *
  go_upto_region 4 with (first | (go_at_call 36; refine HP.out.mono ?_; rintro e w2 ⟨rfl, hb2⟩; have HB2 := Lib.hid hb2; clear hb2))
  have HR2 := Lib.hid (HR1.out.below HB2.out)
  obtain ⟨-, -, -, t3⟩ := (HT1.out.below HB2.out).cells
  have hcap : L.length ≤ pc := by
    rcases HR2.out.row.2 with ⟨e, h1⟩ | ⟨g, cap, cur, e, hb, hh, hc, hmx, hs, htt⟩
    · omega
    · obtain ⟨-, -, rfl⟩ := Value.slice.inj e
      exact hc
  have HC := Lib.hid (pclone_gen HR2.out HL.out.2)
  have hl := HL.out
  have hp0 := hl.1
  clear HR2
  have hnz : (L.length : Int) ≤ (pc : Int) := by omega
  have hmx : max (0 : Int) (L.length : Int) = (L.length : Int) := by omega
  have fin : ∀ w3 oa oc, Below w2.heap.size w2 w3 → w3.ownsRow w2.heap.size 79 2 (.slice oa L.length oc) L.length (prC L) → Boxed w3 w.heap.size 66 (.slice none 0 0) := fun w3 oa oc hb3 ho =>
    (hb3.block _ (Nat.lt_of_lt_of_le HS1.out HB2.out.size)).trans ((HB2.out.block _ HS1.out).trans HX.out)
  have FIN := Lib.hid fin
  clear fin
  go_upto_region 8 with (first | (go_at_call 38; refine HC.out.mono ?_; rintro e w3 ⟨o, rfl, ho, hb3⟩; obtain ⟨oa, oc, rfl⟩ := own_shape ho; have hbx := FIN.out w3 oa oc hb3 ho; have hcx := hbx.cell; have hfx := hbx.frozen; have HBX := Lib.hid hbx; have HO := Lib.hid ho; have HB3 := Lib.hid hb3; clear ho hb3 hbx))
  go_wp2_with fail
  go_ret
  refine ⟨w.heap.size, _, rfl, Boxed.set _ HBX.out, ?_, Nat.le_refl _, ?_⟩
  · exact rows_mono (ownsRow_setCell_below HO.out (a := ⟨w.heap.size, 0, none⟩) (Nat.lt_of_lt_of_le HS1.out HB2.out.size) _) (Nat.le_trans HB1.out.size HB2.out.size)
  · exact (HB1.out.trans ((HB2.out.trans (HB3.out.mono HB2.out.size)).mono HB1.out.size)).setCell (p := ⟨w.heap.size, 0, none⟩) (Nat.le_refl _) _

set_option maxRecDepth 100000 in
set_option maxHeartbeats 4000000 in
theorem scan_zero {w : World} {B pt : Nat} {lv : Value} {sec cost : Nat} {pa : Option Addr} (ht : TbV w pt lv sec cost (.slice pa 0 0)) (hr : PairR w B (.slice pa 0 0) []) :
    Calls Try.prog 21 #[.pointer (some ⟨pt, 0, none⟩), .slice none 0 0, .slice none 0 0] w fun e w' => ∃ b o, e = .returned (.func (.func 39) #[] #[.pointer (some ⟨b, 0, none⟩)]) ∧ w'.heap[b]? = some (.cells #[o] 66 (0, 0)) ∧ w'.ownsRow w.heap.size 79 2 o 0 (prC []) ∧ w.heap.size ≤ b ∧ Below w.heap.size w w' := by
  have hbx : Below w.heap.size w (w.alloc (.cells #[.slice none 0 0] 66)) := (Below.refl _ _).alloc (Nat.le_refl _) _
  have HX := Lib.hid (heap_alloc_new w (.cells #[.slice none 0 0] 66))
  have HT1 := Lib.hid (ht.below hbx)
  have HR1 := Lib.hid (hr.below hbx)
  have HB1 := Lib.hid hbx
  have HS1 : Hid (w.heap.size < (w.alloc (.cells #[.slice none 0 0] 66)).heap.size) := Lib.hid (by simp)
  have HP : Hid (Calls Try.prog 36 #[.pointer (some ⟨pt, 0, none⟩), .slice none 0 0] (w.alloc (.cells #[.slice none 0 0] 66)) fun e w' => e = .returned (.tuple #[.int .i64 (0 : Nat), .bool (decide ((([] : List Pr).map Pr.of)[0]?.map (·.1) = some []))]) ∧ Below (w.alloc (.cells #[.slice none 0 0] 66)).heap.size (w.alloc (.cells #[.slice none 0 0] 66)) w') := Lib.hid (place_any HT1.out HR1.out.pairV (rowB_nil _) (by decide) 0 (Nat.zero_le _) (fun i hi => by rw [decide_eq_true (cmpL_nil _), decide_eq_true (Nat.zero_le _)]))
  clear hbx ht hr
  go_enter Try.func21, Try.ntmps21
  go_upto_region 3 with (fail)
  generalize w.alloc (.cells #[.slice none 0 0] 66) = w1 at *
  generalize decide ((([] : List Pr).map Pr.of)[0]?.map (·.1) = some []) = z at *
  go_upto_region 4 with (first | (go_at_call 36; refine HP.out.mono ?_; rintro e w2 ⟨rfl, hb2⟩; have HB2 := Lib.hid hb2; clear hb2))
  have HR2 := Lib.hid (HR1.out.below HB2.out)
  obtain ⟨-, -, -, t3⟩ := (HT1.out.below HB2.out).cells
  have HC := Lib.hid (pclone_gen HR2.out (by decide))
  clear HR2
  have fin : ∀ w3 oa oc, Below w2.heap.size w2 w3 → w3.ownsRow w2.heap.size 79 2 (.slice oa 0 oc) 0 (prC []) → Boxed w3 w.heap.size 66 (.slice none 0 0) := fun w3 oa oc hb3 ho =>
    (hb3.block _ (Nat.lt_of_lt_of_le HS1.out HB2.out.size)).trans ((HB2.out.block _ HS1.out).trans HX.out)
  have FIN := Lib.hid fin
  clear fin
  go_upto_region 8 with (first | (go_at_call 38; refine HC.out.mono ?_; rintro e w3 ⟨o, rfl, ho, hb3⟩; obtain ⟨oa, oc, rfl⟩ := own_shape ho; have hbx := FIN.out w3 oa oc hb3 ho; have hcx := hbx.cell; have hfx := hbx.frozen; have HBX := Lib.hid hbx; have HO := Lib.hid ho; have HB3 := Lib.hid hb3; clear ho hb3 hbx))
  go_wp2_with fail
  go_ret
  refine ⟨w.heap.size, _, rfl, Boxed.set _ HBX.out, ?_, Nat.le_refl _, ?_⟩
  · exact rows_mono (ownsRow_setCell_below HO.out (a := ⟨w.heap.size, 0, none⟩) (Nat.lt_of_lt_of_le HS1.out HB2.out.size) _) (Nat.le_trans HB1.out.size HB2.out.size)
  · exact (HB1.out.trans ((HB2.out.trans (HB3.out.mono HB2.out.size)).mono HB1.out.size)).setCell (p := ⟨w.heap.size, 0, none⟩) (Nat.le_refl _) _

theorem scan_gen {w : World} {B pt : Nat} {lv : Value} {sec cost : Nat} {pv : Value} {L : List Pr} (ht : TbV w pt lv sec cost pv) (hr : PairR w B pv L) (hL : L.length ≤ 100000) :
    Calls Try.prog 21 #[.pointer (some ⟨pt, 0, none⟩), .slice none 0 0, .slice none 0 0] w fun e w' => ∃ b o, e = .returned (.func (.func 39) #[] #[.pointer (some ⟨b, 0, none⟩)]) ∧ w'.heap[b]? = some (.cells #[o] 66 (0, 0)) ∧ w'.ownsRow w.heap.size 79 2 o L.length (prC L) ∧ w.heap.size ≤ b ∧ Below w.heap.size w w' := by
  obtain ⟨pa, pc, rfl⟩ := own_shape hr.row
  by_cases h0 : pc = 0
  · have hl : L.length = 0 := by
      rcases hr.row.2 with ⟨_, h1⟩ | ⟨g, cap, cur, e, hb, hh, hc, hmx, hs, htt⟩
      · exact h1
      · obtain ⟨-, -, rfl⟩ := Value.slice.inj e
        omega
    obtain rfl : L = [] := List.eq_nil_of_length_eq_zero hl
    subst h0
    exact scan_zero ht hr
  · exact scan_pos ht hr h0 hL

theorem itr_nil (n p M : Nat) : SeqV Fence.wide n Try.prog 39 #[.pointer (some ⟨p, 0, none⟩)] (ItE M) (fun A B => Below M A B) [] (fun W => W.cell? ⟨p, 0, none⟩ = some (.slice none 0 0)) := by
  intro y J Jx W hc hJ hJx hY h0
  refine callsIn_of_wp Try.func39 rfl trivial ?_ rfl
  simp only [Try.ntmps39, List.size_toArray, List.length_cons, List.length_nil, Nat.reduceAdd, Nat.reduceSub, Array.replicate_succ, Array.replicate_zero, List.push_toArray, List.append_toArray, List.nil_append, List.cons_append]
  gi_wp2
  gi_loopw [7] (fun i wr => i = .int .i64 0 ∧ wr = W) (fun _ _ => 0)
  case atStart => exact ⟨rfl, rfl⟩
  case round =>
    obtain ⟨rfl, rfl⟩ := hrel
    gi_wp2
    go_end0
    exact ⟨⟨_, rfl⟩, .inl h0⟩

/-- Scan's answer: an iterator of all pairs -/
theorem scan_seq {w : World} {B pt : Nat} {lv : Value} {sec cost : Nat} {pv : Value} {L : List Pr} (ht : TbV w pt lv sec cost pv) (hr : PairR w B pv L) (hL : L.length ≤ 100000) (hz : ∀ x ∈ L, x.key.length ≤ 100000 ∧ x.val.length ≤ 100000) :
    Calls Try.prog 21 #[.pointer (some ⟨pt, 0, none⟩), .slice none 0 0, .slice none 0 0] w fun e w' => ∃ b St, e = .returned (.func (.func 39) #[] #[.pointer (some ⟨b, 0, none⟩)]) ∧ SeqV Fence.wide 2 Try.prog 39 #[.pointer (some ⟨b, 0, none⟩)] (ItE w'.heap.size) (fun A B => Below w'.heap.size A B) L St ∧ (∀ W, Below w'.heap.size w' W → St W) ∧ Below w.heap.size w w' := by
  refine (scan_gen ht hr hL).mono ?_
  rintro e w' ⟨b, o, rfl, hb, ho, hwb, hbel⟩
  rcases ho.2 with ⟨rfl, h0⟩ | ⟨g, cap, cur, rfl, hg, hh, hc, hmx, hs, htk⟩
  · obtain rfl : L = [] := List.eq_nil_of_length_eq_zero h0
    refine ⟨b, _, rfl, itr_nil 2 b w'.heap.size, fun W hW => ?_, hbel⟩
    rw [hW.cell (p := ⟨b, 0, none⟩) (lt_of_block hb)]
    exact cell_of_row w' b 0 _ _ _ hb
  · have hcell : ∀ j v, j < L.length * 2 → (prC L)[j]? = some v → w'.cell? ⟨g, j, none⟩ = some v := by
      intro j v hj hv
      rw [cell_of_row _ _ _ _ 79 (0, 0) hh]
      have : cur.toList[j]? = some v := by
        rw [← htk, List.getElem?_take_of_lt (by omega)] at hv
        exact hv
      simpa using this
    have hlow : ∀ {v : Value} {l : List Nat}, OwnB w B v l → ∀ k, v.ownBlock = some k → k < w'.heap.size := fun h k e => Nat.lt_of_lt_of_le (own_lt h k e) hbel.size
    have hits : ItS w' w'.heap.size b g cap L := by
      refine ⟨hb, fun i hi => ?_, fun i hi => ?_, ⟨lt_of_block hb, lt_of_block hh, Nat.le_refl _, fun i hi => ?_⟩, fun i hi => hz _ (List.getElem_mem hi)⟩
      · obtain ⟨g1, g2⟩ := prC_get L i hi
        exact ⟨hcell _ _ (by omega) g1, hcell _ _ (by omega) g2⟩
      · obtain ⟨o1, o2, o3, o4⟩ := hr.own _ (List.getElem_mem hi)
        exact ⟨(o1.rowB o3).below hbel, (o2.rowB o4).below hbel⟩
      · obtain ⟨o1, o2, o3, o4⟩ := hr.own _ (List.getElem_mem hi)
        exact ⟨hlow o1, hlow o2⟩
    exact ⟨b, _, rfl, itr_on 2 w'.heap.size b g cap L hL hc, fun W hW => hits.below hW, hbel⟩
end
section
set_option linter.unusedVariables false
open Go.RowKit

/-- what bounds a table whose log is cut: K cells of a record at most, nb of all numbers, lo and ne of the records that stand -/
structure Lim where
  K : Nat
  nb : Nat
  ring : Nat
  lo : Nat
  ne : Nat
  sec : Nat
  nx : Nat
def Lim.wrote (q : Lim) : Lim := ⟨q.K, q.nb + q.K, q.ring, q.lo + 1, q.ne + 1, q.sec, q.nx + 1⟩
structure LgC (q : Lim) (s : LgS) (S : List (List Nat)) (W : List (Nat × List Nat)) : Prop where
  fit : Fit s S W
  ring : s.ring = q.ring
  lo : q.lo ≤ s.ents.length
  ne : s.ents.length ≤ q.ne
  used : s.used = sumC s.ents
  ents : ∀ x ∈ s.ents, x.cells ≤ q.K ∧ x.place ≤ 65536 ∧ x.behind ≤ 1000000000000
  number : s.number ≤ q.nb + 1
  version : s.version ≤ q.nb
  next : s.first + s.ents.length = q.nx ∧ q.nx ≤ q.nb
  waits : W.length ≤ q.nb
theorem sumC_leK (K : Nat) (l : List Ent) (h : ∀ x ∈ l, x.cells ≤ K) : sumC l ≤ l.length * K := by
  induction l with
  | nil => simp [sumC]
  | cons x r ih =>
    have h1 := ih (fun y hy => h y (by simp [hy]))
    have h2 := h x (by simp)
    unfold sumC at h1 ⊢
    simp only [List.map_cons, List.sum_cons, List.length_cons, Nat.succ_mul]
    omega
theorem sumC_app (a b : List Ent) : sumC (a ++ b) = sumC a + sumC b := by simp [sumC, List.map_append, List.sum_append]
theorem LgC.room {q : Lim} {s : LgS} {S : List (List Nat)} {W : List (Nat × List Nat)} (h : LgC q s S W) {n : Nat} (hn : n ≤ q.K) (hr : (q.ne + 1) * q.K ≤ q.ring) : s.used + n ≤ s.ring := by
  have h1 := sumC_leK q.K s.ents (fun x hx => (h.ents x hx).1)
  have h2 := Nat.mul_le_mul_right q.K h.ne
  rw [Nat.succ_mul] at hr
  rw [h.used, h.ring]
  omega
theorem LgC.app {q : Lim} {s : LgS} {S : List (List Nat)} {W : List (Nat × List Nat)} (h : LgC q s S W) {data : List Nat} (hl : data.length ≤ 65536) (hd : cellsN data.length ≤ q.K) (hr : (q.ne + 1) * q.K ≤ q.ring) (hn : q.nb + q.K ≤ 500000) :
    LgC q.wrote (appS s data) S (appW s data S W (cellsN data.length)) := by
  have h1 := h.number
  have h2 := h.next
  have h3 := h.waits
  have h4 := cellsN_pos data.length
  have h5 := h.lo
  have h6 := h.ne
  have h7 := h.version
  have h8 := h.fit.ring
  have h9 : q.ne + 1 ≤ (q.ne + 1) * q.K := Nat.le_mul_of_pos_right _ (by omega)
  have h10 := h.fit.bound
  have h11 := h.ring
  have hne : s.ents.length < 65536 := by omega
  refine ⟨h.fit.app hl (h.room hd hr) (by omega) hne (by omega), h.ring, ?_, ?_, ?_, ?_, ?_, ?_, ?_, ?_⟩
  · show q.lo + 1 ≤ (s.ents ++ [_]).length
    simp; omega
  · show (s.ents ++ [_]).length ≤ q.ne + 1
    simp; omega
  · show s.used + cellsN data.length = sumC (s.ents ++ [_])
    rw [sumC_app, h.used]
    simp [sumC]
  · intro x hx
    rcases List.mem_append.1 hx with hx | hx
    · exact h.ents x hx
    · obtain rfl := List.mem_singleton.1 hx
      refine ⟨hd, ?_, h.fit.last⟩
      have h3 := h.fit.place
      have h4 := h.fit.bound
      show s.place ≤ _
      omega
  · show s.number + cellsN data.length ≤ q.nb + q.K + 1
    omega
  · show s.version ≤ q.nb + q.K
    omega
  · show s.first + (s.ents ++ [_]).length = q.nx + 1 ∧ q.nx + 1 ≤ q.nb + q.K
    simp; omega
  · rw [appW_length]
    show _ ≤ q.nb + q.K
    omega
theorem LgC.flush {q : Lim} {s : LgS} {S : List (List Nat)} {W : List (Nat × List Nat)} (h : LgC q s S W) : LgC q s (flushed S W) [] :=
  ⟨h.fit.flush, h.ring, h.lo, h.ne, h.used, h.ents, h.number, h.version, h.next, Nat.zero_le _⟩
/-- a cut that leaves the records behind the first g -/
theorem LgC.cut {q : Lim} {s : LgS} {S : List (List Nat)} {W : List (Nat × List Nat)} (h : LgC q s S W) {n : Nat} {x : Ent} (h1 : s.first < n) (h2 : n ≤ s.first + s.ents.length) (lo ne : Nat) (hlo : lo ≤ s.first + s.ents.length - n) (hne : s.first + s.ents.length - n ≤ ne) (hn : q.nb + 1 ≤ 500000) :
    LgC ⟨q.K, q.nb + 1, q.ring, lo, ne, q.sec, q.nx⟩ (cutS s n x) (cutD s n x (flushed S W)) [] ∧ sumC (s.ents.take (n - s.first)) ≤ s.used := by
  have hv := h.version
  have hx := h.next
  have hel : (s.ents.drop (n - s.first)).length = s.first + s.ents.length - n := by rw [List.length_drop]; omega
  have hsm : sumC s.ents = sumC (s.ents.take (n - s.first)) + sumC (s.ents.drop (n - s.first)) := by rw [← sumC_app, List.take_append_drop]
  have hus := h.used
  have hfu := h.fit.used
  have hfn := h.fit.ents
  have hnu := h.number
  refine ⟨⟨⟨?_, h.fit.ring, h.fit.place, h.fit.number, h.fit.last, ?_, ?_, ?_, by simp, ?_, h.fit.bound⟩, h.ring, ?_, ?_, ?_, ?_, ?_, ?_, ?_, by simp⟩, by omega⟩
  · show (cutD _ _ _ _).length = _
    unfold cutD
    rw [flushed_len, flushed_len]
    exact h.fit.disk
  · show n ≤ _; omega
  · show s.version + 1 ≤ _; omega
  · show (s.ents.drop (n - s.first)).length ≤ _; omega
  · show s.used - _ ≤ s.ring; omega
  · show lo ≤ (s.ents.drop (n - s.first)).length; omega
  · show (s.ents.drop (n - s.first)).length ≤ ne; omega
  · show s.used - sumC (s.ents.take (n - s.first)) = sumC (s.ents.drop (n - s.first)); omega
  · exact fun y hy => h.ents y (List.mem_of_mem_drop hy)
  · show s.number ≤ q.nb + 1 + 1; omega
  · show s.version + 1 ≤ q.nb + 1; omega
  · show n + (s.ents.drop (n - s.first)).length = q.nx ∧ q.nx ≤ q.nb + 1; omega

/-- a table, its log and its disk between two calls -/
structure Tc (B : Nat) (w0 w : World) (pt pl pd : Nat) (kv : Value) (q : Lim) (P : List KV) : Prop where
  st : ∃ s S W, Lg B w0 w pl pd kv s S W ∧ LgC q s S W
  tb : ∃ cost pv L, TbV w pt (.pointer (some ⟨pl, 0, none⟩)) q.sec cost pv ∧ (cost ≤ 3 * q.nb ∧ (q.lo = 0 → cost = 0)) ∧ PairR w B pv L ∧ L.map Pr.of = P
  base : B ≤ pt
  few : q.nb ≤ 500000
theorem Tc.below {B : Nat} {w0 w w' : World} {pt pl pd : Nat} {kv : Value} {q : Lim} {P : List KV} (h : Tc B w0 w pt pl pd kv q P) (hb : Below w.heap.size w w') : Tc B w0 w' pt pl pd kv q P := by
  obtain ⟨⟨s, S, W, hl, hf⟩, ⟨cost, pv, L, ht, hc, hr, hm⟩, hB, hu⟩ := h
  exact ⟨⟨s, S, W, hl.below hb, hf⟩, ⟨cost, pv, L, ht.below hb, hc, hr.below hb, hm⟩, hB, hu⟩
theorem sync_c {B : Nat} {w0 w : World} {pt pl pd : Nat} {kv : Value} {q : Lim} {P : List KV} (h : Tc B w0 w pt pl pd kv q P) :
    Calls Try.prog 32 #[.pointer (some ⟨pl, 0, none⟩)] w fun e w' => e = .returned (.int .i64 0) ∧ Tc B w0 w' pt pl pd kv q P ∧ LT w w' := by
  obtain ⟨⟨s, S, W, hl, hst⟩, ⟨cost, pv, L, ht, hc, hr, hm⟩, hB, hu⟩ := h
  refine (sync_any hl).mono ?_
  rintro e w' ⟨rfl, hl2, hq⟩
  have hlq : LQ w w' := hq.lq (Nat.le_refl _)
  exact ⟨rfl, ⟨⟨s, _, [], hl2, hst.flush⟩, ⟨cost, pv, L, ht.lq hlq, hc, hr.lq hlq, hm⟩, hB, hu⟩, hlq.lt⟩

set_option maxRecDepth 100000 in
set_option maxHeartbeats 4000000 in
theorem twrite_c {B : Nat} {w0 w : World} {pt pl pd : Nat} {kv : Value} {q : Lim} {P : List KV} (h : Tc B w0 w pt pl pd kv q P) {v : Value} {C : List Chg} (hv : ChgV w v C) (hC : C.length ≤ 60) (hw : weigh C ≤ 61440) (N : Nat) (hN : 16 + 27 * C.length + weigh C = N) (hK : cellsN N ≤ q.K) (hroom : (q.ne + 1) * q.K ≤ q.ring) (hring : q.nb + q.K ≤ 500000) :
    Calls Try.prog 34 #[.pointer (some ⟨pt, 0, none⟩), v] w fun e w' => e = .returned (.int .i64 0) ∧ Tc B w0 w' pt pl pd kv q.wrote P ∧ LT w w' := by
  obtain ⟨sa, sl, sc, rfl⟩ : ∃ sa sl sc, v = .slice sa sl sc := by obtain ⟨a, c, e, _⟩ := hv; exact ⟨_, _, _, e⟩
  have HR := Lib.hid (record_any hv (by omega) hw)
  rw [hN] at HR
  obtain ⟨⟨s, S, W, hl, hf⟩, ⟨cost, pv, L, ht, ⟨hc, -⟩, hr, hm⟩, hB, hu⟩ := h
  have HL := Lib.hid hl
  have HF := Lib.hid hf
  have HT := Lib.hid ht
  have HP := Lib.hid (And.intro hr hm)
  have HN : Hid (N ≤ 65536 ∧ cost ≤ 3 * q.nb ∧ cellsN N ≤ q.K ∧ q.nb + q.K ≤ 500000 ∧ B ≤ pt ∧ 1 ≤ cellsN N) := Lib.hid ⟨by omega, hc, hK, hring, hB, cellsN_pos N⟩
  have HRM := Lib.hid hroom
  clear hl hf ht hr hm hv hc hK hroom hring hB hC hw hN hu
  go_enter Try.func34, Try.ntmps34
  go_wp2_with fail
  refine HR.out.mono ?_
  rintro e w1 ⟨o, d, rfl, ho, hdl, hdt, hb1⟩
  obtain ⟨oa, oc, rfl⟩ := ho.shape
  have ht1 := HT.out.below hb1
  have HT1 := Lib.hid ht1
  obtain ⟨t0, -, -, -⟩ := ht1.cells
  have hcd : cellsN d.length ≤ cellsN N := cellsN_mono hdl
  have HAP := Lib.hid (append_any (HL.out.below hb1) HF.out.fit (ho.rowK (B := B) hdt) (by have := HN.out.1; omega) (HF.out.room (Nat.le_trans hcd HN.out.2.2.1) HRM.out))
  have HFA := Lib.hid (HF.out.app (data := d) (by have := HN.out.1; omega) (Nat.le_trans hcd HN.out.2.2.1) HRM.out HN.out.2.2.2.1)
  have HD := Lib.hid (And.intro hcd hdl)
  have HB1 := Lib.hid hb1
  clear ho hdl hdt hb1 ht1 hcd
  go_upto_region 4 with (first | (go_at_call 63; refine HAP.out.mono ?_; rintro e w2 ⟨rfl, hl2, hq2⟩; have HL2 := Lib.hid hl2; have HQ2 := Lib.hid hq2; clear hl2 hq2))
  have ht2 := HT1.out.lq HQ2.out
  have HT2 := Lib.hid ht2
  obtain ⟨qc, hq⟩ : ∃ q, (d.length + 39) / 40 + 2 = q := ⟨_, rfl⟩
  obtain ⟨m, hm⟩ : ∃ m, cost + qc = m := ⟨_, rfl⟩
  have hqm : (cost : Int) + (qc : Int) = (m : Int) := by omega
  have hml : m ≤ 3 * (q.nb + q.K) := by
    have h1 := HD.out.2
    have h2 := HN.out
    have h3 : (d.length + 39) / 40 ≤ cellsN N := by unfold cellsN; omega
    have h4 := cellsN_pos N
    omega
  have hmz : (m : Int) ≤ 10000000 := by have h2 := HN.out; omega
  have HM := Lib.hid hml
  have HCO := Lib.hid (fun W => cost_any d.length (by have h1 := HD.out.2; have := HN.out; omega) W)
  rw [hq] at HCO
  obtain ⟨-, -, y2, -⟩ := ht2.cells
  have hfz := ht2.free 2
  have z2 : w2.drew.cell? ⟨pt, 2, none⟩ = some (.int .i64 (cost : Nat)) := y2
  have fz2 : w2.drew.frozen? ⟨pt, 2, none⟩ = false := hfz
  clear ht2 hq hm hml
  have hmw : IntKind.i64.wrap (m : Int) = (m : Int) := wrap_small _ (by omega) (by omega)
  go_cut [] (fun wx => ∃ w5, Below w2.heap.size w2 w5 ∧ wx = w5.setCell ⟨pt, 2, none⟩ (.int .i64 (m : Nat)))
  case first =>
    go_region_law (first | (go_simp; go_at_call 30; refine (HCO.out _).mono ?_; rintro e w' ⟨rfl, rfl⟩))
    all_goals
      go_wp2_with fail
      go_meet
      exact ⟨_, by first | exact (Below.refl _ _).drew | exact (Below.refl _ _).drew.drew, rfl⟩
  case rest =>
    obtain ⟨w5, hb5, hwx⟩ := hcut
    subst hwx
    have HB5 := Lib.hid hb5
    clear hb5 y2 hfz z2 fz2 hmw
    go_wp2_with fail
    go_ret
    have ht5 := HT2.out.below HB5.out
    have hbs : Beside (fun k => k = pt) w5 (w5.setCell ⟨pt, 2, none⟩ (.int .i64 (m : Nat))) := (Beside.refl (fun k => k = pt) w5).setCell (p := ⟨pt, 2, none⟩) (.inl rfl) _
    have hn := HN.out
    have hr5 : PairR w5 B pv L := ((HP.out.1.below HB1.out).lq HQ2.out).below HB5.out
    have hd := HD.out
    refine ⟨rfl, ⟨⟨_, _, _, (HL2.out.below HB5.out).beside hbs ?_, HFA.out⟩, ⟨m, pv, L, ht5.set2 m, ⟨HM.out, fun h => by cases h⟩, ⟨?_, ?_⟩, HP.out.2⟩, hn.2.2.2.2.1, hn.2.2.2.1⟩, ?_⟩
    · rintro k rfl
      exact ⟨hn.2.2.2.2.1, _, _, _, ht5, by decide, by decide, by decide, by decide, by decide, by decide⟩
    · exact ownsRow_beside hr5.row hbs (fun k hk e => ownsRow_ne hr5.row ht5 (by decide) k hk (by first | exact e | exact e.symm))
    · intro x hx
      obtain ⟨o1, o2, o3⟩ := hr5.own x hx
      exact ⟨ownsRow_beside o1 hbs (fun k hk e => ownsRow_ne o1 ht5 (by decide) k hk (by first | exact e | exact e.symm)), ownsRow_beside o2 hbs (fun k hk e => ownsRow_ne o2 ht5 (by decide) k hk (by first | exact e | exact e.symm)), o3⟩
    · refine (((Below.lt HB1.out).trans HQ2.out.lt).trans (Below.lt HB5.out)).trans (LT.beside hbs ?_)
      rintro k rfl cs t fr hh
      rw [show w5.heap[k]? = _ from ht5] at hh
      simp at hh
      exact .inl hh.2.1.symm
end
end Go.Proofs.Ytmnbkhgogogeiaa
