/-
  Several texts of one proof, each in a section of its own: ScnG, RangeW, Round.
-/
import Derived.Test.YtmnbkhgogogeiaaItrMg
import Derived.Test.YtmnbkhgogogeiaaMg24
import Derived.Test.YtmnbkhgogogeiaaRangeVMg
import Derived.Test.YtmnbkhgogogeiaaMg29
import Derived.OrdersIn
import Derived.Deep.RegionHeld
namespace Go.Proofs.Ytmnbkhgogogeiaa
section
set_option linter.unusedVariables false
open Go.RowKit

set_option maxRecDepth 100000 in
set_option maxHeartbeats 4000000 in
theorem pclone_gen {w : World} {B : Nat} {pv : Value} {L : List Pr} (h : PairR w B pv L) (hL : L.length ≤ 100000) :
    Calls Try.prog 38 #[pv] w fun e w' => ∃ o, e = .returned o ∧ w'.ownsRow w.heap.size 79 2 o L.length (prC L) ∧ Below w.heap.size w w' := by
  obtain ⟨i0, hi, hz0, hz1, hz2⟩ := info_parts Try.info79
  have one : ∀ u ∈ prC L, u.oneCell' = true := by
    intro u hu
    obtain ⟨x, hx, hu⟩ := List.mem_flatMap.1 hu
    obtain ⟨o1, o2, -⟩ := h.own x hx
    obtain ⟨a1, c1, e1⟩ := o1.shape
    obtain ⟨a2, c2, e2⟩ := o2.shape
    simp only [Pr.cells, List.mem_cons, List.not_mem_nil, or_false] at hu
    rcases hu with rfl | rfl
    · rw [e1]; rfl
    · rw [e2]; rfl
  rcases h.row.2 with ⟨rfl, h1⟩ | ⟨g, cap, cur, rfl, hb, hh, hc, hmx, hs, ht⟩
  · have h2 : L = [] := List.eq_nil_of_length_eq_zero h1
    subst h2
    clear h one h1 hL hi
    have he := fun (w : World) => Lib.run_eql_slice_nil (P := Try.prog) w 66 79 none 0 0 0 0 Try.underlying66
    go_enter Try.func38, Try.ntmps38
    go_wp2_with fail
    go_ret
    exact ⟨_, rfl, World.ownsRow_nil _ _ _ _, Below.refl _ _⟩
  have he := fun (w : World) => Lib.run_eql_slice_nil (P := Try.prog) w 66 79 (some ⟨g, 0, none⟩) L.length cap 0 0 Try.underlying66
  have hown0 := World.ownsRow_lit (base := w.heap.size) (e := 79) (size := 2) w #[] 0 (Nat.le_refl _) (by decide) rfl
  have hlen : (prC L).length = L.length * 2 := prC_length L
  have hnews : ∀ j u, (prC L)[j]? = some u → (w.alloc (.cells #[] 79)).cell? ((⟨g, 0, none⟩ : Addr).add j) = some u := by
    intro j u hj
    have hjl : j < L.length * 2 := by have := (List.getElem?_eq_some_iff.1 hj).1; omega
    have hx : w.cell? ⟨g, j, none⟩ = some u := by
      rw [cell_of_row _ _ _ _ 79 (0, 0) hh]
      have : cur.toList[j]? = some u := by
        rw [← ht, List.getElem?_take_of_lt hjl] at hj
        exact hj
      simpa using this
    have e : (⟨g, 0, none⟩ : Addr).add j = ⟨g, j, none⟩ := by simp [go_sem]
    rw [e, Below.cell ((Below.refl w.heap.size w).alloc (Nat.le_refl _) _) (World.block_lt_of_cell? w _ hx)]
    exact hx
  have HN := Lib.hid hnews
  have HLN := Lib.hid hlen
  clear h hh ht hs hnews hlen hb
  obtain ⟨xs, hxs⟩ : ∃ xs, prC L = xs := ⟨_, rfl⟩
  rw [hxs] at HN HLN one
  rw [hxs]
  clear hxs
  generalize L.length = n at *
  go_enter Try.func38, Try.ntmps38
  go_wp2_with (at_builtin; go_loud (refine wpList_append_own _ rfl (.tmp 5) (.tmp 6) 66 rfl (w.heap.size) 79 i0 _ 2 48 Try.underlying66 hi hz0 hz1 hz2 rfl (by decide) _ _ _ rfl hown0 ⟨g, 0, none⟩ n cap xs rfl HLN.out HN.out one (by simp [maxLen]; omega) (by simp; omega) (by simp) ?_))
  intro o w1 ho hgr _
  have HO := Lib.hid ho
  have HG := Lib.hid hgr
  clear ho hgr
  go_wp2_with fail
  go_ret
  refine ⟨_, rfl, ?_, ?_⟩
  · simpa using HO.out
  · exact ((Below.refl _ _).alloc (Nat.le_refl _) _).grown HG.out (by simp) (by intro k hk; simp [Value.ownBlock] at hk; omega)

set_option maxRecDepth 100000 in
set_option maxHeartbeats 4000000 in
theorem scan_pos {w : World} {B pt : Nat} {lv : Value} {sec cost : Nat} {pa : Option Addr} {pc : Nat} {L : List Pr} (ht : TbV w pt lv sec cost (.slice pa L.length pc)) (hr : PairR w B (.slice pa L.length pc) L) (h0 : ¬ pc = 0) (hL : L.length ≤ 100000) :
    Calls Try.prog 21 #[.pointer (some ⟨pt, 0, none⟩), .slice none 0 0, .slice none 0 0] w fun e w' => ∃ b o, e = .returned (.func (.func 39) #[] #[.pointer (some ⟨b, 0, none⟩)]) ∧ w'.heap[b]? = some (.cells #[o] 66 (0, 0)) ∧ w'.ownsRow w.heap.size 79 2 o L.length (prC L) ∧ w.heap.size ≤ b ∧ Below w.heap.size w w' := by
  have hbx : Below w.heap.size w (w.alloc (.cells #[.slice none 0 0] 66)) := (Below.refl _ _).alloc (Nat.le_refl _) _
  have HX := Lib.hid (heap_alloc_new w (.cells #[.slice none 0 0] 66))
  have HT1 := Lib.hid (ht.below hbx)
  have HR1 := Lib.hid (hr.below hbx)
  have HB1 := Lib.hid hbx
  have HS1 : Hid (w.heap.size < (w.alloc (.cells #[.slice none 0 0] 66)).heap.size) := Lib.hid (by simp)
  have HP : Hid (Calls Try.prog 36 #[.pointer (some ⟨pt, 0, none⟩), .slice none 0 0] (w.alloc (.cells #[.slice none 0 0] 66)) fun e w' => e = .returned (.tuple #[.int .i64 (0 : Nat), .bool (decide ((L.map Pr.of)[0]?.map (·.1) = some []))]) ∧ Below (w.alloc (.cells #[.slice none 0 0] 66)).heap.size (w.alloc (.cells #[.slice none 0 0] 66)) w') := Lib.hid (place_any HT1.out HR1.out.pairV (rowB_nil _) (by rw [List.length_map]; omega) 0 (Nat.zero_le _) (fun i hi => by rw [decide_eq_true (cmpL_nil _), decide_eq_true (Nat.zero_le _)]))
  have HL := Lib.hid (And.intro h0 hL)
  clear hbx ht hr h0 hL
  go_enter Try.func21, Try.ntmps21
  go_upto_region 3 with (fail)
  generalize w.alloc (.cells #[.slice none 0 0] 66) = w1 at *
  generalize decide ((L.map Pr.of)[0]?.map (·.1) = some []) = z at *
  go_upto_region 4 with (first | (go_at_call 36; refine HP.out.mono ?_; rintro e w2 ⟨rfl, hb2⟩; have HB2 := Lib.hid hb2; clear hb2))
  have HR2 := Lib.hid (HR1.out.below HB2.out)
  obtain ⟨-, -, -, t3⟩ := (HT1.out.below HB2.out).cells
  have hcap : L.length ≤ pc := by
    rcases HR2.out.row.2 with ⟨e, h1⟩ | ⟨g, cap, cur, e, hb, hh, hc, hmx, hs, htt⟩
    · omega
    · obtain ⟨-, -, rfl⟩ := Value.slice.inj e
      exact hc
  have HC := Lib.hid (pclone_gen HR2.out HL.out.2)
  have hl := HL.out
  have hp0 := hl.1
  clear HR2
  have hnz : (L.length : Int) ≤ (pc : Int) := by omega
  have hmx : max (0 : Int) (L.length : Int) = (L.length : Int) := by omega
  have fin : ∀ w3 oa oc, Below w2.heap.size w2 w3 → w3.ownsRow w2.heap.size 79 2 (.slice oa L.length oc) L.length (prC L) → Boxed w3 w.heap.size 66 (.slice none 0 0) := fun w3 oa oc hb3 ho =>
    (hb3.block _ (Nat.lt_of_lt_of_le HS1.out HB2.out.size)).trans ((HB2.out.block _ HS1.out).trans HX.out)
  have FIN := Lib.hid fin
  clear fin
  go_upto_region 8 with (first | (go_at_call 38; refine HC.out.mono ?_; rintro e w3 ⟨o, rfl, ho, hb3⟩; obtain ⟨oa, oc, rfl⟩ := own_shape ho; have hbx := FIN.out w3 oa oc hb3 ho; have hcx := hbx.cell; have hfx := hbx.frozen; have HBX := Lib.hid hbx; have HO := Lib.hid ho; have HB3 := Lib.hid hb3; clear ho hb3 hbx))
  go_wp2_with fail
  go_ret
  refine ⟨w.heap.size, _, rfl, Boxed.set _ HBX.out, ?_, Nat.le_refl _, ?_⟩
  · exact rows_mono (ownsRow_setCell_below HO.out (a := ⟨w.heap.size, 0, none⟩) (Nat.lt_of_lt_of_le HS1.out HB2.out.size) _) (Nat.le_trans HB1.out.size HB2.out.size)
  · exact (HB1.out.trans ((HB2.out.trans (HB3.out.mono HB2.out.size)).mono HB1.out.size)).setCell (p := ⟨w.heap.size, 0, none⟩) (Nat.le_refl _) _

set_option maxRecDepth 100000 in
set_option maxHeartbeats 4000000 in
theorem scan_zero {w : World} {B pt : Nat} {lv : Value} {sec cost : Nat} {pa : Option Addr} (ht : TbV w pt lv sec cost (.slice pa 0 0)) (hr : PairR w B (.slice pa 0 0) []) :
    Calls Try.prog 21 #[.pointer (some ⟨pt, 0, none⟩), .slice none 0 0, .slice none 0 0] w fun e w' => ∃ b o, e = .returned (.func (.func 39) #[] #[.pointer (some ⟨b, 0, none⟩)]) ∧ w'.heap[b]? = some (.cells #[o] 66 (0, 0)) ∧ w'.ownsRow w.heap.size 79 2 o 0 (prC []) ∧ w.heap.size ≤ b ∧ Below w.heap.size w w' := by
  have hbx : Below w.heap.size w (w.alloc (.cells #[.slice none 0 0] 66)) := (Below.refl _ _).alloc (Nat.le_refl _) _
  have HX := Lib.hid (heap_alloc_new w (.cells #[.slice none 0 0] 66))
  have HT1 := Lib.hid (ht.below hbx)
  have HR1 := Lib.hid (hr.below hbx)
  have HB1 := Lib.hid hbx
  have HS1 : Hid (w.heap.size < (w.alloc (.cells #[.slice none 0 0] 66)).heap.size) := Lib.hid (by simp)
  have HP : Hid (Calls Try.prog 36 #[.pointer (some ⟨pt, 0, none⟩), .slice none 0 0] (w.alloc (.cells #[.slice none 0 0] 66)) fun e w' => e = .returned (.tuple #[.int .i64 (0 : Nat), .bool (decide ((([] : List Pr).map Pr.of)[0]?.map (·.1) = some []))]) ∧ Below (w.alloc (.cells #[.slice none 0 0] 66)).heap.size (w.alloc (.cells #[.slice none 0 0] 66)) w') := Lib.hid (place_any HT1.out HR1.out.pairV (rowB_nil _) (by decide) 0 (Nat.zero_le _) (fun i hi => by rw [decide_eq_true (cmpL_nil _), decide_eq_true (Nat.zero_le _)]))
  clear hbx ht hr
  go_enter Try.func21, Try.ntmps21
  go_upto_region 3 with (fail)
  generalize w.alloc (.cells #[.slice none 0 0] 66) = w1 at *
  generalize decide ((([] : List Pr).map Pr.of)[0]?.map (·.1) = some []) = z at *
  go_upto_region 4 with (first | (go_at_call 36; refine HP.out.mono ?_; rintro e w2 ⟨rfl, hb2⟩; have HB2 := Lib.hid hb2; clear hb2))
  have HR2 := Lib.hid (HR1.out.below HB2.out)
  obtain ⟨-, -, -, t3⟩ := (HT1.out.below HB2.out).cells
  have HC := Lib.hid (pclone_gen HR2.out (by decide))
  clear HR2
  have fin : ∀ w3 oa oc, Below w2.heap.size w2 w3 → w3.ownsRow w2.heap.size 79 2 (.slice oa 0 oc) 0 (prC []) → Boxed w3 w.heap.size 66 (.slice none 0 0) := fun w3 oa oc hb3 ho =>
    (hb3.block _ (Nat.lt_of_lt_of_le HS1.out HB2.out.size)).trans ((HB2.out.block _ HS1.out).trans HX.out)
  have FIN := Lib.hid fin
  clear fin
  go_upto_region 8 with (first | (go_at_call 38; refine HC.out.mono ?_; rintro e w3 ⟨o, rfl, ho, hb3⟩; obtain ⟨oa, oc, rfl⟩ := own_shape ho; have hbx := FIN.out w3 oa oc hb3 ho; have hcx := hbx.cell; have hfx := hbx.frozen; have HBX := Lib.hid hbx; have HO := Lib.hid ho; have HB3 := Lib.hid hb3; clear ho hb3 hbx))
  go_wp2_with fail
  go_ret
  refine ⟨w.heap.size, _, rfl, Boxed.set _ HBX.out, ?_, Nat.le_refl _, ?_⟩
  · exact rows_mono (ownsRow_setCell_below HO.out (a := ⟨w.heap.size, 0, none⟩) (Nat.lt_of_lt_of_le HS1.out HB2.out.size) _) (Nat.le_trans HB1.out.size HB2.out.size)
  · exact (HB1.out.trans ((HB2.out.trans (HB3.out.mono HB2.out.size)).mono HB1.out.size)).setCell (p := ⟨w.heap.size, 0, none⟩) (Nat.le_refl _) _

theorem scan_gen {w : World} {B pt : Nat} {lv : Value} {sec cost : Nat} {pv : Value} {L : List Pr} (ht : TbV w pt lv sec cost pv) (hr : PairR w B pv L) (hL : L.length ≤ 100000) :
    Calls Try.prog 21 #[.pointer (some ⟨pt, 0, none⟩), .slice none 0 0, .slice none 0 0] w fun e w' => ∃ b o, e = .returned (.func (.func 39) #[] #[.pointer (some ⟨b, 0, none⟩)]) ∧ w'.heap[b]? = some (.cells #[o] 66 (0, 0)) ∧ w'.ownsRow w.heap.size 79 2 o L.length (prC L) ∧ w.heap.size ≤ b ∧ Below w.heap.size w w' := by
  obtain ⟨pa, pc, rfl⟩ := own_shape hr.row
  by_cases h0 : pc = 0
  · have hl : L.length = 0 := by
      rcases hr.row.2 with ⟨_, h1⟩ | ⟨g, cap, cur, e, hb, hh, hc, hmx, hs, htt⟩
      · exact h1
      · obtain ⟨-, -, rfl⟩ := Value.slice.inj e
        omega
    obtain rfl : L = [] := List.eq_nil_of_length_eq_zero hl
    subst h0
    exact scan_zero ht hr
  · exact scan_pos ht hr h0 hL

theorem itr_nil (n p M : Nat) : SeqV Fence.wide n Try.prog 39 #[.pointer (some ⟨p, 0, none⟩)] (ItE M) (fun A B => Below M A B) [] (fun W => W.cell? ⟨p, 0, none⟩ = some (.slice none 0 0)) := by
  intro y J Jx W hc hJ hJx hY h0
  refine callsIn_of_wp Try.func39 rfl trivial ?_ rfl
  simp only [Try.ntmps39, List.size_toArray, List.length_cons, List.length_nil, Nat.reduceAdd, Nat.reduceSub, Array.replicate_succ, Array.replicate_zero, List.push_toArray, List.append_toArray, List.nil_append, List.cons_append]
  gi_wp2
  gi_loopw [7] (fun i wr => i = .int .i64 0 ∧ wr = W) (fun _ _ => 0)
  case atStart => exact ⟨rfl, rfl⟩
  case round =>
    obtain ⟨rfl, rfl⟩ := hrel
    gi_wp2
    go_end0
    exact ⟨⟨_, rfl⟩, .inl h0⟩

/-- Scan's answer: an iterator of all pairs -/
theorem scan_seq {w : World} {B pt : Nat} {lv : Value} {sec cost : Nat} {pv : Value} {L : List Pr} (ht : TbV w pt lv sec cost pv) (hr : PairR w B pv L) (hL : L.length ≤ 100000) (hz : ∀ x ∈ L, x.key.length ≤ 100000 ∧ x.val.length ≤ 100000) :
    Calls Try.prog 21 #[.pointer (some ⟨pt, 0, none⟩), .slice none 0 0, .slice none 0 0] w fun e w' => ∃ b St, e = .returned (.func (.func 39) #[] #[.pointer (some ⟨b, 0, none⟩)]) ∧ SeqV Fence.wide 2 Try.prog 39 #[.pointer (some ⟨b, 0, none⟩)] (ItE w'.heap.size) (fun A B => Below w'.heap.size A B) L St ∧ (∀ W, Below w'.heap.size w' W → St W) ∧ Below w.heap.size w w' := by
  refine (scan_gen ht hr hL).mono ?_
  rintro e w' ⟨b, o, rfl, hb, ho, hwb, hbel⟩
  rcases ho.2 with ⟨rfl, h0⟩ | ⟨g, cap, cur, rfl, hg, hh, hc, hmx, hs, htk⟩
  · obtain rfl : L = [] := List.eq_nil_of_length_eq_zero h0
    refine ⟨b, _, rfl, itr_nil 2 b w'.heap.size, fun W hW => ?_, hbel⟩
    rw [hW.cell (p := ⟨b, 0, none⟩) (lt_of_block hb)]
    exact cell_of_row w' b 0 _ _ _ hb
  · have hcell : ∀ j v, j < L.length * 2 → (prC L)[j]? = some v → w'.cell? ⟨g, j, none⟩ = some v := by
      intro j v hj hv
      rw [cell_of_row _ _ _ _ 79 (0, 0) hh]
      have : cur.toList[j]? = some v := by
        rw [← htk, List.getElem?_take_of_lt (by omega)] at hv
        exact hv
      simpa using this
    have hlow : ∀ {v : Value} {l : List Nat}, OwnB w B v l → ∀ k, v.ownBlock = some k → k < w'.heap.size := fun h k e => Nat.lt_of_lt_of_le (own_lt h k e) hbel.size
    have hits : ItS w' w'.heap.size b g cap L := by
      refine ⟨hb, fun i hi => ?_, fun i hi => ?_, ⟨lt_of_block hb, lt_of_block hh, Nat.le_refl _, fun i hi => ?_⟩, fun i hi => hz _ (List.getElem_mem hi)⟩
      · obtain ⟨g1, g2⟩ := prC_get L i hi
        exact ⟨hcell _ _ (by omega) g1, hcell _ _ (by omega) g2⟩
      · obtain ⟨o1, o2, o3, o4⟩ := hr.own _ (List.getElem_mem hi)
        exact ⟨(o1.rowB o3).below hbel, (o2.rowB o4).below hbel⟩
      · obtain ⟨o1, o2, o3, o4⟩ := hr.own _ (List.getElem_mem hi)
        exact ⟨hlow o1, hlow o2⟩
    exact ⟨b, _, rfl, itr_on 2 w'.heap.size b g cap L hL hc, fun W hW => hits.below hW, hbel⟩
end
section
open Go Go.RowKit

variable {F : Fence} {n : Nat} {P : Program}

/-- the loop 'for .. := range g': the caller's law -/
theorem range_w {α : Type} {g : Operand} {ps : Array Tmp} {assign body : Code} {Q : Exit → Act → World → Prop} {a : Act} {w : World}
    (hro : F.round = none) (h1 : 1 ≤ n) {gf : Nat} {lb : Array Value} (hg : a.eval g = .func (.func gf) #[] lb) (hFg : F.fn gf) (eg : ∀ args w, (callFunc gf args).run P w = .ok (.enter gf args) w)
    {E : α → World → Value → Value → Prop} {Kp : World → World → Prop} {xs : List α} {St : World → Prop} (hseq : SeqV F (n - 1) P gf lb E Kp xs St)
    (hSt : ∀ r, St ((w.alloc (.deferred (some []))).alloc (.loop r)))
    (hKt : ∀ {A B C : World}, Kp A B → Kp B C → Kp A C) (hKb : ∀ (W : World) (r r' : Loop), Book W w.heap.size r → Kp W (W.putObj (w.heap.size + 1) (.loop r'))) (hps : 2 = ps.size)
    (hE : ∀ x u v (W : World) (r r' : Loop), Book W w.heap.size r → E x W u v → E x (W.putObj (w.heap.size + 1) (.loop r')) u v)
    (I : List α → World → Prop) (Ix : Code → List α → World → Prop) (hI : OwnFrom w.heap.size I) (hIx : ∀ c, OwnFrom w.heap.size (Ix c)) (hIB : Calm I) (hIxB : ∀ c, Calm (Ix c)) (h0 : I [] w) (f : Act → Value → Value → Act)
    (hassign : ∀ (x : α) (u v : Value) (W1 : World), E x W1 u v → ∀ (W : World) (K : Act → World → Prop), K (f a u v) W →
      assign.wpIn (F.inRound (w.heap.size + 1)) (n - 1 - 1) P (Exit.then K (fun _ _ _ => False)) { tmps := (ps.zip #[u, v]).foldl (fun t (p, v) => t.setIfInBounds p v) a.tmps, defers := [] } W)
    (hbody : ∀ (pre : List α) (x : α) (rest : List α) (u v : Value) (W : World), xs = pre ++ x :: rest → E x W u v → I pre W → body.wpIn (F.inRound (w.heap.size + 1)) (n - 1 - 1) P (ownPostG w.heap.size Kp I Ix (pre ++ [x]) W) (f a u v) W)
    (hdone : ∀ (W : World), I xs W → W.heap[w.heap.size]? = some (.deferred (some [])) → Q .normal { a with defers := { target := .collected w.heap.size, args := #[] } :: a.defers } W)
    (hstop : ∀ (c : Code) (pre : List α) (W : World), pre <+: xs → Ix c pre W → W.heap[w.heap.size]? = some (.deferred (some [])) → c.wpIn F n P Q { a with defers := { target := .collected w.heap.size, args := #[] } :: a.defers } W) :
    (Code.rangeFunc g ps assign body).wpIn F n P Q a w := by
  refine wpIn_rangeFunc fun fn hfn => ?_
  rw [hro]
  obtain ⟨rec, hrec⟩ : ∃ rec : LoopState → Option Code → Loop, rec = fun st pe => { state := st, pending := pe, fn, tmps := a.tmps, params := ps, assign, body, defers := w.heap.size } := ⟨_, rfl⟩
  have hbook : Book ((w.alloc (.deferred (some []))).alloc (.loop (rec .ready none))) w.heap.size (rec .ready none) := by
    constructor
    · have := World.alloc_heap_new (w.alloc (.deferred (some []))) (.loop (rec .ready none)); rwa [World.size_alloc] at this
    · exact (Below.heap_alloc _ _ _ (by simp)).trans (World.alloc_heap_new w _)
  have hput : ∀ {J : List α → World → Prop}, OwnFrom w.heap.size J → ∀ s (W : World) (r r' : Loop), Book W w.heap.size r → J s W → J s (W.putObj (w.heap.size + 1) (.loop r')) := fun hJ s W r r' hb hs => hJ.putObj _ hs (by omega) hb.1 rfl
  refine ⟨w.heap.size + 1, [{ target := .collected w.heap.size, args := #[] }], (w.alloc (.deferred (some []))).alloc (.loop (rec .ready none)), { target := .fn (.func gf) lb, args := #[.func (.yield (w.heap.size + 1)) #[] #[]] }, (w.alloc (.deferred (some []))).alloc (.loop (rec .ready none)), gf,
    #[.func (.yield (w.heap.size + 1)) #[] #[]] ++ lb, (w.alloc (.deferred (some []))).alloc (.loop (rec .ready none)), ?_, ?_, ?_, ?_, fun _ => h1, ?_⟩
  · rw [hrec]; exact run_enterLoop_outer _ _ _ _ _
  · simp only [resolve, hg]
    simp [go_sem]
  · intro f' hf'; simp [Target.leads] at hf'; subst hf'; exact hFg
  · simp [invoke, go_sem, eg]
  · refine (hseq (w.heap.size + 1) (fun pre W => I pre W ∧ Book W w.heap.size (rec .ready none)) (fun pre W => ∃ c, Ix c pre W ∧ Book W w.heap.size (rec .done (some c))) _ (hSt _)
      (fun s A C hs hgr => ⟨hIB s A C hs.1 hgr, hs.2.calm hgr⟩) (fun s A C hs hgr => by obtain ⟨c, hc, hk⟩ := hs; exact ⟨c, hIxB c s A C hc hgr, hk.calm hgr⟩)
      (fun pre x rest u v W1 hx he hs => round_v (en := #[u, v]) (a₁ := f a u v) (E := fun W => E x W u v) rec hrec hfn hps hKt hKb (hput hI) (fun c => hput (hIx c)) (hassign x u v W1 he) (fun W r r' hb h => hE x u v W r r' hb h) (fun W hi h => hbody pre x rest u v W hx h hi) hs.1 he hs.2)
      ⟨hI.alloc _ (hI.alloc _ h0), hbook⟩).mono ?_
    rintro e W2 ⟨⟨v, rfl⟩, (⟨hi, hk⟩ | ⟨pre, hp, c, hi, hk⟩)⟩
    · exact ⟨none, _, by have := run_endLoop (P := P) hk.1 (by rw [hrec]; simp); rw [hrec] at this; exact this, hdone _ (hput hI _ _ _ _ hk hi) (hk.put _).2⟩
    · exact ⟨some c, _, by have := run_endLoop (P := P) hk.1 (by rw [hrec]; simp); rw [hrec] at this; exact this, hstop c pre _ hp (hput (hIx c) _ _ _ _ hk hi) (hk.put _).2⟩
end
section
set_option linter.unusedVariables false
open Go Go.RowKit

theorem rows_round {n l : Nat} {P : Program} {row : String} {args : Array Value} {w : World} {R : Value → World → Prop} (h : Rows P row args w R) : RowsIn (Fence.wide.inRound l) n P row args w R :=
  fun c cs _ => let ⟨v, w', r, s⟩ := h c cs; ⟨v, w', r, stepsIn_wide.2 s⟩

theorem oper_round {n l : Nat} {P : Program} {o : Oper} {a : Act} {w : World} {K K' : Act → World → Prop} {Q : Exit → Act → World → Prop} (hQ : ¬ LetsOut Q) (hd : ∀ c, o.op ≠ .defer c) (hK : ∀ a w, K a w → K' a w)
    (h : o.wp P a w K Q ∨ (o.asks P a w ∧ LetsOut Q)) : o.wpIn (Fence.wide.inRound l) n P a w K' Q := by
  rcases h with h | h
  · refine ⟨fun _ _ => trivial, ?_⟩
    have e : o.semAt (Fence.wide.inRound l).round a.eval = execOp a.eval o := Oper.semAt_some l _ _ hd
    rw [e]
    unfold Oper.wp at h
    generalize (execOp a.eval o).run P w = r at *
    have hdep : (Fence.wide.inRound l).depth.isSome = true → 1 ≤ n := fun h => by cases h
    cases r with
    | ok x w' =>
      cases x with
      | value v => exact hK _ _ h
      | skip => exact hK _ _ h
      | defer d => exact hK _ _ h
      | enter f args =>
        refine ⟨hdep, CallsIn.inRound l (callsIn_wide.2 (Calls.mono h ?_))⟩
        intro e w'' he
        cases e with
        | returned v => exact hK _ _ he
        | panicked c => exact he
        | outgrown => exact he
      | row r args => exact ⟨hdep, rows_round (Rows.mono h fun v w'' he => hK _ _ he)⟩
      | _ => exact h.elim
    | halt x w' =>
      cases x <;> first | exact h | exact h.elim
  · exact absurd h.2 hQ

theorem any_round {n l : Nat} {P : Program} {md : Region.Mode} {ops : Array Oper} {Q : Exit → Act → World → Prop} (hQ : ¬ LetsOut Q) (hd : ∀ (i : Nat) (o : Oper), ops[i]? = some o → ∀ c, o.op ≠ .defer c) :
    ∀ (fuel : Nat) (listed : Array Bool) (a : Act) (w : World), wpAny P md ops Q fuel listed a w → wpAnyIn (Fence.wide.inRound l) n P md ops Q fuel listed a w
  | 0, listed, a, w, h => h
  | fuel + 1, listed, a, w, h => by
    refine ⟨h.1, fun i hi => ?_⟩
    have h2 := h.2 i hi
    unfold wpOp at h2
    unfold wpOpIn
    cases ho : ops[i]? with
    | none =>
      rw [ho] at h2
      exact any_round hQ hd fuel _ a w h2
    | some o =>
      rw [ho] at h2
      simp only at h2 ⊢
      split
      · rename_i hw
        rw [if_pos hw] at h2
        exact oper_round hQ (hd i o ho) (fun a w hh => any_round hQ hd fuel _ a w hh) h2
      · rename_i hw
        rw [if_neg hw] at h2
        exact ⟨fun _ _ => trivial, any_round hQ hd fuel _ _ w h2⟩

theorem region_round {n l id : Nat} {P : Program} {ops : Array Oper} {Q : Exit → Act → World → Prop} {a : Act} {w : World} (hm : P.follows .mixedOrders = true) (hQ : ¬ LetsOut Q)
    (hd : ∀ (i : Nat) (o : Oper), ops[i]? = some o → ∀ c, o.op ≠ .defer c) (h : wpAny P .any ops Q ops.size (Array.replicate ops.size false) a w.drew) : (Code.region id ops true).wpIn (Fence.wide.inRound l) n P Q a w :=
  wpIn_region_any hm (any_round hQ hd _ _ _ _ h)
/-- no operation of the region defers -/
def noDefer (ops : Array Oper) : Bool := ops.toList.all fun o => match o.op with | .defer _ => false | _ => true
theorem noDefer_at {ops : Array Oper} (h : noDefer ops = true) (i : Nat) (o : Oper) (ho : ops[i]? = some o) (c : Call) : o.op ≠ .defer c := by
  intro e
  have h1 := List.all_eq_true.1 h o (Array.mem_toList_iff.2 (Array.mem_of_getElem? ho))
  rw [e] at h1
  cases h1
theorem region_roundH {n l id : Nat} {P : Program} {ops : Array Oper} {Q : Exit → Act → World → Prop} {a : Act} {w : World} (S : World → Prop) (hm : P.follows .mixedOrders = true) (hQ : ¬ LetsOut Q)
    (hd : noDefer ops = true) (hS : S w.drew) (h : S w.drew → wpAnyH P .any ops Q S ops.size (Array.replicate ops.size false) a w.drew) : (Code.region id ops true).wpIn (Fence.wide.inRound l) n P Q a w :=
  region_round hm hQ (noDefer_at hd) (wpAny_of_held _ _ _ _ (h hS))
end
end Go.Proofs.Ytmnbkhgogogeiaa
