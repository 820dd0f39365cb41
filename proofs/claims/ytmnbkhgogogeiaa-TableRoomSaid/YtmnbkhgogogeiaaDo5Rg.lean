/-
  Do of a table that is empty: the pairs' bytes lie behind all that was there.
-/
import Derived.Test.YtmnbkhgogogeiaaRg19
namespace Go.Proofs.Ytmnbkhgogogeiaa
set_option linter.unusedVariables false
open Go.RowKit

/-- a table between two calls, and its pairs' bytes lie at B5 or behind -/
structure Tb5 (B B5 : Nat) (w0 w : World) (pt pl pd : Nat) (kv : Value) (ring u sec : Nat) (P : List (List Nat × List Nat)) : Prop where
  st : ∃ s S W, Lg B w0 w pl pd kv s S W ∧ Fit s S W ∧ s.ring = ring ∧ s.used ≤ u ∧ s.number ≤ u + 1 ∧ s.ents.length ≤ u ∧ W.length ≤ u
  tb : ∃ cost pv L, TbV w pt (.pointer (some ⟨pl, 0, none⟩)) sec cost pv ∧ cost ≤ 3 * u ∧ (PairR w B pv L ∧ ∀ x ∈ L, OwnB w B5 x.kv x.key ∧ OwnB w B5 x.vv x.val) ∧ L.map Pr.of = P
  base : B ≤ pt
  few : u ≤ 65534
theorem Tb.five {B B5 : Nat} {w0 w : World} {pt pl pd : Nat} {kv : Value} {ring u sec : Nat} {P : List (List Nat × List Nat)} (h : Tb B w0 w pt pl pd kv ring u sec P) (hP : P = []) : Tb5 B B5 w0 w pt pl pd kv ring u sec P := by
  obtain ⟨h1, ⟨cost, pv, L, ht, hc, hr, hm⟩, hB, hu⟩ := h
  obtain rfl : L = [] := by rw [hP] at hm; simpa using hm
  exact ⟨h1, ⟨cost, pv, [], ht, hc, ⟨hr, fun x hx => by cases hx⟩, hm⟩, hB, hu⟩

theorem Tb.ins5 {B B5 : Nat} {w0 w X w7 : World} {pt pl pd : Nat} {kv : Value} {ring u sec cost : Nat} {s : LgS} {S : List (List Nat)} {W : List (Nat × List Nat)} {pv : Value} {L : List Pr} (hl : Lg B w0 w pl pd kv s S W)
    (hst : Fit s S W ∧ s.ring = ring ∧ s.used ≤ u ∧ s.number ≤ u + 1 ∧ s.ents.length ≤ u ∧ W.length ≤ u) (ht : TbV w pt (.pointer (some ⟨pl, 0, none⟩)) sec cost pv) (hc : cost ≤ 3 * u) (hr : PairR w B pv L ∧ ∀ x ∈ L, OwnB w B5 x.kv x.key ∧ OwnB w B5 x.vv x.val) (hB : B ≤ pt) (hu : u ≤ 65534)
    (hX : Below w.heap.size w X) (hg : X.grownBy w7 pv.ownBlock) (x : Pr) (hx : OwnB w B x.kv x.key ∧ OwnB w B x.vv x.val ∧ (∀ n ∈ x.key, n < 256) ∧ ∀ n ∈ x.val, n < 256) (hx5 : OwnB w B5 x.kv x.key ∧ OwnB w B5 x.vv x.val) {a : Option Addr} {c : Nat} (ho : w7.ownsRow B 79 2 (.slice a (L.length + 1) c) (L.length + 1) (prC L ++ [x.kv, x.vv])) :
    Tb5 B B5 w0 (w7.setCell ⟨pt, 3, none⟩ (.slice a (L.length + 1) c)) pt pl pd kv ring u sec (L.map Pr.of ++ [(x.key, x.val)]) ∧ LT w (w7.setCell ⟨pt, 3, none⟩ (.slice a (L.length + 1) c)) := by
  have hrX := hr.1.below hX
  have hb : Beside (fun k => k = pt ∨ pv.ownBlock = some k) X (w7.setCell ⟨pt, 3, none⟩ (.slice a (L.length + 1) c)) :=
    ((Beside.refl _ X).grown hg (fun k hk => .inl (.inr hk))).setCell (p := ⟨pt, 3, none⟩) (.inl (.inl rfl)) _
  have htX := ht.below hX
  have hown : ∀ k, (k = pt ∨ pv.ownBlock = some k) → B ≤ k ∧ ∃ cs t fr, X.heap[k]? = some (.cells cs t fr) ∧ (t = 68 ∨ t = 79) := by
    rintro k (rfl | hk)
    · exact ⟨hB, _, _, _, htX, .inl rfl⟩
    · obtain ⟨h1, h2⟩ := World.ownsRow.lt hrX.row k hk
      rcases hrX.row.2 with ⟨e, _⟩ | ⟨g, cap, cur, e, hg, hh, _⟩
      · rw [e] at hk; cases hk
      · rw [e] at hk
        obtain rfl : g = k := by simpa [Value.ownBlock] using hk
        exact ⟨h1, _, _, _, hh, .inr rfl⟩
  have hnb : ∀ (v : Value) (l : List Nat), OwnB X B v l → OwnB (w7.setCell ⟨pt, 3, none⟩ (.slice a (L.length + 1) c)) B v l := by
    intro v l h
    refine ownsRow_beside h hb (fun k hk hkk => ?_)
    obtain ⟨_, cs, t, fr, hh, ht⟩ := hown k hkk
    exact ownsRow_ne h hh (by rintro rfl; rcases ht with h | h <;> cases h) k hk rfl
  have ht7 : TbV w7 pt (.pointer (some ⟨pl, 0, none⟩)) sec cost pv := (hg.block pt (lt_of_block htX) (fun e => ownsRow_ne hrX.row htX (by decide) pt e.symm rfl)).trans htX
  have hlt : LT w (w7.setCell ⟨pt, 3, none⟩ (.slice a (L.length + 1) c)) := by
    refine (Below.lt hX).trans (LT.beside hb ?_)
    intro k hk cs t fr hh
    obtain ⟨_, cs2, t2, fr2, hh2, ht⟩ := hown k hk
    rw [hh] at hh2
    simp at hh2
    rw [hh2.2.1]
    exact ht
  refine ⟨⟨⟨s, S, W, (hl.below hX).beside hb (fun k hk => ?_), hst⟩, ⟨cost, _, L ++ [x], ht7.set3 _, hc, ⟨⟨?_, ?_⟩, ?_⟩, ?_⟩, hB, hu⟩, hlt⟩
  · obtain ⟨h1, cs, t, fr, hh, ht⟩ := hown k hk
    exact ⟨h1, cs, t, fr, hh, by rcases ht with rfl | rfl <;> decide⟩
  · have e1 : (L ++ [x]).length = L.length + 1 := by simp
    have e2 : prC (L ++ [x]) = prC L ++ [x.kv, x.vv] := by simp [prC, Pr.cells]
    rw [e1, e2]
    refine ownsRow_beside (own := fun k => k = pt) ho ((Beside.refl (fun k => k = pt) w7).setCell (p := ⟨pt, 3, none⟩) (.inl rfl) _) (fun k hk e => ?_)
    subst e
    exact ownsRow_ne ho ht7 (by decide) _ hk rfl
  · intro y hy
    rcases List.mem_append.1 hy with hy | hy
    · obtain ⟨o1, o2, o3⟩ := hrX.own y hy
      exact ⟨hnb _ _ o1, hnb _ _ o2, o3⟩
    · obtain rfl := List.mem_singleton.1 hy
      exact ⟨hnb _ _ (ownsRow_below hx.1 hX), hnb _ _ (ownsRow_below hx.2.1 hX), hx.2.2⟩
  · intro y hy
    rcases List.mem_append.1 hy with hy | hy
    · exact ⟨(hr.2 y hy).1.lt hlt, (hr.2 y hy).2.lt hlt⟩
    · obtain rfl := List.mem_singleton.1 hy
      exact ⟨hx5.1.lt hlt, hx5.2.lt hlt⟩
  · simp [Pr.of]

set_option maxRecDepth 100000 in
set_option maxHeartbeats 4000000 in
theorem apply_end5 {B B5 : Nat} {w0 w : World} {pt pl pd : Nat} {kv : Value} {ring u sec : Nat} {P : List (List Nat × List Nat)} (h : Tb5 B B5 w0 w pt pl pd kv ring u sec P) {ov : Value} {L : List Ch} (ho : ChR w B5 ov L) (hB5 : B ≤ B5) (hd : ∀ x ∈ L, x.drop = false) (hB : B ≤ w.heap.size)
    (hlen : P.length + L.length ≤ 10000) (hk : ∀ j (hj : j < L.length), ∀ x ∈ P ++ (L.take j).map Ch.pair, decide (0 ≤ cmpL x.1 L[j].key) = false) :
    Calls Try.prog 29 #[.pointer (some ⟨pt, 0, none⟩), ov] w fun e w' => e = .returned (.tuple #[]) ∧ Tb5 B B5 w0 w' pt pl pd kv ring u sec (P ++ L.map Ch.pair) ∧ LT w w' := by
  obtain ⟨oa, oc, rfl⟩ := own_shape ho.row
  have HH := Lib.hid h
  have HO := Lib.hid ho
  have HK := Lib.hid (And.intro hd hk)
  have HLN := Lib.hid (And.intro hlen hB)
  have hml : L.length ≤ 9223372036854775807 := by omega
  clear h ho hd hk hlen
  go_enter Try.func29, Try.ntmps29
  go_wp2_with fail
  go_loopw [10] (fun i wr => ∃ k : Nat, k ≤ L.length ∧ i = .int .i64 (k : Nat) ∧ Tb5 B B5 w0 wr pt pl pd kv ring u sec (P ++ (L.map Ch.pair).take k) ∧ LT w wr) (fun i _ => L.length - (RowKit.intOf i).toNat)
  case atStart => exact ⟨0, Nat.zero_le _, rfl, by simpa using HH.out, LT.refl _⟩
  case round =>
    obtain ⟨k, hk, rfl, htb, hlt⟩ := hrel
    have HLT := Lib.hid hlt
    by_cases hkn : k < L.length
    · have hkz : (k : Int) < (L.length : Int) := by omega
      have hor := HO.out.lt hlt
      obtain ⟨g, cap, e, hcap, c0, c1, c2⟩ := hor.at k hkn
      obtain ⟨rfl, -, rfl⟩ := Value.slice.inj e
      obtain ⟨x, hx⟩ : ∃ x, L[k] = x := ⟨_, rfl⟩
      obtain ⟨o1, o2, o3, o4⟩ := hor.own _ (List.getElem_mem hkn)
      have hxd := HK.out.1 _ (List.getElem_mem hkn)
      rw [hx] at c0 c1 c2 o1 o2 o3 o4 hxd
      rw [hxd] at c2
      have HNX : Hid (P ++ (L.map Ch.pair).take (k + 1) = (P ++ (L.map Ch.pair).take k) ++ [x.pair]) := Lib.hid (by rw [List.take_succ_eq_append_getElem (by simpa using hkn), List.append_assoc, List.getElem_map, hx])
      have HKY : Hid (∀ y ∈ P ++ (L.map Ch.pair).take k, decide (0 ≤ cmpL y.1 x.key) = false) := Lib.hid (by
        have := HK.out.2 k hkn
        rw [hx, List.map_take] at this
        exact this)
      obtain ⟨xk, xv, key, val, drop⟩ := x
      simp only at c0 c1 c2 o1 o2 o3 o4 hxd HKY
      subst hxd
      obtain ⟨ka, kc, rfl⟩ := o1.shape
      obtain ⟨va, vc, rfl⟩ := o2.shape
      have HX : Hid (OwnB wr B (.slice ka key.length kc) key ∧ OwnB wr B (.slice va val.length vc) val ∧ (∀ n ∈ key, n < 256) ∧ ∀ n ∈ val, n < 256) := Lib.hid ⟨owns_mono o1 hB5, owns_mono o2 hB5, o3, o4⟩
      have HXN : Hid (OwnB wr B5 (.slice ka key.length kc) key ∧ OwnB wr B5 (.slice va val.length vc) val) := Lib.hid ⟨o1, o2⟩
      have HKN := Lib.hid hkn
      have HTB := Lib.hid htb
      have hkc : (k : Int) < (oc : Int) := by omega
      clear htb hlt hor o1 o2 o3 o4 e hx
      obtain ⟨Q, hQ⟩ : ∃ Q, P ++ (L.map Ch.pair).take k = Q := ⟨_, rfl⟩
      have HQL : Hid (Q.length ≤ 10000) := Lib.hid (by have := HLN.out.1; rw [← hQ, List.length_append, List.length_take]; omega)
      rw [hQ] at HTB HKY HNX
      clear hQ
      go_upto_region 3 with (fail)
      have hA5 : Below wr.heap.size wr (wr.alloc (.cells #[.slice ka key.length kc, .slice va val.length vc, .bool false] 35)) := (Below.refl _ _).alloc (Nat.le_refl _) _
      have HX5 := Lib.hid (heap_alloc_new wr (.cells #[.slice ka key.length kc, .slice va val.length vc, .bool false] 35))
      have HB5 := Lib.hid hA5
      clear c0 c1 c2 hA5
      generalize wr.alloc (.cells #[.slice ka key.length kc, .slice va val.length vc, .bool false] 35) = w5 at *
      generalize hb5 : wr.heap.size = b5 at *
      have HE5 := Lib.hid hb5
      clear hb5
      obtain ⟨⟨s, S, W, hlg, hst⟩, ⟨cost, pv, L2, htv, hco, ⟨hpr, hp5⟩, hm2⟩, hBp, hfu⟩ := HTB.out
      have hbw : Below wr.heap.size wr w5 := by rw [HE5.out]; exact HB5.out
      have HST := Lib.hid (And.intro (hlg.below hbw) (And.intro hst (And.intro hco (And.intro hBp hfu))))
      have HTV := Lib.hid (htv.below hbw)
      have HP5 := Lib.hid hp5
      have HPW := Lib.hid hpr
      have HPR := Lib.hid (And.intro (hpr.below hbw) hm2)
      have HX5O : Hid (OwnB w5 B (.slice ka key.length kc) key ∧ OwnB w5 B (.slice va val.length vc) val ∧ (∀ n ∈ key, n < 256) ∧ ∀ n ∈ val, n < 256) := Lib.hid ⟨ownsRow_below HX.out.1 hbw, ownsRow_below HX.out.2.1 hbw, HX.out.2.2⟩
      have y0 := cell_of_row w5 b5 0 _ _ _ HX5.out
      simp only [List.getElem?_toArray, List.getElem?_cons_zero] at y0
      have HPL := Lib.hid (place_any (P := Q) (key := key) HTV.out (by rw [← hm2]; exact HPR.out.1.pairV) (HX5O.out.1.rowB HX.out.2.2.1) (by have := HQL.out; omega) Q.length (Nat.le_refl _) (fun i hi => by
        rw [HKY.out _ (List.getElem_mem hi)]
        exact (decide_eq_false (by omega)).symm))
      have hqn : decide (Q[Q.length]?.map (·.1) = some key) = false := by
        rw [List.getElem?_eq_none (Nat.le_refl _)]
        rfl
      rw [hqn] at HPL
      have HL2 : Hid (L2.length = Q.length) := Lib.hid (by rw [← hm2]; simp)
      clear hlg hst htv hco hpr hp5 hm2 hBp hfu hbw hqn
      go_upto_region 4 with (first | (go_at_call 36; refine HPL.out.mono ?_; rintro e w6 ⟨rfl, hb6⟩
                                      have hx6 := (hb6.block b5 (lt_of_block HX5.out)).trans HX5.out
                                      have HX6 := Lib.hid hx6
                                      have HB6 := Lib.hid hb6
                                      have z2 := cell_of_row w6 b5 2 _ _ _ hx6
                                      simp only [List.getElem?_toArray, List.getElem?_cons_zero, List.getElem?_cons_succ] at z2
                                      clear hb6 hx6))
      obtain ⟨pa, pc, hpv⟩ := own_shape HPR.out.1.row
      subst hpv
      rw [HL2.out] at HTV HPR
      have hbw6 : Below w6.heap.size w6 w6.drew := (Below.refl _ _).drew
      have t6 := (HTV.out.below HB6.out)
      have x0 : w6.drew.cell? ⟨b5, 0, none⟩ = some (.slice ka key.length kc) := cell_of_row w6 b5 0 _ _ _ HX6.out
      have x1 : w6.drew.cell? ⟨b5, 1, none⟩ = some (.slice va val.length vc) := cell_of_row w6 b5 1 _ _ _ HX6.out
      have x3 : w6.drew.cell? ⟨pt, 3, none⟩ = some (.slice pa Q.length pc) := t6.cells.2.2.2
      have HZ := Lib.hid (heap_alloc_new w6 (.cells #[.slice ka key.length kc, .slice va val.length vc] 79))
      have HBZ : Hid (Below w6.heap.size w6 (w6.alloc (.cells #[.slice ka key.length kc, .slice va val.length vc] 79))) := Lib.hid ((Below.refl _ _).alloc (Nat.le_refl _) _)
      have HRZ := Lib.hid (((HPR.out.1.below HB6.out).below HBZ.out).row)
      rw [HL2.out] at HRZ
      have HT6 := Lib.hid t6
      have HIN := Lib.hid (ins_end (w := (w6.alloc (.cells #[.slice ka key.length kc, .slice va val.length vc] 79)).drew) (B := B) (pv := .slice pa Q.length pc) (L := L2) (by rw [HL2.out]; exact HRZ.out) (Nat.le_trans (Nat.le_trans (Nat.le_trans (Nat.le_trans HLN.out.2 HLT.out.size) HB5.out.size) HB6.out.size) HBZ.out.size) (by rw [HL2.out]; have := HQL.out; omega) (g := w6.heap.size) (kv := .slice ka key.length kc) (vv := .slice va val.length vc) HZ.out rfl rfl)
      rw [HL2.out] at HIN
      have HTZ := Lib.hid (HT6.out.below HBZ.out)
      have HFN : Hid (∀ a c w7, w7.ownsRow B 79 2 (.slice a (Q.length + 1) c) (Q.length + 1) (prC L2 ++ [.slice ka key.length kc, .slice va val.length vc]) → (w6.alloc (.cells #[.slice ka key.length kc, .slice va val.length vc] 79)).drew.grownBy w7 (Value.slice pa Q.length pc).ownBlock →
          Tb5 B B5 w0 (w7.setCell ⟨pt, 3, none⟩ (.slice a (Q.length + 1) c)) pt pl pd kv ring u sec (Q ++ [(key, val)]) ∧ LT w (w7.setCell ⟨pt, 3, none⟩ (.slice a (Q.length + 1) c))) := Lib.hid fun a c w7 h1 h2 => by
        have hbw : Below wr.heap.size wr w6 := by rw [HE5.out]; exact HB5.out.trans (HB6.out.mono (by rw [← HE5.out]; exact HB5.out.size))
        have h6 : OwnB w6 B (.slice ka key.length kc) key ∧ OwnB w6 B (.slice va val.length vc) val ∧ (∀ n ∈ key, n < 256) ∧ ∀ n ∈ val, n < 256 := ⟨ownsRow_below HX.out.1 hbw, ownsRow_below HX.out.2.1 hbw, HX.out.2.2⟩
        have hst := HST.out
        have := Tb.ins5 (B5 := B5) (pv := .slice pa Q.length pc) (L := L2) (c := c) (a := a) (hst.1.below HB6.out) hst.2.1 HT6.out hst.2.2.1 ⟨HPR.out.1.below HB6.out, fun y hy => ⟨ownsRow_below (HP5.out y hy).1 hbw, ownsRow_below (HP5.out y hy).2 hbw⟩⟩ hst.2.2.2.1 hst.2.2.2.2 HBZ.out.drew h2 ⟨_, _, key, val⟩ h6 ⟨ownsRow_below HXN.out.1 hbw, ownsRow_below HXN.out.2 hbw⟩ (by rw [HL2.out]; exact h1)
        rw [HL2.out, HPR.out.2] at this
        exact ⟨this.1, (HLT.out.trans (Below.lt hbw)).trans this.2⟩
      have xz3 : (w6.alloc (.cells #[.slice ka key.length kc, .slice va val.length vc] 79)).drew.cell? ⟨pt, 3, none⟩ = some (.slice pa Q.length pc) := HTZ.out.cells.2.2.2
      clear hbw6 t6 z2
      go_region_law (first
        | (go_simp; go_at_call 59; refine HIN.out.mono ?_; rintro e w7 ⟨a7, c7, rfl, ho7, hg7⟩
           have ht7 : TbV w7 pt (.pointer (some ⟨pl, 0, none⟩)) sec cost (.slice pa Q.length pc) := (hg7.block pt (lt_of_block HTZ.out) (fun e => ownsRow_ne HRZ.out HTZ.out (by decide) pt e.symm rfl)).trans HTZ.out
           have u3 := ht7.cells.2.2.2
           have fu3 := ht7.free 3
           have HO7 := Lib.hid ho7
           have HG7 := Lib.hid hg7
           clear ho7 hg7 ht7))
      all_goals
        go_wp2_with fail
        go_roundw
        case rel => exact ⟨k + 1, HKN.out, by go_num, by rw [HNX.out]; exact (HFN.out _ _ _ HO7.out HG7.out).1, (HFN.out _ _ _ HO7.out HG7.out).2⟩
        case measure => simp [intOf]; omega
    · obtain rfl : k = L.length := by omega
      have HT := Lib.hid htb
      clear htb hlt
      go_wp2_with fail
      refine bodyPost_end (v := .tuple #[]) (by simp [results, Try.results29, go_sem]) rfl ⟨rfl, ?_, HLT.out⟩
      have := HT.out
      rwa [List.take_of_length_le (by simp)] at this
set_option maxRecDepth 100000 in
set_option maxHeartbeats 4000000 in
theorem do_first {B : Nat} {w0 w : World} {pt pl pd : Nat} {kv : Value} {ring u sec : Nat} {P : List (List Nat × List Nat)} (h : Tb B w0 w pt pl pd kv ring u sec P) (hP0 : P = []) {v : Value} {C : List Chg} (hv : ChgV w v C) (hC0 : 0 < C.length) (hC : C.length ≤ 60) (hw : weigh C ≤ 61440) (hkey : ∀ c ∈ C, 0 < c.key.length ∧ c.key.length ≤ 64) (hd : ∀ c ∈ C, c.drop = false)
    (hB : B ≤ w.heap.size) (N : Nat) (hN : 16 + 27 * C.length + weigh C = N) (hroom : u + cellsN N ≤ ring) (hring : ring ≤ 65534) (hP : P.length ≤ 5000) (hk : ∀ j (hj : j < C.length), ∀ x ∈ P ++ (C.take j).map (fun c => (c.key, c.val)), decide (0 ≤ cmpL x.1 C[j].key) = false) :
    Calls Try.prog 12 #[.pointer (some ⟨pt, 0, none⟩), v] w fun e w' => e = .returned (.int .i64 0) ∧ Tb5 B w.heap.size w0 w' pt pl pd kv ring (u + cellsN N) sec (P ++ C.map fun c => (c.key, c.val)) ∧ LT w w' := by
  obtain ⟨a, cap, rfl, h1, h2, -⟩ := id hv
  have HV := Lib.hid hv
  have HP0 := Lib.hid hP0
  clear hP0
  have HT := Lib.hid h
  have HNO : Hid (Calls Try.prog 31 #[.pointer (some ⟨pt, 0, none⟩)] w fun e w' => e = .returned (.bool false) ∧ w = w') := Lib.hid (by
    obtain ⟨_, ⟨cost, pv, L, ht, _⟩, _⟩ := h
    exact ht.none)
  have HBW := Lib.hid hB
  have HC := Lib.hid (And.intro hC0 (And.intro hC (And.intro hw (And.intro hkey (And.intro hd (And.intro hB (And.intro hN (And.intro hroom (And.intro hring (And.intro hP hk))))))))))
  have hcl : (C.length : Int) ≤ 60 := by omega
  have hc0 : ¬ (C.length : Int) = 0 := by omega
  have hwz : (weigh C : Int) ≤ 61440 := by omega
  clear h1 h2 hv h hC0 hC hw hkey hd hB hN hroom hring hP hk
  go_enter Try.func12, Try.ntmps12
  go_wp2_with (first | (go_at_call 31; refine HNO.out.mono ?_; rintro e w' ⟨rfl, rfl⟩))
  go_loopw [15, 5] (fun i z wr => ∃ k : Nat, k ≤ C.length ∧ i = .int .i64 (k : Nat) ∧ z = .int .i64 (weigh (C.take k) : Nat) ∧ Below w.heap.size w wr) (fun i _ _ => C.length - (RowKit.intOf i).toNat)
  case atStart => exact ⟨0, Nat.zero_le _, rfl, rfl, Below.refl _ _⟩
  case round =>
    obtain ⟨k, hk, rfl, rfl, hb⟩ := hrel
    have HB := Lib.hid hb
    by_cases hkn : k < C.length
    · have hkz : (k : Int) < (C.length : Int) := by omega
      obtain ⟨a2, cap2, e, -, -, h3⟩ := HV.out.below hb
      obtain ⟨rfl, -, rfl⟩ := Value.slice.inj e
      obtain ⟨g, off, rfl, hcell⟩ : ∃ g off, a = some ⟨g, off, none⟩ ∧ ∀ i (h : i < C.length), ∃ ka kl kc va vl vc,
          wr.cell? ⟨g, off + i * 3, none⟩ = some (.slice ka kl kc) ∧ wr.cell? ⟨g, off + i * 3 + 1, none⟩ = some (.slice va vl vc) ∧ wr.cell? ⟨g, off + i * 3 + 2, none⟩ = some (.bool C[i].drop) ∧ RowB wr (.slice ka kl kc) C[i].key ∧ RowB wr (.slice va vl vc) C[i].val := by
        rcases h3 with h3 | h3
        · rw [h3] at hkn; simp at hkn
        · exact h3
      obtain ⟨ka, kl, kc, va, vl, vc, c0, c1, c2, r1, r2⟩ := hcell k hkn
      have hkl : C[k].key.length = kl := by obtain ⟨_, _, _, e, h, _⟩ := r1; obtain ⟨-, rfl, -⟩ := Value.slice.inj e; exact h
      have hvl : C[k].val.length = vl := by obtain ⟨_, _, _, e, h, _⟩ := r2; obtain ⟨-, rfl, -⟩ := Value.slice.inj e; exact h
      obtain ⟨m, hm⟩ : ∃ m, weigh (C.take k) = m := ⟨_, rfl⟩
      have HNX : Hid (weigh (C.take (k + 1)) = m + (kl + vl)) := Lib.hid (by
        rw [List.take_succ_eq_append_getElem hkn, weigh_append, hm]
        simp [weigh, hkl, hvl])
      have hkk := HC.out.2.2.2.1 _ (List.getElem_mem hkn)
      rw [hkl] at hkk
      have hdw : m + (kl + vl) ≤ 61440 := by
        have h1 := weigh_at C k hkn
        rw [hm, hkl, hvl] at h1
        have := HC.out.2.2.1
        omega
      have g1 : ¬ (kl : Int) = 0 := by omega
      have g2 : ¬ (64 : Int) < (kl : Int) := by omega
      have g3 : (m : Int) + ((kl : Int) + (vl : Int)) ≤ 61440 := by omega
      have g4 : decide ((64 : Int) < (kl : Int)) = false := decide_eq_false g2
      have g5 : ((kl : Int) == 0) = false := by simp; omega
      have HKN := Lib.hid hkn
      generalize C[k].drop = dd at *
      rw [hm]
      clear h3 hcell e r1 r2 hkl hvl hm hkk hdw hb
      go_upto_region 7 with (fail)
      have HX5 := Lib.hid (heap_alloc_new wr (.cells #[.slice ka kl kc, .slice va vl vc, .bool dd] 35))
      have HB5 : Hid (Below w.heap.size w (wr.alloc (.cells #[.slice ka kl kc, .slice va vl vc, .bool dd] 35))) := Lib.hid (HB.out.alloc HB.out.size _)
      clear c0 c1 c2
      generalize wr.alloc (.cells #[.slice ka kl kc, .slice va vl vc, .bool dd] 35) = w5 at *
      generalize wr.heap.size = b5 at *
      have x0 := cell_of_row w5 b5 0 _ _ _ HX5.out
      have x1 := cell_of_row w5 b5 1 _ _ _ HX5.out
      simp only [List.getElem?_toArray, List.getElem?_cons_zero, List.getElem?_cons_succ] at x0 x1
      go_wp2_with fail
      go_roundw
      case rel => exact ⟨k + 1, HKN.out, by go_num, by rw [HNX.out]; go_num, HB5.out⟩
      case measure => simp [intOf]; omega
    · obtain rfl : k = C.length := by omega
      rw [List.take_length]
      obtain ⟨hC0, hC, hw, hkey, hd, hB, hN, hroom, hring, hP, hkk⟩ := HC.out
      have hlen : ∀ c ∈ C, c.key.length ≤ 1000000 ∧ c.val.length ≤ 1000000 := by
        intro c hc
        obtain ⟨j, hj, rfl⟩ := List.getElem_of_mem hc
        have := weigh_at C j hj
        omega
      have HCP := Lib.hid (copies_any (HV.out.below hb) (by omega) hlen)
      have HTB := Lib.hid (HT.out.below hb)
      have HWB : Hid (B ≤ wr.heap.size) := Lib.hid (Nat.le_trans hB hb.size)
      obtain ⟨wt, hwt⟩ : ∃ x, weigh C = x := ⟨_, rfl⟩
      rw [hwt]
      rw [hwt] at hwz
      have hgt : ¬ (61440 : Int) < (wt : Int) := by omega
      have hgd : decide ((61440 : Int) < (wt : Int)) = false := decide_eq_false hgt
      have hg4 : ¬ (400 : Int) < (C.length : Int) := by omega
      clear hb hC0 hC hw hkey hd hB hN hroom hring hP hkk hlen hwt
      go_upto_region 16 with (first | (go_at_call 33; refine HCP.out.mono ?_; rintro e w5 ⟨o5, L, rfl, hcr, hlm, hb5⟩; have HCR := Lib.hid hcr; have HLM := Lib.hid hlm; have HB5 := Lib.hid hb5; clear hcr hlm hb5))
      have hown : L.map Ch.of = C := by
        rw [HLM.out]
        have : C.map Chg.own = C.map id := List.map_congr_left fun c hc => by
          have := HC.out.2.2.2.2.1 c hc
          unfold Chg.own
          rw [this]
          obtain ⟨a, b, d⟩ := c
          simp at this
          simp [this]
        rw [this, List.map_id]
      have HOW := Lib.hid hown
      obtain ⟨oa, oc, rfl⟩ := own_shape HCR.out.row
      have HWR := Lib.hid (twrite_any (HTB.out.below HB5.out) (C := C) (by rw [← hown]; exact HCR.out.chgV) HC.out.2.1 HC.out.2.2.1 N HC.out.2.2.2.2.2.2.1 HC.out.2.2.2.2.2.2.2.1 HC.out.2.2.2.2.2.2.2.2.1)
      clear hown
      go_upto_region 19 with (first | (go_at_call 34; refine HWR.out.mono ?_; rintro e w6 ⟨rfl, ht6, hl6⟩; have HT6 := Lib.hid ht6; have HL6 := Lib.hid hl6; clear ht6 hl6))
      have HT6b := Lib.hid HT6.out
      obtain ⟨st6, ⟨cost6, pv6, L6, htv6, -⟩, -⟩ := HT6.out
      obtain ⟨t0, -, -, -⟩ := htv6.cells
      clear st6 htv6
      have HSY := Lib.hid (sync_t HT6b.out)
      go_upto_region 22 with (first | (go_at_call 32; refine HSY.out.mono ?_; rintro e w7 ⟨rfl, ht7, hl7⟩; have HT7 := Lib.hid ht7; have HL7 := Lib.hid hl7; clear ht7 hl7))
      have hLC : L.length = C.length := by rw [← HOW.out]; simp
      have hpair : ∀ M : List Ch, M.map Ch.pair = (M.map Ch.of).map fun c => (c.key, c.val) := fun M => by rw [List.map_map]; rfl
      have HAP := Lib.hid (apply_end5 (B5 := w.heap.size) (HT7.out.five HP0.out) (L := L) ((((HCR.out.lt HL6.out).lt HL7.out).mono HB.out.size)) HBW.out (fun x hx => by
          have h1 : x.of ∈ C := by rw [← HOW.out]; exact List.mem_map_of_mem hx
          exact HC.out.2.2.2.2.1 _ h1) (Nat.le_trans HWB.out (Nat.le_trans HB5.out.size (Nat.le_trans HL6.out.size HL7.out.size))) (by have := HC.out; omega) (fun j hj x hx => by
          have hj2 : j < C.length := by omega
          have e1 : C[j].key = L[j].key := by
            have : C[j] = (L.map Ch.of)[j]'(by simpa using hj) := by simp only [HOW.out]
            rw [this, List.getElem_map]
            rfl
          have e2 : (L.take j).map Ch.pair = (C.take j).map fun c => (c.key, c.val) := by
            rw [hpair]
            congr 1
            rw [List.map_take, HOW.out]
          rw [e2] at hx
          rw [← e1]
          exact HC.out.2.2.2.2.2.2.2.2.2.2 j hj2 x hx))
      have hfin : P ++ L.map Ch.pair = P ++ C.map fun c => (c.key, c.val) := by rw [hpair, HOW.out]
      rw [hfin] at HAP
      clear t0 hLC hpair hfin
      go_wp2_with (first | (go_at_call 29; refine HAP.out.mono ?_; rintro e w8 ⟨rfl, ht8, hl8⟩; have HT8 := Lib.hid ht8; have HL8 := Lib.hid hl8; clear ht8 hl8))
      go_ret
      exact ⟨rfl, HT8.out, (((Below.lt HB.out).trans (Below.lt HB5.out)).trans HL6.out).trans (HL7.out.trans HL8.out)⟩
end Go.Proofs.Ytmnbkhgogogeiaa
