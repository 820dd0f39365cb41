/-
  Several texts of one proof, each in a section of its own: Cop, CNum.
-/
import Derived.Test.YtmnbkhgogogeiaaRg15
import Derived.Deep.RegionHeld
import Derived.Deep.RegionHeld3
import Derived.Test.YtmnbkhgogogeiaaRg1
namespace Go.Proofs.Ytmnbkhgogogeiaa
section
set_option linter.unusedVariables false
open Go.RowKit

theorem Try.info35 : (Try.prog.info? 35).map (fun i => (i.zero, i.size, i.bytes)) = some (some (.agg #[.slice none 0 0, .slice none 0 0, .bool false]), 3, 56) := by kernel_rfl
structure Chg where
  key : List Nat
  val : List Nat
  drop : Bool
/-- changes, wherever they lie -/
def ChgV (w : World) (v : Value) (C : List Chg) : Prop :=
  ∃ a cap, v = .slice a C.length cap ∧ C.length ≤ cap ∧ cap ≤ maxLen ∧ (C = [] ∨ ∃ g off, a = some ⟨g, off, none⟩ ∧ ∀ i (h : i < C.length), ∃ ka kl kc va vl vc,
    w.cell? ⟨g, off + i * 3, none⟩ = some (.slice ka kl kc) ∧ w.cell? ⟨g, off + i * 3 + 1, none⟩ = some (.slice va vl vc) ∧ w.cell? ⟨g, off + i * 3 + 2, none⟩ = some (.bool C[i].drop) ∧ RowB w (.slice ka kl kc) C[i].key ∧ RowB w (.slice va vl vc) C[i].val)
theorem ChgV.below {w w' : World} {v : Value} {C : List Chg} (h : ChgV w v C) (hb : Below w.heap.size w w') : ChgV w' v C := by
  obtain ⟨a, cap, e, h1, h2, h3⟩ := h
  refine ⟨a, cap, e, h1, h2, h3.imp id fun ⟨g, off, e, hc⟩ => ⟨g, off, e, fun i hi => ?_⟩⟩
  obtain ⟨ka, kl, kc, va, vl, vc, k1, k2, k5, k3, k4⟩ := hc i hi
  exact ⟨ka, kl, kc, va, vl, vc, by rw [hb.cell (World.block_lt_of_cell? w _ k1)]; exact k1, by rw [hb.cell (World.block_lt_of_cell? w _ k2)]; exact k2, by rw [hb.cell (World.block_lt_of_cell? w _ k5)]; exact k5, k3.below hb, k4.below hb⟩
/-- a change in a row of one's own -/
structure Ch where
  kv : Value
  vv : Value
  key : List Nat
  val : List Nat
  drop : Bool
def Ch.cells (x : Ch) : List Value := [x.kv, x.vv, .bool x.drop]
def Ch.of (x : Ch) : Chg := ⟨x.key, x.val, x.drop⟩
def chC (L : List Ch) : List Value := L.flatMap Ch.cells
theorem chC_append (L M : List Ch) : chC (L ++ M) = chC L ++ chC M := by simp [chC]
theorem chC_get (L : List Ch) (i : Nat) (h : i < L.length) : (chC L)[i * 3]? = some L[i].kv ∧ (chC L)[i * 3 + 1]? = some L[i].vv ∧ (chC L)[i * 3 + 2]? = some (.bool L[i].drop) := by
  induction L generalizing i with
  | nil => simp at h
  | cons x r ih =>
    have e : chC (x :: r) = [x.kv, x.vv, .bool x.drop] ++ chC r := by simp [chC, Ch.cells]
    cases i with
    | zero => rw [e]; exact ⟨rfl, rfl, rfl⟩
    | succ i =>
      have := ih i (by simpa using h)
      rw [e, show (i + 1) * 3 = i * 3 + 1 + 1 + 1 by omega]
      simpa using this
structure ChR (w : World) (B : Nat) (v : Value) (L : List Ch) : Prop where
  row : w.ownsRow B 35 3 v L.length (chC L)
  own : ∀ x ∈ L, OwnB w B x.kv x.key ∧ OwnB w B x.vv x.val ∧ (∀ n ∈ x.key, n < 256) ∧ ∀ n ∈ x.val, n < 256
theorem ChR.below {w w' : World} {B : Nat} {v : Value} {L : List Ch} (h : ChR w B v L) (hb : Below w.heap.size w w') : ChR w' B v L :=
  ⟨ownsRow_below h.row hb, fun x hx => ⟨ownsRow_below (h.own x hx).1 hb, ownsRow_below (h.own x hx).2.1 hb, (h.own x hx).2.2⟩⟩
theorem ChR.lq {w w' : World} {B : Nat} {v : Value} {L : List Ch} (h : ChR w B v L) (hq : LQ w w') : ChR w' B v L :=
  ⟨ownsRow_lq h.row hq (by decide) (by decide) (by decide) (by decide) (by decide), fun x hx => ⟨ownsRow_lq (h.own x hx).1 hq (by decide) (by decide) (by decide) (by decide) (by decide), ownsRow_lq (h.own x hx).2.1 hq (by decide) (by decide) (by decide) (by decide) (by decide), (h.own x hx).2.2⟩⟩
theorem ChR.chgV {w : World} {B : Nat} {v : Value} {L : List Ch} (h : ChR w B v L) : ChgV w v (L.map Ch.of) := by
  have hl : (L.map Ch.of).length = L.length := by simp
  rcases h.row.2 with ⟨e, h1⟩ | ⟨g, cap, cur, e, hb, hh, hc, hmx, hs, ht⟩
  · have h0 : L = [] := List.eq_nil_of_length_eq_zero h1
    subst h0
    exact ⟨none, 0, by rw [e]; rfl, Nat.le_refl _, Nat.zero_le _, .inl rfl⟩
  · refine ⟨_, cap, by rw [e, hl], by rw [hl]; exact hc, hmx, .inr ⟨g, 0, rfl, fun i hi => ?_⟩⟩
    have hi2 : i < L.length := by omega
    obtain ⟨o1, o2, o3, o4⟩ := h.own _ (List.getElem_mem hi2)
    obtain ⟨a1, c1, e1⟩ := o1.shape
    obtain ⟨a2, c2, e2⟩ := o2.shape
    have r1 := o1.rowB o3
    have r2 := o2.rowB o4
    obtain ⟨g1, g2, g3⟩ := chC_get L i hi2
    have hat : ∀ j v, j < L.length * 3 → (chC L)[j]? = some v → w.cell? ⟨g, j, none⟩ = some v := by
      intro j v hj hv
      rw [cell_of_row _ _ _ _ 35 (0, 0) hh]
      have : cur.toList[j]? = some v := by
        rw [← ht, List.getElem?_take_of_lt hj] at hv
        exact hv
      simpa using this
    rw [e1] at r1 g1
    rw [e2] at r2 g2
    refine ⟨a1, _, c1, a2, _, c2, ?_, ?_, ?_, by simpa [Ch.of] using r1, by simpa [Ch.of] using r2⟩
    · rw [Nat.zero_add]; exact hat _ _ (by omega) g1
    · rw [Nat.zero_add]; exact hat _ _ (by omega) g2
    · rw [Nat.zero_add, List.getElem_map]; exact hat _ _ (by omega) g3
theorem ChR.grown {w w' : World} {B n : Nat} {v o : Value} {L : List Ch} {x : Ch} (h : ChR w B v L) (hx : OwnB w B x.kv x.key ∧ OwnB w B x.vv x.val ∧ (∀ n ∈ x.key, n < 256) ∧ ∀ n ∈ x.val, n < 256) (hg : w.grownBy w' v.ownBlock) (hn : L.length = n)
    (ho : w'.ownsRow B 35 3 o (n + 1) (chC L ++ x.cells)) : ChR w' B o (L ++ [x]) := by
  subst hn
  have hb : Beside (fun k => v.ownBlock = some k) w w' := ⟨hg.os, hg.tape, hg.output, hg.size, fun k hk hn => hg.block k hk (fun e => hn e.symm)⟩
  have hk : ∀ (y : Value) (l : List Nat), OwnB w B y l → OwnB w' B y l := fun y l hy => ownsRow_beside hy hb (fun k hk hn => own_ne h.row hy (by decide) k hn k hk rfl)
  refine ⟨?_, fun y hy => ?_⟩
  · rw [chC_append, List.length_append]
    have : chC [x] = x.cells := by simp [chC]
    rw [this]
    exact ho
  · rcases List.mem_append.1 hy with hy | hy
    · exact ⟨hk _ _ (h.own y hy).1, hk _ _ (h.own y hy).2.1, (h.own y hy).2.2⟩
    · obtain rfl := List.mem_singleton.1 hy
      exact ⟨hk _ _ hx.1, hk _ _ hx.2.1, hx.2.2⟩
theorem set3_block {w : World} {q : Nat} {a b c : Value} {t : TypeId} (h : w.heap[q]? = some (.cells #[a, b, c] t (0, 0))) (x y z : Value) :
    (((w.setCell ⟨q, 0, none⟩ x).setCell ⟨q, 1, none⟩ y).setCell ⟨q, 2, none⟩ z).heap[q]? = some (.cells #[x, y, z] t (0, 0)) := by
  have e0 := heap_setCell_same w q 0 #[a, b, c] t x h
  have e1 := heap_setCell_same _ q 1 _ t y e0
  exact heap_setCell_same _ q 2 _ t z e1
theorem set3_beside (w : World) (q : Nat) (x y z : Value) : Beside (fun k => k = q) w (((w.setCell ⟨q, 0, none⟩ x).setCell ⟨q, 1, none⟩ y).setCell ⟨q, 2, none⟩ z) :=
  (((Beside.refl (fun k => k = q) w).setCell (p := ⟨q, 0, none⟩) (.inl rfl) x).setCell (p := ⟨q, 1, none⟩) (.inl rfl) y).setCell (p := ⟨q, 2, none⟩) (.inl rfl) z
theorem set3_fin {w5 w6 : World} {q : Nat} {a b c v : Value} {l : List Nat} (hz : w6.heap[q]? = some (.cells #[a, b, c] 35 (0, 0))) (ho : OwnB w6 q v l) (hb : Below q w5 w6) (hq : q ≤ w6.heap.size) (x y z : Value) :
    (((w6.setCell ⟨q, 0, none⟩ x).setCell ⟨q, 1, none⟩ y).setCell ⟨q, 2, none⟩ z).heap[q]? = some (.cells #[x, y, z] 35 (0, 0)) ∧ OwnB (((w6.setCell ⟨q, 0, none⟩ x).setCell ⟨q, 1, none⟩ y).setCell ⟨q, 2, none⟩ z) q v l ∧ Below q w5 (((w6.setCell ⟨q, 0, none⟩ x).setCell ⟨q, 1, none⟩ y).setCell ⟨q, 2, none⟩ z) :=
  ⟨set3_block hz x y z, ownsRow_beside ho (set3_beside w6 q x y z) (fun k hk e => ownsRow_ne ho hz (by decide) k hk (by first | exact e | exact e.symm)), hb.trans ((set3_beside w6 q x y z).below (fun k hk => by rw [hk]; exact Nat.le_refl _) hq)⟩
/-- what copies makes of a change -/
def Chg.own (c : Chg) : Chg := ⟨c.key, if c.drop then [] else c.val, c.drop⟩

set_option maxRecDepth 100000 in
set_option maxHeartbeats 4000000 in
theorem copies_any {w : World} {v : Value} {C : List Chg} (hv : ChgV w v C) (hC : C.length ≤ 10000) (hlen : ∀ c ∈ C, c.key.length ≤ 1000000 ∧ c.val.length ≤ 1000000) :
    Calls Try.prog 33 #[v] w fun e w' => ∃ o L, e = .returned o ∧ ChR w' w.heap.size o L ∧ L.map Ch.of = C.map Chg.own ∧ Below w.heap.size w w' := by
  have HV := Lib.hid hv
  obtain ⟨a, cap, rfl, h1, h2, -⟩ := hv
  obtain ⟨i0, hi, hz0, hz1, hz2⟩ := info_parts Try.info35
  have HI := Lib.hid hi
  have hml : C.length ≤ 9223372036854775807 := by omega
  have HLN := Lib.hid hlen
  clear hi h1 h2 hlen
  go_enter Try.func33, Try.ntmps33
  go_wp2_with fail
  go_loopw [9, 3] (fun i o wr => ∃ k L, k ≤ C.length ∧ i = .int .i64 (k : Nat) ∧ ChR wr w.heap.size o L ∧ L.map Ch.of = (C.take k).map Chg.own ∧ Below w.heap.size w wr) (fun i _ _ => C.length - (RowKit.intOf i).toNat)
  case atStart => exact ⟨0, [], Nat.zero_le _, rfl, ⟨World.ownsRow_nil _ _ _ _, fun _ h => by cases h⟩, rfl, Below.refl _ _⟩
  case round =>
    obtain ⟨k, L, hk, rfl, hr, hm, hb⟩ := hrel
    obtain ⟨oa, oc, rfl⟩ := own_shape hr.row
    by_cases hkn : k < C.length
    · have hkz : (k : Int) < (C.length : Int) := by omega
      obtain ⟨a2, cap2, e, -, -, h3⟩ := HV.out.below hb
      obtain ⟨rfl, -, rfl⟩ := Value.slice.inj e
      obtain ⟨g, off, rfl, hcell⟩ : ∃ g off, a = some ⟨g, off, none⟩ ∧ ∀ i (h : i < C.length), ∃ ka kl kc va vl vc,
          wr.cell? ⟨g, off + i * 3, none⟩ = some (.slice ka kl kc) ∧ wr.cell? ⟨g, off + i * 3 + 1, none⟩ = some (.slice va vl vc) ∧ wr.cell? ⟨g, off + i * 3 + 2, none⟩ = some (.bool C[i].drop) ∧ RowB wr (.slice ka kl kc) C[i].key ∧ RowB wr (.slice va vl vc) C[i].val := by
        rcases h3 with h3 | h3
        · rw [h3] at hkn; simp at hkn
        · exact h3
      obtain ⟨ka, kl, kc, va, vl, vc, c0, c1, c2, r1, r2⟩ := hcell k hkn
      obtain ⟨d, hd⟩ : ∃ d, C[k] = d := ⟨_, rfl⟩
      rw [hd] at c2 r1 r2
      have HDL := Lib.hid (HLN.out d (by rw [← hd]; exact List.getElem_mem hkn))
      have HNX : Hid ((C.take (k + 1)).map Chg.own = (C.take k).map Chg.own ++ [d.own]) := Lib.hid (by rw [List.take_succ_eq_append_getElem hkn, List.map_append, hd]; rfl)
      have HR := Lib.hid hr
      have HM := Lib.hid hm
      have HB := Lib.hid hb
      have HK := Lib.hid hkn
      have HR1 := Lib.hid r1
      have HR2 := Lib.hid r2
      have HLL : Hid (L.length = k) := Lib.hid (by have h1 := congrArg List.length hm; simp at h1; omega)
      obtain ⟨dk, dv, dd⟩ := d
      simp only at c2
      clear hr hm hb r1 r2 h3 hcell e hd
      go_upto_region 5 with (fail)
      have HX5 := Lib.hid (heap_alloc_new wr (.cells #[.slice ka kl kc, .slice va vl vc, .bool dd] 35))
      have HB5 : Hid (Below wr.heap.size wr (wr.alloc (.cells #[.slice ka kl kc, .slice va vl vc, .bool dd] 35))) := Lib.hid ((Below.refl _ _).alloc (Nat.le_refl _) _)
      clear c0 c1 c2
      generalize wr.alloc (.cells #[.slice ka kl kc, .slice va vl vc, .bool dd] 35) = w5 at *
      have HBS : Hid (wr.heap.size < w5.heap.size) := Lib.hid (lt_of_block HX5.out)
      have HWB : Hid (w.heap.size ≤ wr.heap.size) := Lib.hid HB.out.size
      generalize hb5 : wr.heap.size = b5 at *
      have HE5 := Lib.hid hb5
      clear hb5
      have y0 : w5.drew.cell? ⟨b5, 0, none⟩ = some (.slice ka kl kc) := cell_of_row w5 b5 0 _ _ _ HX5.out
      have y2 : w5.drew.cell? ⟨b5, 2, none⟩ = some (.bool dd) := cell_of_row w5 b5 2 _ _ _ HX5.out
      have HCK : Hid (∀ W, Below w5.heap.size w5 W → RowB W (.slice ka kl kc) dk) := Lib.hid fun W hW => (HR1.out.below (by rw [HE5.out]; exact HB5.out)).below hW
      go_cut [6] (fun u wx => ∃ b6 ca cc, u = .pointer (some ⟨b6, 0, none⟩) ∧ w5.heap.size ≤ b6 ∧ wx.heap[b6]? = some (.cells #[.slice ca dk.length cc, .slice none 0 0, .bool dd] 35 (0, 0)) ∧ OwnB wx w5.heap.size (.slice ca dk.length cc) dk ∧ Below w5.heap.size w5 wx)
      case first =>
        have hZ : Below w5.heap.size w5 (w5.alloc (.cells #[.slice none 0 0, .slice none 0 0, .bool false] 35)) := (Below.refl _ _).alloc (Nat.le_refl _) _
        have za0 : (w5.alloc (.cells #[.slice none 0 0, .slice none 0 0, .bool false] 35)).drew.cell? ⟨b5, 0, none⟩ = some (.slice ka kl kc) := (hZ.cell (p := ⟨b5, 0, none⟩) HBS.out).trans y0
        have za2 : (w5.alloc (.cells #[.slice none 0 0, .slice none 0 0, .bool false] 35)).drew.cell? ⟨b5, 2, none⟩ = some (.bool dd) := (hZ.cell (p := ⟨b5, 2, none⟩) HBS.out).trans y2
        have HZZ := Lib.hid (heap_alloc_new w5 (.cells #[.slice none 0 0, .slice none 0 0, .bool false] 35))
        have HZ := Lib.hid hZ
        clear hZ
        go_region_law (first
          | (go_simp; go_at_call 37; refine (bclone_any _ dk _ (HCK.out _ (by first | with_reducible exact HZ.out.drew | with_reducible exact (Below.refl _ _).drew | with_reducible exact HZ.out | with_reducible exact Below.refl _ _)) (Nat.le_trans HDL.out.1 (by decide))).mono ?_; rintro e w6 ⟨o6, rfl, ho6, hb6⟩
             obtain ⟨ca, cc, rfl⟩ := ho6.shape
             have kb : w6.cell? ⟨b5, 0, none⟩ = some (.slice ka kl kc) := (hb6.cell (p := ⟨b5, 0, none⟩) (by first | exact HBS.out | (have := HBS.out; show b5 < (w5.heap.push _).size; simp; omega))).trans (by first | with_reducible exact y0 | with_reducible exact za0)
             have kc2 : w6.cell? ⟨b5, 2, none⟩ = some (.bool dd) := (hb6.cell (p := ⟨b5, 2, none⟩) (by first | exact HBS.out | (have := HBS.out; show b5 < (w5.heap.push _).size; simp; omega))).trans (by first | with_reducible exact y2 | with_reducible exact za2)
             have hbw : Below w5.heap.size w5 w6 := by first | exact (Below.refl w5.heap.size w5).drew.trans hb6 | exact HZ.out.drew.trans (hb6.mono HZ.out.drew.size) | exact HZ.out.trans (hb6.mono HZ.out.size)
             have ke : (w6.alloc (.cells #[.slice none 0 0, .slice none 0 0, .bool false] 35)).cell? ⟨b5, 2, none⟩ = some (.bool dd) := (((Below.refl _ _).alloc (Nat.le_refl _) _ : Below w6.heap.size w6 _).cell (p := ⟨b5, 2, none⟩) (Nat.lt_of_lt_of_le HBS.out hbw.size)).trans kc2
             have HO6 : Hid (OwnB w6 w5.heap.size (.slice ca dk.length cc) dk) := Lib.hid (owns_mono ho6 (by first | exact Nat.le_refl _ | exact HZ.out.size))
             have HB6 := Lib.hid hbw
             first
               | (have hz6 : w6.heap[w5.heap.size]? = some (.cells #[.slice none 0 0, .slice none 0 0, .bool false] 35 (0, 0)) := (hb6.block w5.heap.size (lt_of_block HZZ.out)).trans HZZ.out
                  have HZ6 := Lib.hid hz6
                  have z0 := cell_of_row w6 w5.heap.size 0 _ _ _ hz6
                  have z1 := cell_of_row w6 w5.heap.size 1 _ _ _ hz6
                  have z2 := cell_of_row w6 w5.heap.size 2 _ _ _ hz6
                  simp only [List.getElem?_toArray, List.getElem?_cons_zero, List.getElem?_cons_succ] at z0 z1 z2
                  have f0 := frozen_of_row w6 w5.heap.size 0 _ _ hz6
                  have f1 := frozen_of_row w6 w5.heap.size 1 _ _ hz6
                  have f2 := frozen_of_row w6 w5.heap.size 2 _ _ hz6
                  clear ho6 hb6 hbw hz6)
               | clear ho6 hb6 hbw))
        all_goals
          go_wp2_with fail
          go_meet
          first
            | (have _g := HZ6.out; exact ⟨_, ca, cc, rfl, Nat.le_refl _, set3_fin HZ6.out HO6.out HB6.out HB6.out.size _ _ _⟩)
            | exact ⟨_, ca, cc, rfl, HB6.out.size, heap_alloc_new _ _, HO6.out.alloc _, HB6.out.alloc HB6.out.size _⟩
      case rest =>
        obtain ⟨b6, ca, cc, rfl, hb6, hx6, hck, hbc⟩ := hcut
        have HX6 := Lib.hid hx6
        have HCK6 := Lib.hid hck
        have HBC := Lib.hid hbc
        have HB6 := Lib.hid hb6
        have hx5 := (hbc.block b5 HBS.out).trans HX5.out
        have x1 := cell_of_row wc b5 1 _ _ _ hx5
        have x2 := cell_of_row wc b5 2 _ _ _ hx5
        simp only [List.getElem?_toArray, List.getElem?_cons_zero, List.getElem?_cons_succ] at x1 x2
        have x6 := cell_of_row wc b6 1 _ _ _ hx6
        simp only [List.getElem?_toArray, List.getElem?_cons_zero, List.getElem?_cons_succ] at x6
        clear hb6 hx6 hck hbc hx5 y0 y2 HCK
        go_upto_if 21 with (fail)
        go_cut [] (fun wx => ∃ va2 vc2, wx.heap[b6]? = some (.cells #[.slice ca dk.length cc, .slice va2 (if dd then [] else dv).length vc2, .bool dd] 35 (0, 0)) ∧ OwnB wx w5.heap.size (.slice ca dk.length cc) dk ∧ OwnB wx w5.heap.size (.slice va2 (if dd then [] else dv).length vc2) (if dd then [] else dv) ∧ Below w5.heap.size w5 wx)
        case first =>
          cases dd
          · have HCV := Lib.hid (fun W (hW : Below wc.heap.size wc W) => (HR2.out.below (by rw [HE5.out]; exact HB5.out)).below (HBC.out.trans (hW.mono HBC.out.size)))
            go_wp2_with (first
              | (go_at_call 37; refine (bclone_any _ dv _ (HCV.out _ (Below.refl _ _)) (Nat.le_trans HDL.out.2 (by decide))).mono ?_; rintro e w8 ⟨o8, rfl, ho8, hb8⟩
                 obtain ⟨va2, vc2, rfl⟩ := ho8.shape
                 have hx8 := (hb8.block b6 (lt_of_block HX6.out)).trans HX6.out
                 have x8 := cell_of_row w8 b6 1 _ _ _ hx8
                 simp only [List.getElem?_toArray, List.getElem?_cons_zero, List.getElem?_cons_succ] at x8
                 have f8 := frozen_of_row w8 b6 1 _ _ hx8
                 have HX8 := Lib.hid hx8
                 have HO8 := Lib.hid ho8
                 have HB8 := Lib.hid hb8
                 clear hx8 ho8 hb8))
            go_meet
            have hbs : Beside (fun k => k = b6) w8 (w8.setCell ⟨b6, 1, none⟩ (.slice va2 dv.length vc2)) := (Beside.refl (fun k => k = b6) w8).setCell (p := ⟨b6, 1, none⟩) (.inl rfl) _
            have hck8 : OwnB w8 w5.heap.size (.slice ca dk.length cc) dk := ownsRow_below HCK6.out HB8.out
            have hcv8 : OwnB w8 w5.heap.size (.slice va2 dv.length vc2) dv := owns_mono HO8.out HBC.out.size
            refine ⟨va2, vc2, heap_setCell_same w8 b6 1 _ 35 _ HX8.out, ownsRow_beside hck8 hbs (fun k hk e => ownsRow_ne hck8 HX8.out (by decide) k hk (by first | exact e | exact e.symm)), ownsRow_beside hcv8 hbs (fun k hk e => ownsRow_ne hcv8 HX8.out (by decide) k hk (by first | exact e | exact e.symm)), ?_⟩
            exact (HBC.out.trans (HB8.out.mono HBC.out.size)).trans (hbs.below (fun k hk => by rw [hk]; exact HB6.out) (Nat.le_trans HBC.out.size HB8.out.size))
          · go_wp2_with fail
            go_meet
            exact ⟨none, 0, HX6.out, HCK6.out, World.ownsRow_nil _ _ _ _, HBC.out⟩
        case rest =>
          obtain ⟨va2, vc2, hx9, hck, hcv, hb9⟩ := hcut
          clear x1 x2 x6 HX6 HCK6 HBC
          obtain ⟨val, hval⟩ : ∃ x, (if dd then [] else dv) = x := ⟨_, rfl⟩
          rw [hval] at hx9 hcv
          have HVL := Lib.hid hval
          clear hval
          rename World => w9
          have z0 := cell_of_row w9 b6 0 _ _ _ hx9
          have z1 := cell_of_row w9 b6 1 _ _ _ hx9
          have z2 := cell_of_row w9 b6 2 _ _ _ hx9
          simp only [List.getElem?_toArray, List.getElem?_cons_zero, List.getElem?_cons_succ] at z0 z1 z2
          have hbw : Below wr.heap.size wr w9 := by rw [HE5.out]; exact HB5.out.trans (hb9.mono (Nat.le_of_lt HBS.out))
          have hA : Below w9.heap.size w9 (w9.alloc (.cells #[.slice ca dk.length cc, .slice va2 val.length vc2, .bool dd] 35)) := (Below.refl _ _).alloc (Nat.le_refl _) _
          have HNA := Lib.hid (heap_alloc_new w9 (.cells #[.slice ca dk.length cc, .slice va2 val.length vc2, .bool dd] 35))
          have hwb5 : w.heap.size ≤ w5.heap.size := Nat.le_trans HWB.out (Nat.le_of_lt HBS.out)
          have HRA := Lib.hid ((HR.out.below hbw).below hA)
          have HCA : Hid (OwnB (w9.alloc (.cells #[.slice ca dk.length cc, .slice va2 val.length vc2, .bool dd] 35)) w.heap.size (.slice ca dk.length cc) dk) := Lib.hid (owns_mono (hck.alloc _) hwb5)
          have HVA : Hid (OwnB (w9.alloc (.cells #[.slice ca dk.length cc, .slice va2 val.length vc2, .bool dd] 35)) w.heap.size (.slice va2 val.length vc2) val) := Lib.hid (owns_mono (hcv.alloc _) hwb5)
          have HBA : Hid (Below w.heap.size w (w9.alloc (.cells #[.slice ca dk.length cc, .slice va2 val.length vc2, .bool dd] 35))) := Lib.hid ((HB.out.trans (hbw.mono HB.out.size)).trans (hA.mono (Nat.le_trans HB.out.size hbw.size)))
          have HLB : Hid (L.length ≤ 10000) := Lib.hid (by have := HLL.out; have := HK.out; omega)
          have HL2 : Hid (∀ n ∈ val, n < 256) := Lib.hid (by
            intro n hn
            rw [← HVL.out] at hn
            cases dd
            · exact HR2.out.lt n hn
            · simp at hn)
          clear hbw hA hwb5 hck hcv hb9 hx9
          go_wp2_with (first
            | (at_builtin; go_loud (refine wpList_append_own _ rfl (.tmp 26) (.tmp 28) 22 rfl w.heap.size 35 i0 _ 3 56 Try.underlying22 HI.out hz0 hz1 hz2 rfl (by decide) (.slice oa L.length oc) L.length (chC L) rfl HRA.out.row ⟨w9.heap.size, 0, none⟩ 1 1 [.slice ca dk.length cc, .slice va2 val.length vc2, .bool dd] rfl rfl (World.news_of_block (cs := #[.slice ca dk.length cc, .slice va2 val.length vc2, .bool dd]) (t := 35) (fr := (0, 0)) HNA.out) (by simp [Value.oneCell']) (by have := HLB.out; unfold maxLen; omega) (by have := HLB.out; omega) HBA.out.size ?_)))
          intro o w10 ho hgr _
          have HR10 := Lib.hid (HRA.out.grown (x := ⟨.slice ca dk.length cc, .slice va2 val.length vc2, dk, val, dd⟩) ⟨HCA.out, HVA.out, HR1.out.lt, HL2.out⟩ hgr rfl ho)
          have HB10 : Hid (Below w.heap.size w w10) := Lib.hid (HBA.out.grown hgr HBA.out.size (fun j hj => (World.ownsRow.lt HRA.out.row j hj).1))
          obtain ⟨oa2, oc2, rfl⟩ := own_shape ho
          clear ho hgr
          go_wp2_with fail
          go_roundw
          case rel =>
            refine ⟨k + 1, L ++ [⟨.slice ca dk.length cc, .slice va2 val.length vc2, dk, val, dd⟩], HK.out, by go_num, HR10.out, ?_, HB10.out⟩
            rw [HNX.out, List.map_append, HM.out]
            simp only [List.map_cons, List.map_nil, Ch.of, Chg.own, HVL.out]
          case measure => simp [intOf]; omega
    · obtain rfl : k = C.length := by omega
      have HR := Lib.hid hr
      have HM := Lib.hid hm
      have HB := Lib.hid hb
      clear hr hm hb
      go_wp2_with fail
      go_ret
      exact ⟨_, L, rfl, HR.out, by rw [HM.out, List.take_length], HB.out⟩
end
section
set_option linter.unusedVariables false
open Go.RowKit

/-- the byte of v at round k -/
def byteAt (v k : Nat) : Nat := v / 2 ^ (56 - 8 * k) % 256
/-- the bytes that Num has written behind k rounds. -/
def digs (v : Nat) : Nat → List Nat
  | 0 => []
  | k + 1 => if byteAt v k = 0 ∧ digs v k = [] then digs v k else digs v k ++ [byteAt v k]
/-- the bytes of a number -/
def numB (v : Nat) : List Nat := (digs v 8).length :: digs v 8

theorem digs_len (v k : Nat) : (digs v k).length ≤ k := by
  induction k with
  | zero => simp only [digs, List.length_nil, Nat.le_refl]
  | succ k ih => unfold digs; split <;> (try simp) <;> omega

theorem byte_int (v k : Nat) : ((byteAt v k : Nat) : Int) = (v : Int) / 2 ^ (56 - 8 * k) % 256 := by
  simp [byteAt]

theorem digs_keep {v k : Nat} (hc : (v : Int) / 2 ^ (56 - 8 * k) % 256 = 0) (hd : (digs v k).length = 0) : digs v (k + 1) = digs v k := by
  have h0 : digs v k = [] := List.eq_nil_of_length_eq_zero hd
  rw [← byte_int] at hc
  have hc' : byteAt v k = 0 := by omega
  rw [digs, if_pos ⟨hc', h0⟩]

theorem digs_more {v k : Nat} (h : ¬ ((v : Int) / 2 ^ (56 - 8 * k) % 256 = 0 ∧ (digs v k).length = 0)) : digs v (k + 1) = digs v k ++ [byteAt v k] := by
  rw [digs, if_neg]
  rintro ⟨h1, h2⟩
  exact h ⟨by rw [← byte_int]; omega, by rw [h2]; rfl⟩

set_option maxRecDepth 100000 in
set_option maxHeartbeats 4000000 in
theorem num_any (v : Nat) (hv : v < 2 ^ 64) (w : World) : Calls Try.prog 71 #[.int .u64 v] w fun e w' => ∃ o, e = .returned o ∧ OwnB w' w.heap.size o (numB v) ∧ Below w.heap.size w w' := by
  obtain ⟨i0, hi, hz0, hz1, hz2⟩ := info_parts Try.info5
  go_enter Try.func71, Try.ntmps71
  go_wp2_with fail
  go_loopw [3, 4] (fun o i wr => ∃ k : Nat, k ≤ 8 ∧ i = .int .i64 (56 - 8 * (k : Int)) ∧ OwnB wr w.heap.size o (0 :: digs v k) ∧ Below w.heap.size w wr) (fun _ i _ => (intOf i + 8).toNat)
  case atStart => exact ⟨0, by omega, by simp, World.ownsRow_lit (base := w.heap.size) (e := 5) (size := 1) w #[.int .u8 0] 1 (Nat.le_refl _) (by decide) rfl, (Below.refl _ _).alloc (Nat.le_refl _) _⟩
  case round =>
    obtain ⟨k, hk, rfl, hown, hbel⟩ := hrel
    have hdl := digs_len v k
    obtain ⟨g, cap, hv', hg, hgs⟩ := hown.some (by simp)
    subst hv'
    have hsz := hbel.size
    by_cases hk8 : k < 8
    · by_cases hkeep : (v : Int) / 2 ^ (56 - 8 * k) % 256 = 0 ∧ (digs v k).length = 0
      · obtain ⟨hc, hd⟩ := hkeep
        have he := Lib.hid (digs_keep hc hd)
        have h1 : ¬ (1 < ((0 :: digs v k).length : Int)) := by simp [hd]
        clear hd
        go_wp2_with fail
        go_roundw
        case rel => exact ⟨k + 1, by omega, by go_num, by rw [he.out]; exact hown, hbel⟩
        case measure => simp [intOf]; omega
      · have he := Lib.hid (digs_more hkeep)
        have hown0 := hown
        unfold OwnB at hown0
        have hb := Lib.hid (byte_int v k)
        have done : ∀ (o : Value) (w1 : World) (x : Int), (x = ((byteAt v k : Nat) : Int)) → w1.ownsRow w.heap.size 5 1 o ((0 :: digs v k).length + 1) (u8s (0 :: digs v k) ++ [Value.int .u8 x]) → OwnB w1 w.heap.size o (0 :: digs v (k + 1)) := by
          intro o w1 x hx ho
          subst hx
          rw [he.out]
          exact OwnB.snoc ho rfl
        have bel : ∀ (w1 : World) (x : Int), (wr.alloc (.cells #[Value.int .u8 x] 5)).grownBy w1 (Value.slice (some ⟨g, 0, none⟩) (0 :: digs v k).length cap).ownBlock → Below w.heap.size w w1 := by
          intro w1 x hgr
          refine (hbel.alloc hsz _).grown hgr (by simp; omega) ?_
          intro j hj
          simp [Value.ownBlock] at hj
          omega
        have Done := Lib.hid done
        have Bel := Lib.hid bel
        clear done bel he
        by_cases hc : (v : Int) / 2 ^ (56 - 8 * k) % 256 = 0
        · have h1 : 1 < ((digs v k).length : Int) + 1 := by have : ¬ (digs v k).length = 0 := fun h0 => hkeep ⟨hc, h0⟩; omega
          clear hkeep
          go_wp2_with (at_builtin; go_loud (refine wpList_append_own _ rfl (.tmp 22) (.tmp 24) 23 rfl (w.heap.size) 5 i0 (.int .u8 0) 1 1 Try.underlying23 hi hz0 hz1 hz2 rfl (by decide) _ _ _ rfl (hown0.alloc _) ⟨wr.heap.size, 0, none⟩ 1 1 [.int .u8 0] rfl rfl (one_new _ _ _) (by simp [Value.oneCell']) (by simp [maxLen]; omega) (by simp; omega) (by simp; omega) ?_))
          intro o w1 ho hgr _
          have R1 := Done.out _ _ _ (by rw [hb.out]; exact hc.symm) ho
          have R2 := Bel.out _ _ hgr
          clear ho hgr hown hown0
          go_wp2_with fail
          go_roundw
          case rel => exact ⟨k + 1, by omega, by go_num, R1, R2⟩
          case measure => simp [intOf]; omega
        · clear hkeep
          go_wp2_with (at_builtin; go_loud (refine wpList_append_own _ rfl (.tmp 22) (.tmp 24) 23 rfl (w.heap.size) 5 i0 (.int .u8 0) 1 1 Try.underlying23 hi hz0 hz1 hz2 rfl (by decide) _ _ _ rfl (hown0.alloc _) ⟨wr.heap.size, 0, none⟩ 1 1 [.int .u8 ((v : Int) / 2 ^ (56 - 8 * k) % 256)] rfl rfl (one_new _ _ _) (by simp [Value.oneCell']) (by simp [maxLen]; omega) (by simp; omega) (by simp; omega) ?_))
          intro o w1 ho hgr _
          have R1 := Done.out _ _ _ hb.out.symm ho
          have R2 := Bel.out _ _ hgr
          clear ho hgr hown hown0
          go_wp2_with fail
          go_roundw
          case rel => exact ⟨k + 1, by omega, by go_num, R1, R2⟩
          case measure => simp [intOf]; omega
    · obtain rfl : k = 8 := by omega
      have hc0 := hown.cell rfl 0 (by simp)
      have hf0 := hown.free rfl 0
      have hl0 : ((0 :: digs v 8).length : Int) - 1 = (digs v 8).length := by simp
      go_wp2_with fail
      go_ret
      exact ⟨_, rfl, hown.set rfl 0 (digs v 8).length, hbel.setCell hg _⟩
end
end Go.Proofs.Ytmnbkhgogogeiaa
