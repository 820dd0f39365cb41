/-
  Own and Kept of tokens: a copy with room behind it.
-/
import Derived.Test.YtghibofnfjnfcaaGreatDoorEql
import Derived.Test.YtghibofnfjnfcaaGreatDoorLaid
namespace Go.Proofs.YtghibofnfjnfcaaGreatDoor
set_option linter.unusedVariables false
open Go.RowKit

def tkiV (t : TkI) : List Value := [.int .i64 t.1, .string (strN t.2)]
def tkisV (l : List TkI) : List Value := l.flatMap tkiV
theorem tkisV_app (l m : List TkI) : tkisV (l ++ m) = tkisV l ++ tkisV m := by simp [tkisV]
@[simp] theorem tkisV_len (l : List TkI) : (tkisV l).length = l.length * 2 := by
  induction l with
  | nil => rfl
  | cons t l ih => rw [show tkisV (t :: l) = tkiV t ++ tkisV l from rfl, List.length_append, ih]; simp [tkiV]; omega
theorem tkisV_get (l : List TkI) : ∀ (i : Nat) (h : i < l.length), (tkisV l)[i * 2]? = some (.int .i64 l[i].1) ∧ (tkisV l)[i * 2 + 1]? = some (.string (strN l[i].2)) := by
  induction l with
  | nil => intro i h; simp at h
  | cons x l ih =>
    intro i h
    have e : tkisV (x :: l) = [.int .i64 x.1, .string (strN x.2)] ++ tkisV l := rfl
    rw [e]
    cases i with
    | zero => exact ⟨rfl, rfl⟩
    | succ i =>
      have h' : i < l.length := by simpa using h
      obtain ⟨h1, h2⟩ := ih i h'
      constructor
      · rw [List.getElem?_append_right (by simp; omega), show (i + 1) * 2 - [Value.int .i64 x.1, .string (strN x.2)].length = i * 2 by simp; omega, h1]
        simp
      · rw [List.getElem?_append_right (by simp; omega), show (i + 1) * 2 + 1 - [Value.int .i64 x.1, .string (strN x.2)].length = i * 2 + 1 by simp; omega, h2]
        simp
/-- a row known whole -/
def RowX (w : World) (g : Nat) (cur : List Value) : Prop := w.heap[g]? = some (.cells cur.toArray 26 (0, 0))
theorem RowX.at {w : World} {g : Nat} {cur : List Value} (h : RowX w g cur) (j : Nat) : w.cell? ⟨g, j, none⟩ = cur[j]? := by rw [cell_of_row w g j _ _ _ h]; simp
theorem RowX.froz {w : World} {g : Nat} {cur : List Value} (h : RowX w g cur) (j : Nat) : w.frozen? ⟨g, j, none⟩ = false := frozen_of_row _ _ _ _ _ h
theorem RowX.lt {w : World} {g : Nat} {cur : List Value} (h : RowX w g cur) : g < w.heap.size := (Array.getElem?_eq_some_iff.1 h).1
theorem RowX.set {w : World} {g : Nat} {cur : List Value} (h : RowX w g cur) (j : Nat) (v : Value) : RowX (w.setCell ⟨g, j, none⟩ v) g (cur.set j v) := by
  have := heap_setCell_same w g j _ _ v h
  rw [List.setIfInBounds_toArray] at this
  exact this
theorem RowX.below {w w' : World} {g S : Nat} {cur : List Value} (h : RowX w g cur) (hb : Below S w w') (hg : g < S) : RowX w' g cur := by unfold RowX; rw [hb.block g hg]; exact h
theorem RowX.tkIn {w : World} {g : Nat} {l m : List TkI} (h : RowX w g (tkisV (l ++ m))) (c : Nat) : TkIn w (.slice (some ⟨g, 0, none⟩) l.length c) l := by
  refine .inr ⟨g, 0, c, rfl, h.lt, fun i hi => ?_⟩
  have hi2 : i < (l ++ m).length := by simp; omega
  obtain ⟨h1, h2⟩ := tkisV_get (l ++ m) i hi2
  rw [Nat.zero_add]
  rw [List.getElem_append_left hi] at h1 h2
  exact ⟨by rw [h.at, h1], by rw [h.at, h2]⟩
/-- a row whose beginning is known -/
def Fill (w : World) (g c : Nat) (l : List TkI) : Prop := ∃ cur, RowX w g cur ∧ cur.length = c * 2 ∧ cur.take (l.length * 2) = tkisV l
theorem take_two (cur : List Value) (n : Nat) (a b : Value) (h : n + 1 < cur.length) : ((cur.set n a).set (n + 1) b).take (n + 2) = cur.take n ++ [a, b] := by
  apply List.ext_getElem?
  intro i
  rw [List.getElem?_take]
  by_cases h1 : i < n
  · rw [if_pos (by omega), List.getElem?_append_left (by simp; omega), List.getElem?_take, if_pos h1, List.getElem?_set_ne (by omega), List.getElem?_set_ne (by omega)]
  · by_cases h2 : i = n
    · subst h2
      rw [if_pos (by omega), List.getElem?_append_right (by simp; omega), List.getElem?_set_ne (by omega), List.getElem?_set_self (by omega)]
      simp [Nat.min_eq_left (show i ≤ cur.length by omega)]
    · by_cases h3 : i = n + 1
      · subst h3
        rw [if_pos (by omega), List.getElem?_append_right (by simp; omega), List.getElem?_set_self (by simp; omega)]
        simp [Nat.min_eq_left (show n ≤ cur.length by omega)]
      · rw [if_neg (by omega), List.getElem?_eq_none (by simp; omega)]
theorem Fill.step {w : World} {g c : Nat} {l : List TkI} (h : Fill w g c l) (hl : l.length < c) (s : TkI) : Fill ((w.setCell ⟨g, l.length * 2, none⟩ (.int .i64 s.1)).setCell ⟨g, l.length * 2 + 1, none⟩ (.string (strN s.2))) g c (l ++ [s]) := by
  obtain ⟨cur, h1, h2, h3⟩ := h
  refine ⟨_, (h1.set _ _).set _ _, by simpa using h2, ?_⟩
  rw [List.length_append, List.length_singleton, show (l.length + 1) * 2 = l.length * 2 + 2 by omega, take_two _ _ _ _ (by omega), h3, tkisV_app]
  rfl
theorem Fill.froz {w : World} {g c : Nat} {l : List TkI} (h : Fill w g c l) (j : Nat) : w.frozen? ⟨g, j, none⟩ = false := by obtain ⟨cur, h1, _⟩ := h; exact h1.froz j
theorem Fill.cell {w : World} {g c : Nat} {l : List TkI} (h : Fill w g c l) (j : Nat) (hj : j < c * 2) : ∃ u, w.cell? ⟨g, j, none⟩ = some u := by
  obtain ⟨cur, h1, h2, _⟩ := h
  exact ⟨cur[j]'(by omega), by rw [h1.at, List.getElem?_eq_getElem (by omega)]⟩
theorem Fill.done {w : World} {g c : Nat} {l : List TkI} (h : Fill w g c l) (hc : c = l.length) : RowX w g (tkisV l) := by
  obtain ⟨cur, h1, h2, h3⟩ := h
  rw [List.take_of_length_le (by omega)] at h3
  rw [← h3]
  exact h1

theorem none_cap {H : Type} {enc : TypeId × Value → H} {w : World} {a : Option Addr} {len cap : Nat} {d : DataW H} {p : List MemPlace}
    (h : DataW.Trod enc Tryz.prog w 0 (fun _ => true) true 22 (.slice a len cap) d p) : a = none → cap = 0 := by
  obtain ⟨fuel, hf⟩ := h
  rcases Deep.open_slice_pairs Tryz.underlying22 Tryz.underlying26 (by kernel_rfl) (by kernel_rfl) (by kernel_rfl) (by kernel_rfl) (by kernel_rfl) hf with ⟨hcs, _⟩ | ⟨x, l, c, m, n, V0, V1, D0, D1, P0, P1, hcs, _⟩
  · simp [Value.cells] at hcs
    obtain ⟨rfl, rfl, rfl⟩ := hcs
    exact fun _ => rfl
  · simp [Value.cells] at hcs
    obtain ⟨rfl, rfl, rfl⟩ := hcs
    exact fun h => by cases h
theorem TkIn.vals {w : World} {a : Option Addr} {n c : Nat} {L : List TkI} (h : TkIn w (.slice a n c) L) : ∀ ad, a = some ad → ∀ j u, (tkisV L)[j]? = some u → w.cell? (ad.add j) = some u := by
  obtain ⟨b, off, hat⟩ := h.at
  intro ad had j u hj
  have hjl : j < L.length * 2 := by have := (List.getElem?_eq_some_iff.1 hj).1; simpa using this
  have hi : j / 2 < L.length := by omega
  obtain ⟨ha, _, h1, h2⟩ := hat (j / 2) hi
  rw [had] at ha
  obtain rfl := Option.some.inj ha
  rw [Addr.add_lit]
  obtain ⟨g1, g2⟩ := tkisV_get L (j / 2) hi
  rcases Nat.mod_two_eq_zero_or_one j with hm | hm
  · have e : j = j / 2 * 2 := by omega
    rw [← e] at g1 h1
    rw [g1] at hj
    rw [h1]; exact hj
  · have e : j = j / 2 * 2 + 1 := by omega
    rw [Nat.add_assoc, ← e] at h2
    rw [← e] at g2
    rw [g2] at hj
    rw [h2]; exact hj
theorem tkisV_one (L : List TkI) : ∀ u ∈ tkisV L, u.oneCell' = true := by
  intro u hu
  obtain ⟨t, _, ht⟩ := List.mem_flatMap.1 hu
  simp only [tkiV, List.mem_cons, List.not_mem_nil, or_false] at ht
  rcases ht with rfl | rfl <;> rfl
theorem fill_of {w : World} {B g n c : Nat} {L : List TkI} (h : w.ownsRow B 26 2 (.slice (some ⟨g, 0, none⟩) n c) n (tkisV L)) (hn : n = L.length) : Fill w g c L := by
  rcases h.2 with ⟨h', _⟩ | ⟨g', cap', cur, h', hb, hg, hn', hm, hs, ht⟩
  · simp at h'
  · simp only [Value.slice.injEq, Option.some.injEq, Addr.mk.injEq, and_true, true_and] at h'
    obtain ⟨rfl, rfl⟩ := h'
    exact ⟨cur.toList, by simpa [RowX] using hg, by simpa using hs, by rw [← hn]; exact ht⟩
def snt : TkI := (71, [])

set_option maxRecDepth 100000 in
set_option maxHeartbeats 2000000 in
theorem own_any (a : Option Addr) (cap : Nat) (L : List TkI) (w : World) (hL : TkIn w (.slice a L.length cap) L) (hn : a = none → cap = 0) (hl : L.length ≤ 1000000) :
    Calls Tryz.prog 7 #[.slice a L.length cap, .agg #[.int .i64 71, .string ⟨#[]⟩]] w fun e w' => ∃ g, e = .returned (.slice (some ⟨g, 0, none⟩) L.length (L.length + 3)) ∧ RowX w' g (tkisV (L ++ [snt, snt, snt])) ∧ w.heap.size ≤ g ∧ Below w.heap.size w w' := by
  obtain ⟨i0, hi, hz0, hz1, hz2⟩ := info_parts Tryz.info26
  have HL := Lib.hid hL
  have HN : Hid (a = none → L.length = 0 ∧ cap = 0) := Lib.hid (fun h => ⟨by
    obtain ⟨b, off, hat⟩ := hL.at
    by_cases h0 : 0 < L.length
    · have := (hat 0 h0).1; rw [h] at this; cases this
    · omega, hn h⟩)
  have HI := Lib.hid hi
  clear hL hn hi
  go_enter Tryz.func7, Tryz.ntmps7
  go_wp2_with (first
    | (at_make; go_loud (refine wpList_make_own _ rfl _ _ 22 rfl w.heap.size 26 i0 _ 2 Tryz.underlying22 HI.out hz0 hz1 .i64 .i64 _ (L.length + 3) rfl rfl (by go_num) (by rw [hz2]; omega) (by simp [maxLen]; omega) (by simp) ?_)))
  intro w1 hown1 hgr1
  have hb0 : Below w.heap.size w (w.alloc (.cells #[.int .i64 71, .string ⟨#[]⟩] 26)) := (Below.refl _ _).alloc (Nat.le_refl _) _
  have hgw0 : w.heap.size < (w.alloc (.cells #[.int .i64 71, .string ⟨#[]⟩] 26)).heap.size := by simp
  have hgw : w.heap.size < w.heap.size + 1 := by omega
  have hb1 : Below w.heap.size w w1 := hb0.grown hgr1 hb0.size (by intro k hk; cases hk)
  have hbox : w1.heap[w.heap.size]? = some (.cells #[.int .i64 71, .string ⟨#[]⟩] 26 (0, 0)) := by
    rw [hgr1.block _ hgw0 (by simp)]
    exact heap_alloc_new w _
  clear hgw0
  generalize w.heap.size + 1 = g at *
  have HCELL := Lib.hid ((HL.out.below hb1).vals)
  have HBOX := Lib.hid hbox
  clear hb0 hgr1 hbox
  go_wp2_with (at_builtin; go_loud (refine wpList_append_fits_any _ rfl (.tmp 12) (.tmp 13) 22 rfl w.heap.size 26 i0 2 Tryz.underlying22 HI.out hz1 g 0 (L.length + 3) [] rfl hown1 a L.length cap (tkisV L) rfl (by simp) HN.out HCELL.out (tkisV_one L) (by omega) ?_))
  intro w2 hown2 hgr2
  have hbox2 : w2.heap[w.heap.size]? = some (.cells #[.int .i64 71, .string ⟨#[]⟩] 26 (0, 0)) := by
    rw [hgr2.block _ (Array.getElem?_eq_some_iff.1 HBOX.out).1 (by simp; omega)]
    exact HBOX.out
  have hb2 : Below w.heap.size w w2 := hb1.grown hgr2 hb1.size (by intro k hk; cases hk; omega)
  have HF := Lib.hid (fill_of hown2 rfl)
  have HBOX2 := Lib.hid hbox2
  have HB2 := Lib.hid hb2
  clear hown1 hown2 hgr2 hb1 hb2 hbox2
  go_wp2_with fail
  go_loopw [7] (fun i wr => ∃ k : Nat, k ≤ 3 ∧ i = .int .i64 ((L.length : Int) + k) ∧ Fill wr g (L.length + 3) (L ++ List.replicate k snt) ∧ wr.heap[w.heap.size]? = some (.cells #[.int .i64 71, .string ⟨#[]⟩] 26 (0, 0)) ∧ Below w.heap.size w wr) (fun i _ => (((L.length : Int) + 3) - intOf i).toNat)
  case atStart => exact ⟨0, by omega, by simp, by simpa using HF.out, HBOX2.out, HB2.out⟩
  case round =>
    obtain ⟨k, hk, rfl, hfill, hbox, hbel⟩ := hrel
    have HBX := Lib.hid hbox
    have HBL := Lib.hid hbel
    have b0 := cell_of_row wr w.heap.size 0 _ _ _ hbox
    have b1 := cell_of_row wr w.heap.size 1 _ _ _ hbox
    simp only [List.getElem?_toArray, List.getElem?_cons_zero, List.getElem?_cons_succ] at b0 b1
    clear hbox hbel
    by_cases hk3 : k < 3
    · have hln : (L ++ List.replicate k snt).length = L.length + k := by simp
      have hstep := hfill.step (by rw [hln]; omega) snt
      rw [hln] at hstep
      have f0 := hfill.froz ((L.length + k) * 2)
      have f1 := hfill.froz ((L.length + k) * 2 + 1)
      obtain ⟨u0, hu0⟩ := hfill.cell ((L.length + k) * 2) (by omega)
      obtain ⟨u1, hu1⟩ := hfill.cell ((L.length + k) * 2 + 1) (by omega)
      have HSTEP := Lib.hid hstep
      clear hstep hfill hln
      have htn : ((L.length : Int) + k).toNat = L.length + k := by omega
      go_wp2_with fail
      go_roundw
      case rel =>
        refine ⟨k + 1, by omega, by go_num, ?_, (Below.heap_setCell _ _ _ _ (by simp; omega)).trans ((Below.heap_setCell _ _ _ _ (by simp; omega)).trans HBX.out), below_setZ (below_setZ HBL.out (by omega) _) (by omega) _⟩
        have := HSTEP.out
        rw [List.append_assoc, ← List.replicate_succ'] at this
        exact this
      case measure => simp [intOf]; omega
    · obtain rfl : k = 3 := by omega
      have HFI := Lib.hid hfill
      clear hfill
      go_wp2_with fail
      go_ret
      exact ⟨g, rfl, Fill.done HFI.out (by simp), by omega, HBL.out⟩

set_option maxRecDepth 100000 in
set_option maxHeartbeats 2000000 in
theorem kept_any (g : Nat) (vb : Value) (L : List TkI) (w : World) (hx : RowX w g (tkisV (L ++ [snt, snt, snt]))) (hb : TkIn w vb L) (hl : L.length ≤ 1000000) :
    Calls Tryz.prog 15 #[.slice (some ⟨g, 0, none⟩) L.length (L.length + 3), vb, .agg #[.int .i64 71, .string ⟨#[]⟩]] w fun e w' => e = .returned (.bool true) ∧ Below w.heap.size w w' := by
  obtain ⟨ab, cb, rfl⟩ := hb.shape
  have HX := Lib.hid hx
  have HBI := Lib.hid hb
  have hgl := hx.lt
  clear hx hb
  go_enter Tryz.func15, Tryz.ntmps15
  go_wp2_with fail
  have hb0 : Below w.heap.size w (w.alloc (.cells #[.int .i64 71, .string ⟨#[]⟩] 26)) := (Below.refl _ _).alloc (Nat.le_refl _) _
  have hbox : (w.alloc (.cells #[.int .i64 71, .string ⟨#[]⟩] 26)).heap[w.heap.size]? = some (.cells #[.int .i64 71, .string ⟨#[]⟩] 26 (0, 0)) := heap_alloc_new w _
  have hsw : w.heap.size < (w.alloc (.cells #[.int .i64 71, .string ⟨#[]⟩] 26)).heap.size := by simp
  generalize w.alloc (.cells #[.int .i64 71, .string ⟨#[]⟩] 26) = W at *
  have HB0 := Lib.hid hb0
  have HXW := Lib.hid (HX.out.below hb0 hgl)
  refine (plainI_yes (HXW.out.tkIn _) (HBI.out.below hb0) (by omega)).mono ?_
  rintro e w1 ⟨rfl, hb1⟩
  have HB1 := Lib.hid (hb0.trans (hb1.mono hb0.size))
  have hbox1 : w1.heap[w.heap.size]? = some (.cells #[.int .i64 71, .string ⟨#[]⟩] 26 (0, 0)) := (hb1.block _ hsw).trans hbox
  have HX1 := Lib.hid (HXW.out.below hb1 (by omega))
  have b0 := cell_of_row w1 w.heap.size 0 _ _ _ hbox1
  have b1 := cell_of_row w1 w.heap.size 1 _ _ _ hbox1
  simp only [List.getElem?_toArray, List.getElem?_cons_zero, List.getElem?_cons_succ] at b0 b1
  clear hb0 hbox hsw hb1 hbox1 HXW
  go_wp2_with fail
  go_loopw [8] (fun i wr => ∃ k : Nat, k ≤ 3 ∧ i = .int .i64 ((L.length : Int) + k) ∧ Still w1 wr) (fun i _ => (((L.length : Int) + 3) - intOf i).toNat)
  case atStart => exact ⟨0, by omega, by simp, Still.refl _⟩
  case round =>
    obtain ⟨k, hk, rfl, hst⟩ := hrel
    have HST := Lib.hid hst
    have d0 := (hst.cell _).trans b0
    have d1 := (hst.cell _).trans b1
    by_cases hk3 : k < 3
    · have htn : ((L.length : Int) + k).toNat = L.length + k := by omega
      have hi : L.length + k < (L ++ [snt, snt, snt]).length := by simp; omega
      have hs : (L ++ [snt, snt, snt])[L.length + k] = snt := by
        rw [List.getElem_append_right (by omega)]
        have : k = 0 ∨ k = 1 ∨ k = 2 := by omega
        rcases this with rfl | rfl | rfl <;> simp
      obtain ⟨g0, g1⟩ := tkisV_get _ _ hi
      rw [hs] at g0 g1
      have e0 : wr.cell? ⟨g, (L.length + k) * 2, none⟩ = some (.int .i64 71) := (hst.cell _).trans (by rw [HX1.out.at]; exact g0)
      have e1 : wr.cell? ⟨g, (L.length + k) * 2 + 1, none⟩ = some (.string ⟨#[]⟩) := (hst.cell _).trans (by rw [HX1.out.at]; exact g1)
      clear g0 g1 hs hi hst
      go_wp2_with go_region
      go_roundw
      case rel => exact ⟨k + 1, by omega, by go_num, HST.out.drew⟩
      case measure => simp [intOf]; omega
    · obtain rfl : k = 3 := by omega
      clear hst
      go_wp2_with fail
      go_ret
      exact ⟨rfl, HB1.out.trans (HST.out.1.mono HB1.out.size)⟩
end Go.Proofs.YtghibofnfjnfcaaGreatDoor
