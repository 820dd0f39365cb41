/-
  TokenShort: the walk.
-/
import Derived.Test.YtghibofnfjnfcaaGreatDoorPrtL
namespace Go.Proofs.YtghibofnfjnfcaaGreatDoor
set_option linter.unusedVariables false
open Go.RowKit

theorem showT_len (t : Tk) : (showT t).length ≤ 2 * (t.2.length + 3) := by
  have hd := decL_len t.2.length
  have he := escL_len t.2
  have hc := cntE_le t.2
  unfold showT
  split
  · simp; omega
  split
  · simp; omega
  split
  · simp; omega
  split
  · simp; omega
  split
  · simp; omega
  split
  · simp; omega
  split
  · simp; omega
  · omega
def wgt (L : List TkI) : Nat := (L.map (fun t => t.2.length + 3)).sum
theorem wgt_cons (t : TkI) (L : List TkI) : wgt (t :: L) = t.2.length + 3 + wgt L := by unfold wgt; rw [List.map_cons, List.sum_cons]
theorem flat_len (L : List TkI) : ((L.map nrm).flatMap showT).length ≤ 2 * wgt L := by
  induction L with
  | nil => simp
  | cons t L ih =>
    rw [List.map_cons, List.flatMap_cons, List.length_append, wgt_cons]
    have := showT_len (nrm t)
    have e : (nrm t).2.length = t.2.length := rfl
    omega
theorem said_len (L : List TkI) : (said L L.length).length ≤ 2 * wgt L := by unfold said; rw [List.take_length]; exact flat_len L
theorem wgt_mem {L : List TkI} {t : TkI} (h : t ∈ L) : t.2.length + 3 ≤ wgt L := by
  induction L with
  | nil => cases h
  | cons u L ih =>
    rw [wgt_cons]
    rcases List.mem_cons.1 h with rfl | h
    · omega
    · have := ih h; omega
theorem wgt_len (L : List TkI) : 3 * L.length ≤ wgt L := by
  induction L with
  | nil => simp [wgt]
  | cons t L ih => rw [wgt_cons, List.length_cons]; omega
theorem RngV.below {w w' : World} (h : RngV w) (hb : Below w.heap.size w w') : RngV w' := by
  obtain ⟨tp, q, h⟩ := h
  exact ⟨tp, q, (hb.cell (p := ⟨5, 0, none⟩) (World.block_lt_of_cell? w _ h)).trans h⟩
theorem print_any2 (v : Value) (L : List TkI) (w : World) (hL : TkIn w v L) (hs : ∀ t ∈ L, ∀ c ∈ t.2, c < 256) (hw : wgt L ≤ 1048576) (ht : TabV w) : Calls Tryz.prog 8 #[v] w (PrintOut w (printL (L.map nrm))) :=
  print_any v L w hL (fun t h => ⟨hs t h, by have := wgt_mem h; omega⟩) (by have := wgt_len L; omega) (by have := said_len L; omega) ht
theorem print_len {L : List TkI} {x : List Nat} (h : printL (L.map nrm) = some x) (hw : wgt L ≤ 1048576) : x.length ≤ 2097152 := by
  unfold printL at h
  split at h
  · obtain rfl := Option.some.inj h
    have := flat_len L
    omega
  · cases h
theorem print_lt {L : List TkI} {x : List Nat} (h : printL (L.map nrm) = some x) (hs : ∀ t ∈ L, ∀ c ∈ t.2, c < 256) : ∀ c ∈ x, c < 256 := by
  unfold printL at h
  split at h
  · obtain rfl := Option.some.inj h
    intro c hc
    obtain ⟨t, ht, hc⟩ := List.mem_flatMap.1 hc
    obtain ⟨u, hu, rfl⟩ := List.mem_map.1 ht
    exact showT_lt (hs u hu) c hc
  · cases h
/-- the beginning of a row -/
theorem OwnB.take {w : World} {B : Nat} {a : Option Addr} {n c : Nat} {l : List Nat} (h : OwnB w B (.slice a n c) l) (hl : ∀ c ∈ l, c < 256) (k : Nat) (hk : k ≤ l.length) : RowB w (.slice a k c) (l.take k) := by
  obtain ⟨a', len, cap, e, h1, h2, h3, h4, h5, h6⟩ := h.row hl
  simp only [Value.slice.injEq] at e
  obtain ⟨rfl, rfl, rfl⟩ := e
  refine ⟨a, k, c, rfl, by rw [List.length_take]; omega, by omega, h3, fun x hx => h4 x (List.mem_of_mem_take hx), fun e => ⟨by have := h5 e; omega, (h5 e).2⟩, fun x hx i hi => ?_⟩
  have hi' : i < l.length := by rw [List.length_take] at hi; omega
  rw [h6 x hx i hi', List.getElem_take]

theorem cut_at (x : Int) (m : Nat) (hm : m ≤ 2097152) : ∃ a : Nat, a ≤ m ∧ wrap64 ((IntKind.u64.wrap x).tmod ((m : Int) + 1)) = (a : Int) := by
  have h0 : 0 ≤ IntKind.u64.wrap x := by rw [IntKind.wrap_u64]; exact Int.emod_nonneg _ (by decide)
  generalize IntKind.u64.wrap x = y at *
  rw [Int.tmod_eq_emod_of_nonneg h0]
  have h1 := Int.emod_nonneg y (show ((m : Int) + 1) ≠ 0 by omega)
  have h2 := Int.emod_lt_of_pos y (show (0 : Int) < (m : Int) + 1 by omega)
  generalize y % ((m : Int) + 1) = z at *
  exact ⟨z.toNat, by omega, by unfold wrap64; omega⟩

set_option maxRecDepth 100000 in
set_option maxHeartbeats 4000000 in
theorem short_walk (v : Value) (L : List TkI) (cut : Int) (w : World) (hL : TkIn w v L) (hs : ∀ t ∈ L, ∀ c ∈ t.2, c < 256) (hw : wgt L ≤ 1048576) (hcut : (Lit.int .i64 cut).wf = true) (hr : RngV w) (ht : TabV w) :
    Calls Tryz.prog 5 #[v, .int .i64 cut] w fun e w' => e = .returned (.bool true) ∧ Below w.heap.size w w' := by
  obtain ⟨a, c, rfl⟩ := hL.shape
  have HL := Lib.hid hL
  have HS := Lib.hid hs
  have HW := Lib.hid hw
  have HR := Lib.hid hr
  have HT := Lib.hid ht
  have HA := Lib.hid (awake_any w hr)
  have hlen : L.length ≤ 1048576 := by have := wgt_len L; omega
  clear hL hs hw hr ht
  by_cases h100 : L.length ≤ 100
  · have hz : ¬ (100 : Int) < (L.length : Int) := by omega
    clear h100
    go_enter Tryz.func5, Tryz.ntmps5
    go_wp2_with (first | (go_at_call 6; refine HA.out.mono ?_; rintro e w1 ⟨rfl, hb1⟩; have HB1 := Lib.hid hb1; clear hb1))
    refine (print_any2 _ L w1 (HL.out.below HB1.out) HS.out HW.out (HT.out.below HB1.out)).mono ?_
    rintro e w2 (⟨x, o, hp, rfl, ho, hb2⟩ | ⟨hp, rfl, hb2⟩)
    · obtain ⟨oa, oc, rfl⟩ := ho.shape
      have HO := Lib.hid ho
      have HP := Lib.hid hp
      have HB2 := Lib.hid (HB1.out.trans (hb2.mono HB1.out.size))
      have hxl : x.length ≤ 2097152 := print_len hp HW.out
      obtain ⟨n, hn, hm⟩ := cut_at cut x.length hxl
      have hxoc : x.length ≤ oc := by
        rcases ho.2 with ⟨e, h0⟩ | ⟨g, cap, cur, e, _, _, h, _⟩
        · simp only [Value.slice.injEq] at e; omega
        · simp only [Value.slice.injEq] at e; omega
      have hnc : (n : Int) ≤ (oc : Int) := by omega
      have hxlt := print_lt hp HS.out
      have HROW := Lib.hid (ho.take hxlt n hn)
      have HTK := Lib.hid (lex_take (print_back hp) n)
      clear ho hp hb2 hxlt
      go_wp2_with fail
      refine (lex_any _ (x.take n) w2 HROW.out (by rw [List.length_take]; omega) (HR.out.below HB2.out)).mono ?_
      rintro e w3 ⟨o3, rfl, ho3, hb3⟩
      have HB3 := Lib.hid (HB2.out.trans (hb3.mono HB2.out.size))
      clear ho3 hb3 hm
      rcases HTK.out with h0 | h8
      · rw [h0]
        go_wp2_with fail
        go_ret
        exact ⟨rfl, HB3.out⟩
      · rw [h8]
        go_wp2_with fail
        go_ret
        exact ⟨rfl, HB3.out⟩
    · have HB2 := Lib.hid (HB1.out.trans (hb2.mono HB1.out.size))
      clear hp hb2
      go_wp2_with fail
      go_ret
      exact ⟨rfl, HB2.out⟩
  · have hz : (100 : Int) < (L.length : Int) := by omega
    clear h100
    go_enter Tryz.func5, Tryz.ntmps5
    go_wp2_with (first | (go_at_call 6; refine HA.out.mono ?_; rintro e w1 ⟨rfl, hb1⟩; have HB1 := Lib.hid hb1; have HA1 := Lib.hid (awake_any w1 (HR.out.below hb1)); clear hb1))
    refine HA1.out.mono ?_
    rintro e w2 ⟨rfl, hb2⟩
    have HB2 := Lib.hid (HB1.out.trans (hb2.mono HB1.out.size))
    clear hb2
    go_wp2_with fail
    go_ret
    exact ⟨rfl, HB2.out⟩
end Go.Proofs.YtghibofnfjnfcaaGreatDoor
