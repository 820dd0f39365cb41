/-
  Several texts of one proof, each in a section of its own: Follow, Open, Awk, Ins.
-/
import Derived.Test.YtmnbkhgogogeiaaRg14
import Derived.Lib.SmallJoins
import Derived.Test.YtmnbkhgogogeiaaRg8
namespace Go.Proofs.Ytmnbkhgogogeiaa
section
set_option linter.unusedVariables false
open Go.RowKit

set_option maxRecDepth 100000 in
theorem follow_zero {w : World} {pl : Nat} {d ev : Value} {s : LgS} (h : LgV w pl d ev s false) (hp : s.place = 0) (hu : s.used = 0) (hr0 : 0 < s.ring) {v : Value} {n : Nat} (hs : SecZ w v n) (hn : 0 < n) :
    Calls Try.prog 49 #[.pointer (some ⟨pl, 0, none⟩), v] w fun e w' => e = .returned (.tuple #[]) ∧ Below w.heap.size w w' := by
  obtain ⟨b, off, cap, rfl, -, -, -⟩ := id hs
  have HRC := Lib.hid (record_zero h hp hu hr0 hs hn)
  clear h hs hp hu hr0
  go_enter Try.func49, Try.ntmps49
  go_wp2_with fail
  go_loopw [] (fun wr => wr = w) (fun _ => 0)
  case atStart => rfl
  case round =>
    have hwr := hrel.symm
    subst hwr
    go_wp2_with (go_at_call 77; refine HRC.out.mono ?_; rintro e w3 ⟨rfl, hb3⟩; have HB3 := Lib.hid hb3; clear hb3)
    exact bodyPost_ret (v := .tuple #[]) (by simp [results, Try.results49, go_sem]) rfl ⟨rfl, HB3.out.alloc HB3.out.size _⟩

set_option maxRecDepth 100000 in
set_option maxHeartbeats 4000000 in
theorem readAll_any {B : Nat} {w0 w : World} {pd : Nat} {kv : Value} {S : List (List Nat)} {W : List (Nat × List Nat)} (h : Held B w0 w pd kv S W 0 false) :
    Calls Try.prog 47 #[.pointer (some ⟨pd, 0, none⟩)] w fun e w' => ∃ o M, e = .returned (.tuple #[o, .int .i64 0]) ∧ Rows2 w' w.heap.size o M ∧ M.map (·.2) = (List.range S.length).map (shown S W) ∧ Below w.heap.size w w' := by
  have HH := Lib.hid h
  have hgood : Good S W := by obtain ⟨wv, mv, hdk, _⟩ := h.dk; exact hdk.good
  have hsl : S.length ≤ 65536 := hgood.sl
  have HSZ : Hid (Calls Try.prog 26 #[.pointer (some ⟨pd, 0, none⟩)] w fun e w' => e = .returned (.int .i64 (S.length : Nat)) ∧ w = w') := Lib.hid (by obtain ⟨wv, mv, hdk, _⟩ := h.dk; exact size_ok hdk)
  obtain ⟨i0, hi, hz0, hz1, hz2⟩ := info_parts Try.info23
  have HI := Lib.hid hi
  have HG := Lib.hid hgood
  clear hi h hgood
  obtain ⟨n, hn⟩ : ∃ n, S.length = n := ⟨_, rfl⟩
  rw [hn] at HSZ hsl
  have HN := Lib.hid hn
  rw [hn]
  clear hn
  go_enter Try.func47, Try.ntmps47
  go_wp2_with (go_at_call 26; refine HSZ.out.mono ?_; rintro e w' ⟨rfl, rfl⟩)
  go_loopw [11, 5] (fun i o wr => ∃ k M, k ≤ n ∧ i = .int .i64 (k : Nat) ∧ Rows2 wr w.heap.size o M ∧ M.map (·.2) = (List.range k).map (shown S W) ∧ Below w.heap.size w wr) (fun i _ _ => n - (RowKit.intOf i).toNat)
  case atStart => exact ⟨0, [], Nat.zero_le _, rfl, Rows2.nil _ _, rfl, Below.refl _ _⟩
  case round =>
    obtain ⟨k, M, hk, rfl, hm, hmm, hb⟩ := hrel
    obtain ⟨oa, oc, rfl⟩ := own_shape hm.row
    have HM := Lib.hid hm
    have HMM := Lib.hid hmm
    have HB := Lib.hid hb
    by_cases hkn : k < n
    · have hkz : (k : Int) < (n : Int) := by omega
      have HRD := Lib.hid (read_held (HH.out.below' hb) k (by rw [HN.out]; exact hkn))
      have HKN := Lib.hid hkn
      have HML : Hid (M.length = k) := Lib.hid (by have h1 := congrArg List.length HMM.out; simpa using h1)
      clear hm hmm hb
      go_wp2_with (first
        | (go_at_call 75; refine HRD.out.mono ?_; rintro e w5 ⟨o2, rfl, ho, hb5⟩
           obtain ⟨pa, pc, rfl⟩ := ho.shape
           have h5 : Rows2 w5 w.heap.size (.slice oa M.length oc) M := HM.out.below hb5
           obtain ⟨sl, hsl2⟩ : ∃ sl, (shown S W k).length = sl := ⟨_, rfl⟩
           rw [hsl2] at ho
           have HM5 : Hid (Rows2 (w5.alloc (.cells #[.slice pa sl pc] 23)) w.heap.size (.slice oa M.length oc) M) := Lib.hid (h5.below ((Below.refl _ _).alloc (Nat.le_refl _) _))
           have HB5 : Hid (Below w.heap.size w (w5.alloc (.cells #[.slice pa sl pc] 23))) := Lib.hid ((HB.out.trans (hb5.mono HB.out.size)).alloc (Nat.le_trans HB.out.size hb5.size) _)
           have HY5 : Hid (OwnB (w5.alloc (.cells #[.slice pa sl pc] 23)) w.heap.size (.slice pa sl pc) (shown S W k)) := Lib.hid ((owns_mono ho HB.out.size).alloc _)
           have HW5 : Hid ((w5.alloc (.cells #[.slice pa sl pc] 23)).heap[w5.heap.size]? = some (.cells #[.slice pa sl pc] 23 (0, 0))) := Lib.hid (heap_alloc_new w5 _)
           have HSL := Lib.hid hsl2
           clear ho hb5 h5 hsl2
           rw [HSL.out])
        | (at_builtin; go_loud (refine wpList_append_own _ rfl (.tmp 24) (.tmp 26) 69 rfl w.heap.size 23 i0 _ 1 24 Try.underlying69 HI.out hz0 hz1 hz2 rfl (by decide) (.slice oa M.length oc) M.length (M.map (·.1)) rfl HM5.out.row ⟨w5.heap.size, 0, none⟩ 1 1 [.slice pa sl pc] rfl rfl (World.news_of_block (cs := #[.slice pa sl pc]) (t := 23) (fr := (0, 0)) HW5.out) (by simp [Value.oneCell']) (by have := HML.out; unfold maxLen; omega) (by have := HML.out; omega) HB5.out.size ?_)))
      intro o w6 ho hgr _
      have HM6 := Lib.hid (HM5.out.grown HY5.out hgr rfl ho)
      have HB6 : Hid (Below w.heap.size w w6) := Lib.hid (HB5.out.grown hgr HB5.out.size (fun j hj => (World.ownsRow.lt HM5.out.row j hj).1))
      obtain ⟨oa2, oc2, rfl⟩ := own_shape ho
      clear ho hgr
      go_wp2_with fail
      go_roundw
      case rel => exact ⟨k + 1, M ++ [(.slice pa sl pc, shown S W k)], HKN.out, by go_num, HM6.out, by rw [List.range_succ, List.map_append, List.map_append, HMM.out]; rfl, HB6.out⟩
      case measure => simp [intOf]; omega
    · obtain rfl : k = n := by omega
      go_wp2_with fail
      exact bodyPost_ret (v := .tuple #[.slice oa M.length oc, .int .i64 0]) (by simp [results, Try.results47, go_sem]) rfl ⟨_, M, rfl, HM.out, HMM.out, HB.out⟩
end
section
set_option linter.unusedVariables false
open Go.RowKit

def frS (r num : Nat) : LgS := ⟨r, 0, 0, 0, 0, [], 0, 0, 0, num⟩
theorem secZ_of {w : World} {B n : Nat} {o : Value} {M : List (Value × List Nat)} (h : Rows2 w B o M) (hn : M.length = n) (h0 : 0 < n) (hm : n ≤ 65536) (hz : ∀ x ∈ M, x.2 = zeros 64) :
    ∃ g cap, o = .slice (some ⟨g, 0, none⟩) n cap ∧ n ≤ cap ∧ cap ≤ maxLen ∧ ∀ i, i < n → ∃ a c, w.cell? ⟨g, i, none⟩ = some (.slice a 64 c) ∧ RowB w (.slice a 64 c) (zeros 64) := by
  subst hn
  rcases h.row.2 with ⟨e, h1⟩ | ⟨g, cap, cur, rfl, hb, hh, hc, hmx, hs, ht⟩
  · omega
  · refine ⟨g, cap, rfl, hc, hmx, fun i hi => ?_⟩
    have hx := List.getElem_mem hi
    have ho := h.own _ hx
    rw [hz _ hx] at ho
    obtain ⟨a, c, e⟩ := ho.shape
    have e2 : (zeros 64).length = 64 := by simp [zeros]
    rw [e2] at e
    rw [e] at ho
    refine ⟨a, c, ?_, ho.rowB (by intro n hn; have := List.eq_of_mem_replicate hn; omega)⟩
    rw [cell_of_row _ _ _ _ 23 (0, 0) hh]
    have h3 : (M.map (·.1))[i]? = some (.slice a 64 c) := by rw [List.getElem?_map, List.getElem?_eq_getElem hi]; simp [e]
    rw [← ht, List.getElem?_take_of_lt (by omega)] at h3
    simpa using h3

theorem setCell_id {w : World} {b o : Nat} {v : Value} (h : w.cell? ⟨b, o, none⟩ = some v) : w.setCell ⟨b, o, none⟩ v = w := by
  unfold World.cell? at h
  simp only at h
  obtain ⟨heap, tape, drawn, os, out⟩ := w
  unfold World.setCell
  simp only at h ⊢
  congr 1
  apply Array.ext_getElem?
  intro i
  rw [Array.getElem?_modify]
  by_cases e : b = i
  · subst e
    rw [if_pos rfl]
    cases hh : heap[b]? with
    | none => rfl
    | some ob =>
      rw [hh] at h
      cases ob <;> simp at h ⊢
      apply Array.ext_getElem?
      intro j
      by_cases ej : o = j
      · subst ej
        rw [Array.getElem?_setIfInBounds_self_of_lt (by exact (Array.getElem?_eq_some_iff.1 h).1), h]
      · rw [Array.getElem?_setIfInBounds_ne ej]
  · rw [if_neg e]
set_option maxRecDepth 100000 in
set_option maxHeartbeats 4000000 in
theorem open_fresh {B : Nat} {w0 w : World} {pd n : Nat} {kv : Value} (h : Held B w0 w pd kv (List.replicate n (zeros 64)) [] 0 false) (hn : 3 ≤ n) (hn2 : n ≤ 65536) :
    Calls Try.prog 25 #[.pointer (some ⟨pd, 0, none⟩)] w fun e w' => ∃ pl, e = .returned (.tuple #[.pointer (some ⟨pl, 0, none⟩), .int .i64 0]) ∧ Lg B w0 w' pl pd kv (frS (n - 2) 1) (List.replicate n (zeros 64)) [] ∧ w.heap.size ≤ pl ∧ Below w.heap.size w w' := by
  have HH := Lib.hid h
  have HSZ : Hid (Calls Try.prog 26 #[.pointer (some ⟨pd, 0, none⟩)] w fun e w' => e = .returned (.int .i64 (n : Nat)) ∧ w = w') := Lib.hid (by
    obtain ⟨wv, mv, hdk, _⟩ := h.dk
    have := size_ok hdk
    rwa [List.length_replicate] at this)
  have HDN : Hid (Calls Try.prog 46 #[.pointer (some ⟨pd, 0, none⟩)] w fun e w' => e = .returned (.bool false) ∧ w = w') := Lib.hid (by
    obtain ⟨wv, mv, hdk, _⟩ := h.dk
    exact down_ok hdk)
  obtain ⟨r, hr⟩ : ∃ r, n - 2 = r := ⟨_, rfl⟩
  have hr1 : (n : Int) - 2 = (r : Int) := by omega
  have hr2 : max 0 (r : Int) = (r : Int) := by omega
  have hr3 : ((r : Int) == 0) = false := by simp; omega
  have HR := Lib.hid hr
  have HRN : Hid (0 < r ∧ r ≤ 65534) := Lib.hid (by omega)
  rw [hr]
  obtain ⟨X, hX, hXl, hbX⟩ : ∃ X, X = w.alloc (.cells #[.pointer (some ⟨pd, 0, none⟩), .int .i64 (r : Nat), .int .u64 0, .int .u64 0, .int .u64 0, .int .u64 0, .slice none 0 0, .int .i64 0, .int .i64 0, .int .u64 0, .int .u64 0, .bool false] 91) ∧ LgV X w.heap.size (.pointer (some ⟨pd, 0, none⟩)) (.slice none 0 0) (frS r 0) false ∧ Below w.heap.size w X :=
    ⟨_, rfl, heap_alloc_new w _, (Below.refl _ _).alloc (Nat.le_refl _) _⟩
  have HLX := Lib.hid hXl
  have HBX := Lib.hid hbX
  have HRA := Lib.hid (readAll_any (h.below' hbX))
  clear h hr hXl hbX
  go_enter Try.func25, Try.ntmps25
  go_upto_region 6 with (first
    | (go_at_call 46; refine HDN.out.mono ?_; rintro e w' ⟨rfl, rfl⟩)
    | (go_at_call 26; refine HSZ.out.mono ?_; rintro e w' ⟨rfl, rfl⟩))
  rw [← hX]
  clear hX
  generalize hpl : w.heap.size = pl at *
  have HPL := Lib.hid hpl
  clear hpl
  go_wp2_with fail
  refine HRA.out.mono ?_
  rintro e w2 ⟨o, M, rfl, hm, hmm, hb2⟩
  rw [List.length_replicate] at hmm
  have hML : M.length = n := by have h1 := congrArg List.length hmm; simpa using h1
  have hMZ : ∀ x ∈ M, x.2 = zeros 64 := fun x hx => by
    have h1 : x.2 ∈ M.map (·.2) := List.mem_map_of_mem hx
    rw [hmm] at h1
    obtain ⟨j, hj, e⟩ := List.mem_map.1 h1
    rw [← e]
    have hj2 : j < n := List.mem_range.1 hj
    simp [shown, lastIdx_nil, List.getD, hj2]
  obtain ⟨g, gc, rfl, hgc, hgm, hsec⟩ := secZ_of hm hML (by omega) hn2 hMZ
  have HSE := Lib.hid hsec
  have hl2 := HLX.out.qb (Below.qb hb2) (Nat.le_refl _)
  have HL2 := Lib.hid hl2
  have HB2 : Hid (Below pl w w2) := Lib.hid (HBX.out.trans (hb2.mono (by have h1 := HBX.out.size; rw [HPL.out] at h1; exact h1)))
  obtain ⟨-, d1, -, -, -, -, -, -, -, -, -, -⟩ := hl2.cells
  simp only [frS] at d1
  have hgn : (2 : Int) ≤ (gc : Int) := by omega
  clear hm hmm hb2 hML hMZ hsec hl2
  have HNW := Lib.hid (newest_zero (w := w2) (v := .slice (some ⟨g, 0, none⟩) 2 gc) (n := 2) ⟨g, 0, gc, rfl, by omega, hgm, fun i hi => by
    obtain ⟨a, c, h1, h2⟩ := HSE.out i (by omega)
    exact ⟨a, c, by rw [Nat.zero_add]; exact h1, h2⟩⟩ (by decide))
  go_wp2_with fail
  refine HNW.out.mono ?_
  rintro e w3 ⟨rfl, hb3⟩
  have hl3 := HL2.out.qb (Below.qb hb3) (Nat.le_refl _)
  have HL3 := Lib.hid hl3
  have HB23 := Lib.hid hb3
  have HB3 : Hid (Below pl w w3) := Lib.hid (HB2.out.trans (hb3.mono (by have h1 := HB2.out.size; rw [HPL.out] at h1; exact h1)))
  obtain ⟨-, j1, j2, j3, j4, j5, -, j7, -, j9, -, -⟩ := hl3.cells
  simp only [frS] at j1 j2 j3 j4 j5 j7 j9
  have e2 : w3.setCell ⟨pl, 2, none⟩ (.int .u64 0) = w3 := setCell_id j2
  have e3 : w3.setCell ⟨pl, 3, none⟩ (.int .u64 0) = w3 := setCell_id j3
  have e4 : w3.setCell ⟨pl, 4, none⟩ (.int .u64 0) = w3 := setCell_id j4
  have e5 : w3.setCell ⟨pl, 5, none⟩ (.int .u64 0) = w3 := setCell_id j5
  have e7 : w3.setCell ⟨pl, 7, none⟩ (.int .i64 0) = w3 := setCell_id j7
  have e9 : w3.setCell ⟨pl, 9, none⟩ (.int .u64 0) = w3 := setCell_id j9
  have f2 := hl3.free 2
  have f3 := hl3.free 3
  have f4 := hl3.free 4
  have f5 := hl3.free 5
  have f7 := hl3.free 7
  have f9 := hl3.free 9
  clear hb3 hl3 HNW d1
  go_upto_region 13 with (fail)
  have hz1 : (0 : Int).tmod (r : Int) = 0 := Int.zero_tmod _
  have hz2 : ¬ r = 0 := Nat.pos_iff_ne_zero.1 HRN.out.1
  have hz3 : IntKind.u64.wrap (r : Int) = (r : Int) := wraps_u64 _ (Int.natCast_nonneg _) (by have := HRN.out.2; omega)
  clear e2 e3 e4 e5 e9
  go_region
  go_wp2_with fail
  have HSW : Hid (∀ W2, Below w3.heap.size w3 W2 → SecZ W2 (.slice (some ⟨g, 2, none⟩) (n - 2) (gc - 2)) (n - 2)) := Lib.hid fun W2 h2 => by
    refine SecZ.below (w := w3) (SecZ.below (w := w2) ⟨g, 2, gc - 2, rfl, by omega, by omega, fun i hi => ?_⟩ HB23.out) h2
    obtain ⟨a, c, h1, h2⟩ := HSE.out (2 + i) (by omega)
    exact ⟨a, c, h1, h2⟩
  have hD : Below w3.heap.size w3 w3.drew := (Below.refl _ _).drew
  have hL3d := HL3.out.qb (Below.qb hD) (Nat.le_refl _)
  refine (follow_zero hL3d rfl rfl HRN.out.1 (HSW.out _ hD) (by omega)).mono ?_
  rintro e w4 ⟨rfl, hb4⟩
  have hb34 : Below w3.heap.size w3 w4 := hD.trans hb4
  have hl4 := HL3.out.qb (Below.qb hb34) (Nat.le_refl _)
  have HL4 := Lib.hid hl4
  have HB34 := Lib.hid hb34
  have HKE : Hid (∀ W2, Below w4.heap.size w4 W2 → W2.cell? ⟨pl, 5, none⟩ = some (.int .u64 0) ∧ W2.cell? ⟨pl, 10, none⟩ = some (.int .u64 0) ∧ W2.frozen? ⟨pl, 10, none⟩ = false) := Lib.hid fun W2 h2 => by
    have h3 := HL4.out.qb (Below.qb h2) (Nat.le_refl _)
    exact ⟨h3.cells.2.2.2.2.2.1, h3.cells.2.2.2.2.2.2.2.2.2.2.1, h3.free 10⟩
  have hD4 : Below w4.heap.size w4 w4.drew := (Below.refl _ _).drew
  obtain ⟨i5, i10, if10⟩ := HKE.out _ hD4
  have HD4 := Lib.hid hD4
  have hgc2 : ¬ gc = 2 := by omega
  have hgz1 : (2 : Int) ≤ (n : Int) := by omega
  have hgz2 : (n : Int) ≤ (gc : Int) := by omega
  have HGR := Lib.hid (greatest_zero (HSW.out _ (hb34.trans (hD4.mono hb34.size))) (by omega))
  clear hb4 hb34 hl4 hD hL3d hD4
  go_wp2_with fail
  go_cut [] (fun wx => ∃ w5, Below w4.heap.size w4 w5 ∧ wx = w5.setCell ⟨pl, 10, none⟩ (.int .u64 1))
  case first =>
    go_region_law (first
      | (go_simp; go_at_call 50; refine HGR.out.mono ?_; rintro e w5 ⟨rfl, hb5⟩
         have HB5 := Lib.hid (HD4.out.trans hb5)
         obtain ⟨u5, u10, uf10⟩ := HKE.out _ HB5.out
         clear hb5))
    all_goals
      go_wp2_with fail
      go_meet
      exact ⟨w5, HB5.out, rfl⟩
  case rest =>
    obtain ⟨w5, hb5, hwx⟩ := hcut
    subst hwx
    have HB5 := Lib.hid hb5
    clear hb5
    go_wp2_with fail
    refine bodyPost_ret (v := .tuple #[.pointer (some ⟨pl, 0, none⟩), .int .i64 0]) (by simp [results, Try.results25, go_sem]) rfl ?_
    have hpl := HPL.out
    have hw3 : Below w.heap.size w w3 := by have := HB3.out; rwa [← hpl] at this
    have hw5 : Below w.heap.size w w5 := (hw3.trans (HB34.out.mono hw3.size)).trans (HB5.out.mono (Nat.le_trans hw3.size HB34.out.size))
    have hl5 := HL4.out.qb (Below.qb HB5.out) (Nat.le_refl _)
    have hbs : Beside (fun k => k = pl) w5 (w5.setCell ⟨pl, 10, none⟩ (.int .u64 1)) := (Beside.refl (fun k => k = pl) w5).setCell (p := ⟨pl, 10, none⟩) (.inl rfl) _
    have hBp : B ≤ pl := by rw [← hpl]; exact Nat.le_trans HH.out.base HH.out.below.size
    refine ⟨pl, rfl, ⟨(HH.out.below' hw5).beside2 hbs (fun k hk => by subst hk; exact ⟨_, _, _, hl5, by decide, by decide, by decide⟩) (fun k hk => by subst hk; exact hBp), ⟨.slice none 0 0, [], hl5.set10 1, ⟨World.ownsRow_nil _ _ _ _, fun _ h => by cases h⟩, rfl⟩, hBp⟩, by rw [hpl]; exact Nat.le_refl _, hw5.trans (hbs.below (fun k hk => by rw [hk, ← hpl]; exact Nat.le_refl _) hw5.size)⟩
end
section
set_option linter.unusedVariables false
open Go.RowKit

theorem cellsN_le (n : Nat) (h : n ≤ 65536) : cellsN n ≤ 1640 := by unfold cellsN; omega
theorem cellsN_pos (n : Nat) : 1 ≤ cellsN n := by unfold cellsN; omega
theorem Fit.app {s : LgS} {S : List (List Nat)} {W : List (Nat × List Nat)} {data : List Nat} (h : Fit s S W) (hl : data.length ≤ 65536) (hroom : s.used + cellsN data.length ≤ s.ring) (hn : s.number ≤ 999999000000) (he : s.ents.length < 65536) (hw : W.length ≤ 890000) :
    Fit (appS s data) S (appW s data S W (cellsN data.length)) := by
  have h1 := cellsN_le _ hl
  have h2 := cellsN_pos data.length
  refine ⟨h.disk, h.ring, Nat.mod_lt _ h.ring, ?_, ?_, h.first, h.version, ?_, ?_, hroom, h.bound⟩
  · show s.number + cellsN data.length ≤ _; omega
  · show lastK s (cellsN data.length) ≤ _
    obtain ⟨m, hm⟩ : ∃ m, cellsN data.length = m + 1 := ⟨cellsN data.length - 1, by omega⟩
    rw [hm]
    show s.number + m ≤ _
    omega
  · show (s.ents ++ [_]).length ≤ _
    simp
    omega
  · rw [appW_length]; omega
theorem Fit.fresh (n : Nat) (hn : 3 ≤ n) (hn2 : n ≤ 65536) : Fit (frS (n - 2) 1) (List.replicate n (zeros 64)) [] := by
  refine ⟨by simp [frS]; omega, by show 0 < n - 2; omega, by show 0 < n - 2; omega, by show 1 ≤ _; decide, by show 0 ≤ _; decide, by show 0 ≤ _; decide, by show 0 ≤ _; decide, by show 0 ≤ _; decide, by show 0 ≤ _; decide, by show 0 ≤ n - 2; omega, by show n - 2 ≤ 65534; omega⟩
theorem Fit.flush {s : LgS} {S : List (List Nat)} {W : List (Nat × List Nat)} (h : Fit s S W) : Fit s (flushed S W) [] :=
  ⟨by rw [flushed_len]; exact h.disk, h.ring, h.place, h.number, h.last, h.first, h.version, h.ents, by simp, h.used, h.bound⟩
theorem Lg.records {B : Nat} {w0 w : World} {pl pd : Nat} {kv : Value} {s : LgS} {S : List (List Nat)} {W : List (Nat × List Nat)} (h : Lg B w0 w pl pd kv s S W) (hf : s.ents.length ≤ 65536) (hd : ∀ x ∈ s.ents, x.data.length ≤ 65536 ∧ ∀ n ∈ x.data, n < 256) :
    Calls Try.prog 27 #[.pointer (some ⟨pl, 0, none⟩)] w fun e w' => ∃ o M, e = .returned o ∧ Rows2 w' w.heap.size o M ∧ M.map (·.2) = s.ents.map (·.data) ∧ Below w.heap.size w w' := by
  obtain ⟨ev, L, hlg, he, hL⟩ := h.log
  have hLn : L.length ≤ 65536 := by have := hf; rw [← hL] at this; simpa using this
  refine (records_any hlg he hLn (fun x hx => hd x.1 (by rw [← hL]; exact List.mem_map_of_mem hx))).mono fun e w' ⟨o, M, h1, h2, h3, h4⟩ => ⟨o, M, h1, h2, ?_, h4⟩
  rw [h3, ← hL, List.map_map]
  rfl
theorem one_of (M : List (Value × List Nat)) (d : List Nat) (h : M.map (·.2) = [d]) : ∃ v, M = [(v, d)] := by
  cases M with
  | nil => simp at h
  | cons x r =>
    cases r with
    | nil =>
      obtain ⟨a, b⟩ := x
      simp at h
      subst h
      exact ⟨a, rfl⟩
    | cons y r => simp at h
theorem const_row (w : World) (B c : Nat) (hc : c < 256) : RowK B (w.alloc (.cells #[.int .u8 (c : Nat)] 5 (1, 2))) (.slice (some ⟨w.heap.size, 0, none⟩) 1 1) [c] := by
  have hh := heap_alloc_new w (.cells #[.int .u8 (c : Nat)] 5 (1, 2))
  refine ⟨⟨_, _, _, rfl, rfl, Nat.le_refl _, by decide, by simpa using hc, by simp, fun x hx i hi => ?_⟩, fun a l2 c2 e _ => .inr ?_⟩
  · obtain rfl := Option.some.inj hx
    obtain rfl : i = 0 := by simpa using hi
    rw [Addr.add_lit, cell_of_row _ _ _ _ 5 (1, 2) hh]
    simp
  · obtain ⟨⟨rfl, -⟩, -⟩ : ((⟨w.heap.size, 0, none⟩ : Addr) = a ∧ True) ∧ True := by simpa using (Value.slice.inj e).1
    exact ⟨_, _, _, hh, by decide, by decide, by decide, by decide, by decide⟩

set_option maxRecDepth 100000 in
set_option maxHeartbeats 4000000 in
set_option maxRecDepth 100000 in
theorem open_nil (w : World) : Calls Try.prog 25 #[.pointer none] w fun e w' => e = .returned (.tuple #[.pointer none, .int .i64 2]) ∧ w = w' := by
  go_enter Try.func25, Try.ntmps25
  go_wp2_with fail
  exact bodyPost_ret (v := .tuple #[.pointer none, .int .i64 2]) (by simp [results, Try.results25, go_sem]) rfl ⟨rfl, rfl⟩
set_option maxRecDepth 100000 in
theorem append_nil (v : Value) (w : World) : Calls Try.prog 63 #[.pointer none, v] w fun e w' => e = .returned (.int .i64 2) ∧ w = w' := by
  have HN := Lib.hid (none_nil w)
  go_enter Try.func63, Try.ntmps63
  go_wp2_with (go_at_call 60; refine HN.out.mono ?_; rintro e w' ⟨rfl, rfl⟩)
  go_ret
  exact ⟨rfl, rfl⟩
set_option maxRecDepth 100000 in
theorem sync_nil (w : World) : Calls Try.prog 32 #[.pointer none] w fun e w' => e = .returned (.int .i64 2) ∧ w = w' := by
  have HN := Lib.hid (none_nil w)
  go_enter Try.func32, Try.ntmps32
  go_wp2_with (go_at_call 60; refine HN.out.mono ?_; rintro e w' ⟨rfl, rfl⟩)
  go_ret
  exact ⟨rfl, rfl⟩
set_option maxRecDepth 100000 in
theorem cut_nil (n : Int) (w : World) : Calls Try.prog 45 #[.pointer none, .int .u64 n] w fun e w' => e = .returned (.int .i64 2) ∧ w = w' := by
  have HN := Lib.hid (none_nil w)
  go_enter Try.func45, Try.ntmps45
  go_wp2_with (go_at_call 60; refine HN.out.mono ?_; rintro e w' ⟨rfl, rfl⟩)
  go_ret
  exact ⟨rfl, rfl⟩
set_option maxRecDepth 100000 in
theorem records_nil (w : World) : Calls Try.prog 27 #[.pointer none] w fun e w' => e = .returned (.slice none 0 0) ∧ w = w' := by
  go_enter Try.func27, Try.ntmps27
  go_wp2_with fail
  go_ret
  exact ⟨rfl, rfl⟩
end
section
set_option linter.unusedVariables false
open Go.RowKit

theorem Try.info79 : (Try.prog.info? 79).map (fun i => (i.zero, i.size, i.bytes)) = some (some (.agg #[.slice none 0 0, .slice none 0 0]), 2, 48) := by kernel_rfl
structure Pr where
  kv : Value
  vv : Value
  key : List Nat
  val : List Nat
def Pr.cells (x : Pr) : List Value := [x.kv, x.vv]
def prC (L : List Pr) : List Value := L.flatMap Pr.cells
theorem prC_length (L : List Pr) : (prC L).length = L.length * 2 := by
  induction L with
  | nil => rfl
  | cons x r ih =>
    have : prC (x :: r) = x.cells ++ prC r := by simp [prC]
    rw [this, List.length_append, ih]
    simp [Pr.cells]
    omega
theorem prC_append (L M : List Pr) : prC (L ++ M) = prC L ++ prC M := by simp [prC]
theorem prC_get (L : List Pr) (i : Nat) (h : i < L.length) : (prC L)[i * 2]? = some L[i].kv ∧ (prC L)[i * 2 + 1]? = some L[i].vv := by
  induction L generalizing i with
  | nil => simp at h
  | cons x r ih =>
    have e : prC (x :: r) = [x.kv, x.vv] ++ prC r := by simp [prC, Pr.cells]
    cases i with
    | zero => rw [e]; exact ⟨rfl, rfl⟩
    | succ i =>
      have := ih i (by simpa using h)
      rw [e, show (i + 1) * 2 = i * 2 + 1 + 1 by omega]
      simpa using this
/-- the pairs of a table -/
structure PairR (w : World) (B : Nat) (pv : Value) (L : List Pr) : Prop where
  row : w.ownsRow B 79 2 pv L.length (prC L)
  own : ∀ x ∈ L, OwnB w B x.kv x.key ∧ OwnB w B x.vv x.val ∧ (∀ n ∈ x.key, n < 256) ∧ ∀ n ∈ x.val, n < 256
def Pr.of (x : Pr) : List Nat × List Nat := (x.key, x.val)
theorem PairR.pairV {w : World} {B : Nat} {pv : Value} {L : List Pr} (h : PairR w B pv L) : PairV w pv (L.map Pr.of) := by
  have hl : (L.map Pr.of).length = L.length := by simp
  rcases h.row.2 with ⟨e, h1⟩ | ⟨g, cap, cur, e, hb, hh, hc, hmx, hs, ht⟩
  · have h0 : L = [] := List.eq_nil_of_length_eq_zero h1
    subst h0
    exact ⟨none, 0, by rw [e]; rfl, Nat.le_refl _, Nat.zero_le _, .inl rfl⟩
  · refine ⟨_, cap, by rw [e, hl], by rw [hl]; exact hc, hmx, .inr ⟨g, rfl, fun i hi => ?_⟩⟩
    have hi2 : i < L.length := by omega
    obtain ⟨o1, o2, o3, o4⟩ := h.own _ (List.getElem_mem hi2)
    obtain ⟨a1, c1, e1⟩ := o1.shape
    obtain ⟨a2, c2, e2⟩ := o2.shape
    have r1 := o1.rowB o3
    have r2 := o2.rowB o4
    obtain ⟨g1, g2⟩ := prC_get L i hi2
    have hat : ∀ j v, j < L.length * 2 → (prC L)[j]? = some v → w.cell? ⟨g, j, none⟩ = some v := by
      intro j v hj hv
      rw [cell_of_row _ _ _ _ 79 (0, 0) hh]
      have : cur.toList[j]? = some v := by
        rw [← ht, List.getElem?_take_of_lt hj] at hv
        exact hv
      simpa using this
    rw [e1] at r1 g1
    rw [e2] at r2 g2
    exact ⟨a1, _, c1, a2, _, c2, hat _ _ (by omega) g1, hat _ _ (by omega) g2, by simpa [Pr.of] using r1, by simpa [Pr.of] using r2⟩
theorem PairR.mono {w : World} {B C : Nat} {pv : Value} {L : List Pr} (h : PairR w B pv L) (hc : C ≤ B) : PairR w C pv L :=
  ⟨rows_mono h.row hc, fun x hx => ⟨owns_mono (h.own x hx).1 hc, owns_mono (h.own x hx).2.1 hc, (h.own x hx).2.2⟩⟩
theorem ownsRow_lq {w w' : World} {B : Nat} {t : TypeId} {sz : Nat} {v : Value} {n : Nat} {xs : List Value} (h : w.ownsRow B t sz v n xs) (hq : LQ w w') (h1 : t ≠ 62) (h2 : t ≠ 143) (h3 : t ≠ 145) (h4 : t ≠ 91) (h5 : t ≠ 98) : w'.ownsRow B t sz v n xs := by
  refine ⟨h.1, ?_⟩
  rcases h.2 with h6 | ⟨g, cap, cur, rfl, hg, hh, r⟩
  · exact .inl h6
  · exact .inr ⟨g, cap, cur, rfl, hg, hq.keep g _ _ _ hh h1 h2 h3 h4 h5, r⟩
theorem PairR.lq {w w' : World} {B : Nat} {pv : Value} {L : List Pr} (h : PairR w B pv L) (hq : LQ w w') : PairR w' B pv L :=
  ⟨ownsRow_lq h.row hq (by decide) (by decide) (by decide) (by decide) (by decide), fun x hx => ⟨ownsRow_lq (h.own x hx).1 hq (by decide) (by decide) (by decide) (by decide) (by decide), ownsRow_lq (h.own x hx).2.1 hq (by decide) (by decide) (by decide) (by decide) (by decide), (h.own x hx).2.2⟩⟩
theorem Below.lq {w w' : World} (h : Below w.heap.size w w') : LQ w w' := (Below.qb h).lq (Nat.le_refl _)

set_option maxRecDepth 100000 in
set_option maxHeartbeats 4000000 in
theorem ins_end {w : World} {B : Nat} {pv : Value} {L : List Pr} (h : w.ownsRow B 79 2 pv L.length (prC L)) (hB : B ≤ w.heap.size) (hL : L.length ≤ 100000) {g : Nat} {kv vv : Value} (hg : w.heap[g]? = some (.cells #[kv, vv] 79 (0, 0))) (h1 : kv.oneCell' = true) (h2 : vv.oneCell' = true) :
    Calls Try.prog 59 #[pv, .int .i64 (L.length : Nat), .slice (some ⟨g, 0, none⟩) 1 1] w fun e w' => ∃ a c, e = .returned (.slice a (L.length + 1) c) ∧ w'.ownsRow B 79 2 (.slice a (L.length + 1) c) (L.length + 1) (prC L ++ [kv, vv]) ∧ w.grownBy w' pv.ownBlock := by
  obtain ⟨i0, hi, hz0, hz1, hz2⟩ := info_parts Try.info79
  have HI := Lib.hid hi
  obtain ⟨pa, pc, rfl⟩ := own_shape h
  have hcap : L.length ≤ pc := by
    rcases h.2 with ⟨e, h1⟩ | ⟨g, cap, cur, e, hb, hh, hc, hmx, hs, ht⟩
    · omega
    · obtain ⟨-, -, rfl⟩ := Value.slice.inj e
      exact hc
  have HR := Lib.hid h
  have HG := Lib.hid hg
  have hnl : (L.length : Int) ≤ (pc : Int) := by omega
  clear h hg hi
  obtain ⟨xs, hxs⟩ : ∃ xs, prC L = xs := ⟨_, rfl⟩
  rw [hxs] at HR
  rw [hxs]
  clear hxs
  generalize L.length = n at *
  go_enter Try.func59, Try.ntmps59
  go_upto_region 2 with (fail)
  generalize (if pc = n then pa else Option.map (fun x => x.add (n * 2)) pa) = pz
  generalize pc - n = zc
  go_wp2_with (at_builtin; go_loud (refine wpList_append_own _ rfl (.tmp 23) (.tmp 24) 66 rfl B 79 i0 _ 2 48 Try.underlying66 HI.out hz0 hz1 hz2 rfl (by decide) (.slice pa n pc) n xs rfl HR.out ⟨g, 0, none⟩ 1 1 [kv, vv] rfl rfl (World.news_of_block (cs := #[kv, vv]) (t := 79) (fr := (0, 0)) HG.out) (by intro u hu; simp at hu; rcases hu with rfl | rfl <;> assumption) (by unfold maxLen; omega) (by omega) hB ?_))
  intro o w6 ho hgr _
  obtain ⟨oa, oc, rfl⟩ := own_shape ho
  have HO := Lib.hid ho
  have HGR := Lib.hid hgr
  clear ho hgr
  go_wp2_with fail
  go_ret
  exact ⟨oa, oc, rfl, HO.out, HGR.out⟩
end
end Go.Proofs.Ytmnbkhgogogeiaa
