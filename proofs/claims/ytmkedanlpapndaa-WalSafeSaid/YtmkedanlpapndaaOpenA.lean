/-
  Open, of any disk that is up.
-/
import Derived.Test.YtmkedanlpapndaaFolW
import Derived.Test.YtmkedanlpapndaaNewA
import Derived.Test.YtmkedanlpapndaaOpen
namespace Go.Proofs.Ytmkedanlpapndaa
set_option linter.unusedVariables false
open Go.RowKit

/-- what Open begins with: the newest head -/
def op0 (r : Nat) (S : List (List Nat)) (W : List (Nat × List Nat)) : LgS :=
  ⟨r, (bestN (shown S W) 2).version, (bestN (shown S W) 2).first, (bestN (shown S W) 2).place, (bestN (shown S W) 2).behind, [], (bestN (shown S W) 2).place % r, 0, (bestN (shown S W) 2).behind, 0⟩
def ringL (S : List (List Nat)) (W : List (Nat × List Nat)) : Nat → List Nat := fun i => shown S W (2 + i)
/-- what Open makes of a disk -/
def opS (r : Nat) (S : List (List Nat)) (W : List (Nat × List Nat)) : LgS :=
  { folS (ringL S W) (r + 1) (op0 r S W) with number := max (maxN (ringL S W) r) (bestN (shown S W) 2).behind + 1 }
theorem folS_head (L : Nat → List Nat) : ∀ k s, (folS L k s).ring = s.ring ∧ (folS L k s).version = s.version ∧ (folS L k s).first = s.first ∧ (folS L k s).hplace = s.hplace ∧ (folS L k s).hbehind = s.hbehind ∧ (folS L k s).number = s.number := by
  intro k
  induction k with
  | zero => intro s; exact ⟨rfl, rfl, rfl, rfl, rfl, rfl⟩
  | succ k ih =>
    intro s
    rw [folS]
    split
    · exact ⟨rfl, rfl, rfl, rfl, rfl, rfl⟩
    · rename_i c n data _
      exact ih { s with ents := s.ents ++ [⟨s.place, s.last, c, data⟩], place := (s.place + c) % s.ring, used := s.used + c, last := n }
theorem sec_of {w : World} {B n : Nat} {o : Value} {M : List (Value × List Nat)} {S : List (List Nat)} {W : List (Nat × List Nat)} (h : Rows2 w B o M) (hmm : M.map (·.2) = (List.range n).map (shown S W)) (hg : Good S W) (hn : S.length = n) (h0 : 0 < n) :
    ∃ g cap, o = .slice (some ⟨g, 0, none⟩) n cap ∧ B ≤ g ∧ n ≤ cap ∧ cap ≤ maxLen ∧ ∀ i, i < n → ∃ a c, w.cell? ⟨g, i, none⟩ = some (.slice a 64 c) ∧ RowB w (.slice a 64 c) (shown S W i) ∧ (shown S W i).length = 64 := by
  have hML : M.length = n := by have h1 := congrArg List.length hmm; simpa using h1
  subst hML
  rcases h.row.2 with ⟨e, h1⟩ | ⟨g, cap, cur, rfl, hb, hh, hc, hmx, hs, ht⟩
  · omega
  · refine ⟨g, cap, rfl, hb, hc, hmx, fun i hi => ?_⟩
    have ho := h.own _ (List.getElem_mem hi)
    have e1 : M[i].2 = shown S W i := by
      have h1 : (M.map (·.2))[i]? = some (shown S W i) := by rw [hmm]; simp [hi]
      rw [List.getElem?_map, List.getElem?_eq_getElem hi] at h1
      simpa using h1
    have e2 : (shown S W i).length = 64 := shown_64 hg (by omega)
    rw [e1] at ho
    obtain ⟨a, c, e⟩ := ho.shape
    rw [e2] at e
    rw [e] at ho
    refine ⟨a, c, ?_, ho.rowB (shown_256 hg (by omega)), e2⟩
    rw [cell_of_row _ _ _ _ 34 (0, 0) hh]
    have h3 : (M.map (·.1))[i]? = some (.slice a 64 c) := by rw [List.getElem?_map, List.getElem?_eq_getElem hi]; simp [e]
    rw [← ht, List.getElem?_take_of_lt (by omega)] at h3
    simpa using h3
theorem EntR.mono {w : World} {B C : Nat} {ev : Value} {L : List (Ent × Value)} (h : EntR w B ev L) (hc : C ≤ B) : EntR w C ev L := ⟨rows_mono h.row hc, fun x hx => owns_mono (h.own x hx) hc⟩
theorem LgV.set2 {w : World} {pl : Nat} {d ev : Value} {s : LgS} {down : Bool} (h : LgV w pl d ev s down) (n : Nat) : LgV (w.setCell ⟨pl, 2, none⟩ (.int .u64 (n : Nat))) pl d ev { s with version := n } down := by
  unfold LgV at h ⊢
  rw [heap_setCell_same w pl 2 _ 72 _ h]
  rfl
theorem LgV.set3 {w : World} {pl : Nat} {d ev : Value} {s : LgS} {down : Bool} (h : LgV w pl d ev s down) (n : Nat) : LgV (w.setCell ⟨pl, 3, none⟩ (.int .u64 (n : Nat))) pl d ev { s with first := n } down := by
  unfold LgV at h ⊢
  rw [heap_setCell_same w pl 3 _ 72 _ h]
  rfl
theorem LgV.set4 {w : World} {pl : Nat} {d ev : Value} {s : LgS} {down : Bool} (h : LgV w pl d ev s down) (n : Nat) : LgV (w.setCell ⟨pl, 4, none⟩ (.int .u64 (n : Nat))) pl d ev { s with hplace := n } down := by
  unfold LgV at h ⊢
  rw [heap_setCell_same w pl 4 _ 72 _ h]
  rfl
theorem LgV.set5 {w : World} {pl : Nat} {d ev : Value} {s : LgS} {down : Bool} (h : LgV w pl d ev s down) (n : Nat) : LgV (w.setCell ⟨pl, 5, none⟩ (.int .u64 (n : Nat))) pl d ev { s with hbehind := n } down := by
  unfold LgV at h ⊢
  rw [heap_setCell_same w pl 5 _ 72 _ h]
  rfl

set_option maxRecDepth 100000 in
set_option maxHeartbeats 4000000 in
theorem open_any {B : Nat} {w0 w : World} {pd n : Nat} {kv : Value} {S : List (List Nat)} {W : List (Nat × List Nat)} (h : Held B w0 w pd kv S W 0 false) (hS : S.length = n) (hn : 3 ≤ n) (hn2 : n ≤ 65536)
    (hN : max (maxN (ringL S W) (n - 2)) (bestN (shown S W) 2).behind + 1 < 18446744073709551616) :
    Calls Try.prog 15 #[.pointer (some ⟨pd, 0, none⟩)] w fun e w' => ∃ pl, e = .returned (.tuple #[.pointer (some ⟨pl, 0, none⟩), .int .i64 0]) ∧ Lg B w0 w' pl pd kv (opS (n - 2) S W) S W ∧ w.heap.size ≤ pl ∧ Below w.heap.size w w' := by
  have HH := Lib.hid h
  have hgood : Good S W := by obtain ⟨wv, mv, hdk, _⟩ := h.dk; exact hdk.good
  have HG := Lib.hid hgood
  have HSL := Lib.hid hS
  have HSZ : Hid (Calls Try.prog 32 #[.pointer (some ⟨pd, 0, none⟩)] w fun e w' => e = .returned (.int .i64 (n : Nat)) ∧ w = w') := Lib.hid (by
    obtain ⟨wv, mv, hdk, _⟩ := h.dk
    have := size_ok hdk
    rwa [hS] at this)
  have HDN : Hid (Calls Try.prog 9 #[.pointer (some ⟨pd, 0, none⟩)] w fun e w' => e = .returned (.bool false) ∧ w = w') := Lib.hid (by
    obtain ⟨wv, mv, hdk, _⟩ := h.dk
    exact down_ok hdk)
  obtain ⟨r, hr⟩ : ∃ r, n - 2 = r := ⟨_, rfl⟩
  have hr1 : (n : Int) - 2 = (r : Int) := by omega
  have hr2 : max 0 (r : Int) = (r : Int) := by omega
  have hr3 : ((r : Int) == 0) = false := by simp; omega
  have HR := Lib.hid hr
  have HRN : Hid (0 < r ∧ r ≤ 65534) := Lib.hid (by omega)
  rw [hr]
  rw [hr] at hN
  obtain ⟨bh, hbh⟩ : ∃ x, bestN (shown S W) 2 = x := ⟨_, rfl⟩
  have HBH := Lib.hid hbh
  have HO0 : Hid (op0 r S W = ⟨r, bh.version, bh.first, bh.place, bh.behind, [], bh.place % r, 0, bh.behind, 0⟩) := Lib.hid (by unfold op0; rw [hbh])
  have HOS : Hid (opS r S W = { folS (ringL S W) (r + 1) (op0 r S W) with number := max (maxN (ringL S W) r) bh.behind + 1 }) := Lib.hid (by unfold opS; rw [hbh])
  rw [hbh] at hN
  obtain ⟨bver, bfst, bpl, bbe⟩ := bh
  simp only at HO0 HOS hN
  have HN := Lib.hid hN
  obtain ⟨X, hX, hXl, hbX⟩ : ∃ X, X = w.alloc (.cells #[.pointer (some ⟨pd, 0, none⟩), .int .i64 (r : Nat), .int .u64 0, .int .u64 0, .int .u64 0, .int .u64 0, .slice none 0 0, .int .i64 0, .int .i64 0, .int .u64 0, .int .u64 0, .bool false] 72) ∧ LgV X w.heap.size (.pointer (some ⟨pd, 0, none⟩)) (.slice none 0 0) (frS r 0) false ∧ Below w.heap.size w X :=
    ⟨_, rfl, heap_alloc_new w _, (Below.refl _ _).alloc (Nat.le_refl _) _⟩
  have HLX := Lib.hid hXl
  have HBX := Lib.hid hbX
  have HRA := Lib.hid (readAll_any (h.below' hbX))
  clear h hr hXl hbX hS hN hbh hgood
  go_enter Try.func15, Try.ntmps15
  go_upto_region 6 with (first
    | (go_at_call 9; refine HDN.out.mono ?_; rintro e w' ⟨rfl, rfl⟩)
    | (go_at_call 32; refine HSZ.out.mono ?_; rintro e w' ⟨rfl, rfl⟩))
  rw [← hX]
  clear hX
  generalize hpl : w.heap.size = pl at *
  have HPL := Lib.hid hpl
  clear hpl
  go_wp2_with fail
  refine HRA.out.mono ?_
  rintro e w2 ⟨o, M, rfl, hm, hmm, hb2⟩
  rw [HSL.out] at hmm
  obtain ⟨g, gc, rfl, hgB, hgc, hgm, hsec⟩ := sec_of hm hmm HG.out HSL.out (by omega)
  have HGB := Lib.hid hgB
  have HSE := Lib.hid hsec
  have hl2 := HLX.out.qb (Below.qb hb2) (Nat.le_refl _)
  have HL2 := Lib.hid hl2
  have HB2 : Hid (Below pl w w2) := Lib.hid (HBX.out.trans (hb2.mono (by have h1 := HBX.out.size; rw [HPL.out] at h1; exact h1)))
  obtain ⟨-, d1, -, -, -, -, -, -, -, -, -, -⟩ := hl2.cells
  simp only [frS] at d1
  have hgn : (2 : Int) ≤ (gc : Int) := by omega
  clear hm hmm hb2 hsec hl2 hgB
  have HNW := Lib.hid (newest_any (w := w2) (v := .slice (some ⟨g, 0, none⟩) 2 gc) (n := 2) (L := shown S W) ⟨g, 0, gc, rfl, by omega, hgm, fun i hi => by
    obtain ⟨a, c, h1, h2⟩ := HSE.out i (by omega)
    exact ⟨a, c, by rw [Nat.zero_add]; exact h1, h2⟩⟩ (by decide))
  rw [HBH.out] at HNW
  simp only [HdN.row] at HNW
  go_wp2_with fail
  refine HNW.out.mono ?_
  rintro e w3 ⟨rfl, hb3⟩
  have hl3 := HL2.out.qb (Below.qb hb3) (Nat.le_refl _)
  have HL3 := Lib.hid hl3
  have HB23 := Lib.hid hb3
  have HB3 : Hid (Below pl w w3) := Lib.hid (HB2.out.trans (hb3.mono (by have h1 := HB2.out.size; rw [HPL.out] at h1; exact h1)))
  obtain ⟨-, j1, j2, j3, j4, j5, -, j7, -, j9, -, -⟩ := hl3.cells
  simp only [frS] at j1 j2 j3 j4 j5 j7 j9
  have f2 := hl3.free 2
  have f3 := hl3.free 3
  have f4 := hl3.free 4
  have f5 := hl3.free 5
  have f7 := hl3.free 7
  have f9 := hl3.free 9
  clear hb3 hl3 HNW d1
  go_upto_region 13 with (fail)
  have HLK : Hid (LgV (((((w3.setCell ⟨pl, 2, none⟩ (.int .u64 (bver : Nat))).setCell ⟨pl, 3, none⟩ (.int .u64 (bfst : Nat))).setCell ⟨pl, 4, none⟩ (.int .u64 (bpl : Nat))).setCell ⟨pl, 5, none⟩ (.int .u64 (bbe : Nat))).setCell ⟨pl, 9, none⟩ (.int .u64 (bbe : Nat))) pl (.pointer (some ⟨pd, 0, none⟩)) (.slice none 0 0) ⟨r, bver, bfst, bpl, bbe, [], 0, 0, bbe, 0⟩ false) := Lib.hid (((((HL3.out.set2 bver).set3 bfst).set4 bpl).set5 bbe).set9 bbe)
  have HBK : Hid (Beside (fun k => k = pl) w3 (((((w3.setCell ⟨pl, 2, none⟩ (.int .u64 (bver : Nat))).setCell ⟨pl, 3, none⟩ (.int .u64 (bfst : Nat))).setCell ⟨pl, 4, none⟩ (.int .u64 (bpl : Nat))).setCell ⟨pl, 5, none⟩ (.int .u64 (bbe : Nat))).setCell ⟨pl, 9, none⟩ (.int .u64 (bbe : Nat)))) := Lib.hid ((((((Beside.refl (fun k => k = pl) w3).setCell (p := ⟨pl, 2, none⟩) (.inl rfl) _).setCell (p := ⟨pl, 3, none⟩) (.inl rfl) _).setCell (p := ⟨pl, 4, none⟩) (.inl rfl) _).setCell (p := ⟨pl, 5, none⟩) (.inl rfl) _).setCell (p := ⟨pl, 9, none⟩) (.inl rfl) _)
  clear j1 j2 j3 j4 j5 j7 j9 f2 f3 f4 f5 f7 f9
  generalize ((((w3.setCell ⟨pl, 2, none⟩ (.int .u64 (bver : Nat))).setCell ⟨pl, 3, none⟩ (.int .u64 (bfst : Nat))).setCell ⟨pl, 4, none⟩ (.int .u64 (bpl : Nat))).setCell ⟨pl, 5, none⟩ (.int .u64 (bbe : Nat))).setCell ⟨pl, 9, none⟩ (.int .u64 (bbe : Nat)) = wk at *
  obtain ⟨-, j1, j2, j3, j4, j5, -, j7, -, j9, -, -⟩ := HLK.out.cells
  simp only at j1 j2 j3 j4 j5 j7 j9
  have f7 := HLK.out.free 7
  obtain ⟨m, hm⟩ : ∃ m, bpl % r = m := ⟨_, rfl⟩
  have hz1 : (bpl : Int).tmod (r : Int) = (m : Int) := by
    rw [Int.tmod_eq_emod_of_nonneg (by omega), ← hm]
    exact (Int.natCast_emod _ _).symm
  have hz2 : ¬ r = 0 := Nat.pos_iff_ne_zero.1 HRN.out.1
  have hz3 : IntKind.u64.wrap (r : Int) = (r : Int) := wraps_u64 _ (Int.natCast_nonneg _) (by have := HRN.out.2; omega)
  have HM : Hid (bpl % r = m ∧ m ≤ 65536) := Lib.hid ⟨hm, by have := Nat.mod_lt bpl HRN.out.1; have := HRN.out.2; omega⟩
  have hz5 : wrap64 (m : Int) = (m : Int) := by have := HM.out.2; unfold wrap64; omega
  have hz6 : IntKind.i64.wrap (m : Int) = (m : Int) := wrap_small _ (by omega) (by have := HM.out.2; omega)
  clear hm
  go_wp2_with go_region
  have HLS : Hid (LgV (wk.setCell ⟨pl, 7, none⟩ (.int .i64 (m : Nat))).drew pl (.pointer (some ⟨pd, 0, none⟩)) (.slice none 0 0) (op0 r S W) false) := Lib.hid (by rw [HO0.out, HM.out.1]; exact HLK.out.set7 m)
  have HBS : Hid (Beside (fun k => k = pl) w3 (wk.setCell ⟨pl, 7, none⟩ (.int .i64 (m : Nat))).drew) := Lib.hid (HBK.out.setCell (p := ⟨pl, 7, none⟩) (.inl rfl) _).drew
  clear HLK HBK j1 j2 j3 j4 j5 j7 j9 f7 hz1 hz5 hz6
  generalize (wk.setCell ⟨pl, 7, none⟩ (.int .i64 (m : Nat))).drew = w7 at *
  have hgp : g ≠ pl := fun e => by
    have h1 := lt_of_block HLX.out
    have h2 := HGB.out
    omega
  have hne : (Value.slice (some ⟨g, 2, none⟩) (n - 2) (gc - 2)).ownBlock ≠ some pl := fun e => hgp (by simpa [Value.ownBlock] using e)
  have HS3 : Hid (SecL w3 (.slice (some ⟨g, 2, none⟩) (n - 2) (gc - 2)) (n - 2) (ringL S W)) := Lib.hid (SecL.below (w := w2) ⟨g, 2, gc - 2, rfl, by omega, by omega, fun i hi => HSE.out (2 + i) (by omega)⟩ HB23.out)
  have HS7 := Lib.hid (HS3.out.but HL3.out HBS.out hne)
  have hring : (op0 r S W).ring = r := rfl
  have HFO := Lib.hid (follow_any (v := .slice (some ⟨g, 2, none⟩) (n - 2) (gc - 2)) (L := ringL S W) HLS.out rfl (by rw [HO0.out]; show bpl % r ≤ _; rw [HM.out.1]; exact HM.out.2) rfl (by rw [hring]; exact HRN.out.1) (by rw [hring]; have := HRN.out.2; omega) (by rw [hring, ← HR.out]; exact HS7.out) hne)
  rw [hring] at HFO
  have HNE := Lib.hid hne
  clear hgp hne hring
  refine HFO.out.mono ?_
  rintro e w8 ⟨rfl, hb8, ev8, L8, hl8, he8, hle8⟩
  have HB8 := Lib.hid hb8
  have HL8 := Lib.hid hl8
  have HE8 := Lib.hid (And.intro he8 hle8)
  have HS8 := Lib.hid (HS7.out.but HLS.out hb8 HNE.out)
  have hfh := folS_head (ringL S W) (r + 1) (op0 r S W)
  rw [HO0.out] at hfh
  simp only at hfh
  have HFH := Lib.hid hfh
  have HKE : Hid (∀ W2, Below w8.heap.size w8 W2 → W2.cell? ⟨pl, 5, none⟩ = some (.int .u64 (bbe : Nat)) ∧ (∃ u, W2.cell? ⟨pl, 10, none⟩ = some u) ∧ W2.frozen? ⟨pl, 10, none⟩ = false) := Lib.hid fun W2 h2 => by
    have h3 := HL8.out.qb (Below.qb h2) (Nat.le_refl _)
    refine ⟨?_, ⟨_, h3.cells.2.2.2.2.2.2.2.2.2.2.1⟩, h3.free 10⟩
    have := h3.cells.2.2.2.2.2.1
    rw [HO0.out, HFH.out.2.2.2.2.1] at this
    exact this
  have hD4 : Below w8.heap.size w8 w8.drew := (Below.refl _ _).drew
  obtain ⟨i5, ⟨u10, i10⟩, if10⟩ := HKE.out _ hD4
  have HD4 := Lib.hid hD4
  have hgc2 : ¬ gc = 2 := by omega
  have hgz1 : (2 : Int) ≤ (n : Int) := by omega
  have hgz2 : (n : Int) ≤ (gc : Int) := by omega
  have HGR := Lib.hid (greatest_any (w := w8.drew) (HS8.out.below hD4) (by omega))
  obtain ⟨mx, hmx⟩ : ∃ x, maxN (ringL S W) (n - 2) = x := ⟨_, rfl⟩
  rw [hmx] at HGR
  have HMX : Hid (maxN (ringL S W) r = mx) := Lib.hid (by rw [← HR.out]; exact hmx)
  obtain ⟨nn, hnn⟩ : ∃ x, max mx bbe = x := ⟨_, rfl⟩
  have hnz : max (mx : Int) (bbe : Int) = (nn : Int) := by omega
  have hnb : (nn : Int) + 1 < 18446744073709551616 := by have := HN.out; rw [HMX.out] at this; omega
  have hnw : IntKind.u64.wrap ((nn : Int) + 1) = (nn : Int) + 1 := wraps_u64 _ (by omega) hnb
  have HNN := Lib.hid hnn
  clear hb8 hl8 he8 hle8 hfh hD4 hmx hnn
  go_wp2_with fail
  go_cut [] (fun wx => ∃ w5, Below w8.heap.size w8 w5 ∧ wx = w5.setCell ⟨pl, 10, none⟩ (.int .u64 ((nn : Int) + 1)))
  case first =>
    go_region_law (first
      | (go_simp; go_at_call 36; refine HGR.out.mono ?_; rintro e w5 ⟨rfl, hb5⟩
         have HB5 := Lib.hid (HD4.out.trans hb5)
         obtain ⟨u5, ⟨u10, u10e⟩, uf10⟩ := HKE.out _ HB5.out
         clear hb5))
    all_goals
      go_wp2_with fail
      go_meet
      exact ⟨w5, HB5.out, rfl⟩
  case rest =>
    obtain ⟨w5, hb5, hwx⟩ := hcut
    subst hwx
    have HB5 := Lib.hid hb5
    clear hb5
    go_wp2_with fail
    refine bodyPost_ret (v := .tuple #[.pointer (some ⟨pl, 0, none⟩), .int .i64 0]) (by simp [results, Try.results15, go_sem]) rfl ?_
    have hpl := HPL.out
    have e1 : ((nn : Int) + 1) = ((nn + 1 : Nat) : Int) := rfl
    have hps3 : pl ≤ w3.heap.size := Nat.le_of_lt (lt_of_block HL3.out)
    have hw7 : Below pl w w7 := HB3.out.trans (HBS.out.below (fun k hk => by rw [hk]; exact Nat.le_refl _) hps3)
    have hps7 : pl ≤ w7.heap.size := Nat.le_trans hps3 HBS.out.size
    have hw8 : Below pl w w8 := hw7.trans (HB8.out.below (fun k hk => by rw [hk]; exact Nat.le_refl _) hps7)
    have hps8 : pl ≤ w8.heap.size := Nat.le_trans hps7 HB8.out.size
    have hw5 : Below pl w w5 := hw8.trans (HB5.out.mono hps8)
    have hbs : Beside (fun k => k = pl) w5 (w5.setCell ⟨pl, 10, none⟩ (.int .u64 ((nn : Int) + 1))) := (Beside.refl (fun k => k = pl) w5).setCell (p := ⟨pl, 10, none⟩) (.inl rfl) _
    have hwf : Below pl w (w5.setCell ⟨pl, 10, none⟩ (.int .u64 ((nn : Int) + 1))) := hw5.trans (hbs.below (fun k hk => by rw [hk]; exact Nat.le_refl _) (Nat.le_trans hps8 HB5.out.size))
    have hBp : B ≤ pl := by rw [← hpl]; exact Nat.le_trans HH.out.base HH.out.below.size
    have hl5 := HL8.out.qb (Below.qb HB5.out) (Nat.le_refl _)
    have he5 := (HE8.out.1.qb (Below.qb HB5.out) (Nat.le_refl _)).mono (Nat.le_trans hBp hps7)
    have hop : opS r S W = { folS (ringL S W) (r + 1) (op0 r S W) with number := nn + 1 } := by rw [HOS.out, HMX.out, HNN.out]
    refine ⟨pl, rfl, ⟨HH.out.below' (by rw [hpl]; exact hwf), ⟨ev8, L8, ?_, he5.set hl5 10 _, ?_⟩, hBp⟩, by rw [hpl]; exact Nat.le_refl _, by rw [hpl]; exact hwf⟩
    · rw [hop, e1]
      exact hl5.set10 (nn + 1)
    · rw [hop]
      exact HE8.out.2
end Go.Proofs.Ytmkedanlpapndaa
