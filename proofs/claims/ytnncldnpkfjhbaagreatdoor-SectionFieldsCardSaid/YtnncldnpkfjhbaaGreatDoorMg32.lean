/-
  Several texts of one proof, each in a section of its own: RefF, FsW, SecO3.
-/
import Derived.Test.YtnncldnpkfjhbaaGreatDoorRefEMg
import Derived.Test.YtnncldnpkfjhbaaGreatDoorMg27
import Derived.Test.YtnncldnpkfjhbaaGreatDoorMg25
namespace Go.Proofs.YtnncldnpkfjhbaaGreatDoor
section
set_option linter.unusedVariables false
open Go.RowKit Go.Lib
attribute [local go_sem] Oper.semAt_some

theorem OwnQ.cells {w : World} {B : Nat} {a : Option Addr} {n c : Nat} {ps : List FR} (h : OwnQ w B (.slice a n c) ps) : ∃ g, ∀ i (hi : i < ps.length), a = some ⟨g, 0, none⟩ ∧ g < w.heap.size ∧ w.cell? ⟨g, i * 3, none⟩ = some (.string ps[i].1.nm) ∧ w.cell? ⟨g, i * 3 + 1, none⟩ = some (.string (strT ps[i].1.T)) ∧ w.cell? ⟨g, i * 3 + 2, none⟩ = some ps[i].2 := by
  have h0 := h.row
  rcases h.row.2 with ⟨hv, hz⟩ | ⟨g, cp, cur, hv, hb, hh, h1, h2, h3, h4⟩
  · exact ⟨0, fun i hi => by omega⟩
  · simp only [Value.slice.injEq] at hv
    obtain ⟨rfl, -, rfl⟩ := hv
    refine ⟨g, fun i hi => ⟨rfl, (Array.getElem?_eq_some_iff.1 hh).1, ?_⟩⟩
    have hc : ∀ j, j < ps.length * 3 → w.cell? ⟨g, j, none⟩ = (frsV ps)[j]? := fun j hj => by
      rw [cell_of_row w g j cur 54 _ hh]
      have : (cur.toList.take (ps.length * 3))[j]? = (frsV ps)[j]? := by rw [h4]
      rw [List.getElem?_take_of_lt hj] at this
      simpa using this
    obtain ⟨e1, e2, e3⟩ := frsV_get ps i hi
    exact ⟨by rw [hc _ (by omega), e1], by rw [hc _ (by omega), e2], by rw [hc _ (by omega), e3]⟩

set_option maxRecDepth 100000 in
set_option maxHeartbeats 4000000 in
theorem rFields_any (a : Option Addr) (lb lo cap : Nat) (l : List Nat) (w : World) (ha : l ≠ [] → a = some ⟨lb, lo, none⟩) (hlb : l ≠ [] → lb < w.heap.size) (hc : CellsL w lb lo l) (hlc : l.length ≤ cap) (hm : cap ≤ maxLen) (hl : l.length ≤ 100000) (hlt : ∀ c ∈ l, c < 256) :
    Calls Tryz.prog 12 #[.slice a l.length cap] w (FieldsOut w.heap.size l w) := by
  obtain ⟨i0, hi0, hz0, hz1, hz2⟩ := info_parts info28
  have HI := Lib.hid hi0
  have HLN := Lib.hid (fieldsS_len l)
  have HLE := Lib.hid (fieldsS_le hl)
  have HC := Lib.hid (rfields_any a lb lo cap l w ha hlb hc hlc hm hl hlt)
  clear ha hlb hc hlc hm hlt hi0
  go_enter Tryz.func12, Tryz.ntmps12
  go_wp2_with fail
  refine HC.out.mono ?_
  rintro e w1 ⟨vf, ps, rfl, hq, hmap, hb1⟩
  obtain ⟨fa, fc, rfl⟩ := hq.shape
  obtain ⟨g, hcl⟩ := hq.cells
  have hpl : ps.length = (fieldsS l).length := by rw [← hmap, List.length_map]
  have hpf : ∀ i (h : i < ps.length) (h2 : i < (fieldsS l).length), ps[i].1 = (fieldsS l)[i] := fun i h h2 => by
    have : (ps.map (·.1))[i]'(by simpa using h) = ps[i].1 := by simp
    rw [← this]
    simp only [hmap]
  obtain ⟨n, hn⟩ : ∃ n, w.heap.size = n := ⟨_, rfl⟩
  obtain ⟨M, hM⟩ : ∃ M, w1.heap.size = M := ⟨_, rfl⟩
  have hnM : n ≤ M := by rw [← hn, ← hM]; exact hb1.size
  rw [hn] at hb1
  rw [hM] at hcl
  have HCL := Lib.hid hcl
  have HPF := Lib.hid hpf
  have HPL := Lib.hid hpl
  have HB1 := Lib.hid hb1
  have HM := Lib.hid hM
  have HN := Lib.hid hn
  clear hq hcl hmap hpl hpf hb1 hM hn HC
  go_wp2_with fail
  go_loopw [3, 5] (fun out i wr => ∃ (k : Nat) (oa : Option Addr) (oc : Nat), k ≤ ps.length ∧ i = .int .i64 k ∧ out = .slice oa k oc ∧ OwnT wr M out (((fieldsS l).take k).map tkOf) ∧ Below n w wr ∧ Below M w1 wr) (fun _ i _ => ps.length - (RowKit.intOf i).toNat)
  case atStart => exact ⟨0, none, 0, Nat.zero_le _, rfl, rfl, World.ownsRow_nil _ _ _ _, HB1.out, Below.refl _ _⟩
  case round =>
    obtain ⟨k, oa, oc, hk, rfl, rfl, hown, hbel, hkc⟩ := hrel
    by_cases hkl : k < ps.length
    · have hkf : k < (fieldsS l).length := by rw [← HPL.out]; exact hkl
      obtain ⟨rfl, hgM, hc1, hc2, -⟩ := HCL.out k hkl
      rw [HPF.out k hkl hkf] at hc1 hc2
      have kc1 := (hkc.cell (p := ⟨g, k * 3, none⟩) hgM).trans hc1
      have kc2 := (hkc.cell (p := ⟨g, k * 3 + 1, none⟩) hgM).trans hc2
      have hle := (HLE.out _ (List.getElem_mem hkf)).1
      have hsn := toldS_snoc l k hkf
      have hlnk : (((fieldsS l).take k).map tkOf).length = k := by simp; omega
      have hkn : k + 1 ≤ 100000 := by have := HLN.out; omega
      have hki : (k : Int) < (ps.length : Int) := by omega
      obtain ⟨⟨nm, T, R⟩, hf⟩ : ∃ f, (fieldsS l)[k] = f := ⟨_, rfl⟩
      rw [hf] at kc1 kc2 hle hsn
      have HSN := Lib.hid hsn
      obtain ⟨pre, hpre⟩ : ∃ pre, ((fieldsS l).take k).map tkOf = pre := ⟨_, rfl⟩
      rw [hpre] at hown hlnk
      have HPRE := Lib.hid hpre
      have hMw : M ≤ wr.heap.size := by have := hkc.size; have := HM.out; omega
      have HTR : Hid (∀ W, Calls Tryz.prog 22 #[.string (strT T)] W fun e w' => e = .returned (.string (cutT T)) ∧ W = w') := Lib.hid (fun W => rtrim_any (strT T) W (by rw [strT_size]; simp only at hle; omega))
      have HOWN := Lib.hid hown
      have HBEL := Lib.hid hbel
      have HKC := Lib.hid hkc
      have HLK := Lib.hid hlnk
      simp only at kc1 kc2
      clear hsn hf hpre hown hbel hkc hle hlnk hkf hc1 hc2
      go_wp2_with fail
      go_region_held3 (fun w' => w'.cell? ⟨g, k * 3, none⟩ = some (.string nm) ∧ w'.cell? ⟨g, k * 3 + 1, none⟩ = some (.string (strT T)))
        (first | with_reducible exact kb | with_reducible exact ⟨kc1, kc2⟩ | go_keep)
        (first
          | (go_at_call 22; refine (HTR.out _).mono ?_; rintro e w2 ⟨rfl, rfl⟩)
          | (refine step_append_lies _ (by rfl) _ _ _ (by rfl) M 57 i0 _ 2 32 Tryz.underlying41 HI.out hz0 hz1 hz2 rfl (by decide) (.slice oa k oc) k (tksV pre) (by rfl) (World.ownsRow.alloc (show wr.drew.ownsRow M 57 2 (.slice oa k oc) k (tksV pre) from by have h := HOWN.out; unfold OwnT at h; rw [HLK.out] at h; exact h) _) ⟨wr.drew.heap.size, 0, none⟩ 1 1 [.string nm, .string (cutT T)] (by rfl) (by rfl) (World.news_of_block (cs := #[.string nm, .string (cutT T)]) (t := 57) (fr := (0, 0)) (heap_alloc_new wr.drew _)) (by simp [Value.oneCell']) (by omega) (by unfold maxLen; omega) (by omega) (by simp; omega) (wr.drew.heap.size + 1) (by simp) ?_; intro gg cap w4 hown4 hgrow hat hlt; have kb : w4.cell? ⟨g, k * 3, none⟩ = some (.string nm) ∧ w4.cell? ⟨g, k * 3 + 1, none⟩ = some (.string (strT T)) := (by have hbb : Below M wr w4 := ((Below.refl M wr).drew.alloc hMw _).grown hgrow (by simp; omega) (fun j e => OwnT.ownLe HOWN.out j e); exact ⟨(hbb.cell (p := ⟨g, k * 3, none⟩) hgM).trans kc1, (hbb.cell (p := ⟨g, k * 3 + 1, none⟩) hgM).trans kc2⟩); have HO4 := Lib.hid hown4; have HG4 := Lib.hid hgrow; clear hown4 hgrow hat hlt))
      have HB4 : Hid (Below n w w4) := Lib.hid ((HBEL.out.drew.alloc (by show n ≤ wr.heap.size; omega) _).grown HG4.out (by simp; omega) (fun j e => by have := OwnT.ownLe HOWN.out j e; omega))
      have HK4 : Hid (Below M w1 w4) := Lib.hid ((HKC.out.drew.alloc hMw _).grown HG4.out (by simp; omega) (fun j e => OwnT.ownLe HOWN.out j e))
      go_wp2_with fail
      go_roundw
      case rel =>
        refine ⟨k + 1, _, _, by omega, by go_num, rfl, ?_, HB4.out, HK4.out⟩
        rw [HSN.out, HPRE.out]
        unfold OwnT
        rw [tksV_append, tksV_one, List.length_append, HLK.out]
        exact HO4.out
      case measure => simp [RowKit.intOf]; omega
    · obtain rfl : k = ps.length := by omega
      have ht : ((fieldsS l).take ps.length).map tkOf = toldS l := by rw [List.take_of_length_le (by rw [HPL.out]; exact Nat.le_refl _)]; rfl
      rw [ht] at hown
      have HOWN := Lib.hid hown
      clear hown ht
      go_wp2_with fail
      go_ret
      exact ⟨_, rfl, HOWN.out.base (by rw [HN.out]; exact hnM), by rw [HN.out]; exact hbel⟩
end
section
set_option linter.unusedVariables false
open Go.RowKit Go.Lib Go.Shelf Go.Joins
attribute [local go_sem] Oper.semAt_some

theorem rfields_row (v : Value) (l : List Nat) (w : World) (hr : RowB w v l) (hl : l.length ≤ 100000) : Calls Tryz.prog 12 #[v] w (FieldsOut w.heap.size l w) := by
  have hlt := hr.lt
  rcases hr.shape with ⟨rfl, a, cap, rfl, hm⟩ | ⟨b, off, cap, rfl, h0, hc, hm, hcell⟩
  · exact rFields_any a 0 0 cap [] w (by simp) (by simp) (fun i h => by simp at h) (Nat.zero_le _) hm (by simp) (by simp)
  · exact rFields_any _ b off cap l w (fun _ => rfl) (fun _ => World.block_lt_of_cell? w _ (hcell 0 h0)) hcell hc hm hl hlt
theorem ask_only (l : List Nat) (S : List ByteArray) (nt : Bool) : askS l (if nt then 5 else 4) [] S (rootP l) = onlyS (rngS l 0 (splitS l)) S nt := by
  have h := root_facts l
  cases nt <;> (unfold askS; simp [h.1, h.2.1])
theorem lt_crlf : ∀ c ∈ [13, 10], c < 256 := by decide
theorem row_crlf (w : World) : RowB (w.alloc (.cells #[.int .u8 13, .int .u8 10] 5 (2, 3))) (.slice (some ⟨w.heap.size, 0, none⟩) 2 2) [13, 10] := by
  refine ⟨_, _, _, rfl, rfl, by decide, by decide, by decide, by simp, fun x hx i hi => ?_⟩
  obtain rfl := Option.some.inj hx
  rw [Addr.add_lit, Nat.zero_add, cell_of_row _ _ i _ 5 (2, 3) (heap_alloc_new w _)]
  have hi5 : i < 2 := hi
  have : i = 0 ∨ i = 1 := by omega
  rcases this with rfl | rfl <;> rfl

set_option maxRecDepth 100000 in
set_option maxHeartbeats 4000000 in
theorem sfields_walk (v vn : Value) (b : List Nat) (S : List ByteArray) (w : World) (h0 : RowB w v b) (hS : StrsIn w vn S) (hb0 : b.length ≤ 140737488351232) :
    Calls Tryz.prog 5 #[v, vn] w fun e w' => e = .returned (.bool true) ∧ Below w.heap.size w w' := by
  have HAW := Lib.hid (fun w => awake_any w)
  obtain ⟨a, cap, rfl⟩ : ∃ a c, v = .slice a b.length c := by obtain ⟨a, len, c, e, h, _⟩ := h0; exact ⟨a, c, by rw [e, h]⟩
  obtain ⟨na, nc, rfl⟩ := hS.shape
  have H0 := Lib.hid h0
  have HS := Lib.hid hS
  clear h0 hS
  by_cases g0 : 6000 < (b.length : Int)
  · clear hb0
    go_enter Tryz.func5, Tryz.ntmps5
    go_wp2_with (go_at_call 6; refine (HAW.out _).mono ?_; rintro e w1 ⟨rfl, hb⟩)
    go_ret
    exact ⟨rfl, hb⟩
  · by_cases g1 : 16 < (S.length : Int)
    · clear hb0
      go_enter Tryz.func5, Tryz.ntmps5
      go_wp2_with (go_at_call 6; refine (HAW.out _).mono ?_; rintro e w1 ⟨rfl, hb⟩)
      go_ret
      exact ⟨rfl, hb⟩
    · by_cases g2 : S.length = 0
      · have g3 : ((S.length : Int) == 0) = true := by rw [g2]; rfl
        clear hb0 g2
        go_enter Tryz.func5, Tryz.ntmps5
        go_wp2_with (go_at_call 6; refine (HAW.out _).mono ?_; rintro e w1 ⟨rfl, hb⟩)
        go_ret
        exact ⟨rfl, hb⟩
      · have hbl : b.length ≤ 6000 := by omega
        have g3 : ((S.length : Int) == 0) = false := beq_eq_false_iff_ne.2 (by omega)
        have HSL : Hid (S.length ≤ 16) := Lib.hid (by omega)
        have HBL := Lib.hid hbl
        have HLT := Lib.hid H0.out.lt
        have HSP := Lib.hid (splitS_le b)
        have hX := fun W hr hS => of4_any (.slice a b.length cap) (.slice none 0 0) (.slice na S.length nc) b S W hr (by omega) (ints_nil _) hS (by omega)
        have hY := fun W hr hS => of5_any (.slice a b.length cap) (.slice none 0 0) (.slice na S.length nc) b S W hr (by omega) (ints_nil _) hS (by omega)
        have HX := Lib.hid hX
        have HY := Lib.hid hY
        have hlen : ∀ nt, (onlyS (rngS b 0 (splitS b)) S nt).length ≤ 6002 := fun nt => by
          have h1 := pick_len (rngS b 0 (splitS b)) S nt (fieldsS (rngS b 0 (splitS b))).length
          rw [List.take_length, rngS_len (splitS_le b)] at h1
          have h2 := splitS_le b
          unfold onlyS
          rw [List.length_append]
          simp only [List.length_cons, List.length_nil]
          omega
        have HLN := Lib.hid hlen
        have HG2 := Lib.hid g2
        clear hX hY hb0 hbl hlen g2
        go_enter Tryz.func5, Tryz.ntmps5
        go_upto_region 4 with (go_at_call 7; refine (HX.out _ H0.out HS.out).mono ?_; intro e w1 h1; obtain ⟨u1, rfl, ho1, hb1⟩ := h1.root; rw [show (4 : Nat) = (if false then 5 else 4) from rfl, ask_only] at ho1; have HO1 := Lib.hid ho1; have HB1 := Lib.hid hb1; clear ho1 hb1 h1)
        go_upto_region 5 with (go_at_call 7; refine (HY.out _ (H0.out.below HB1.out) (HS.out.below HB1.out)).mono ?_; intro e w2 h2; obtain ⟨u2, rfl, ho2, hb2⟩ := h2.root; rw [show (5 : Nat) = (if true then 5 else 4) from rfl, ask_only] at ho2; have HO2 := Lib.hid (ho2.rowB (onlyS_lt (rngS_lt HLT.out _ _) _ _)); have HB2 := Lib.hid (HB1.out.trans (hb2.mono HB1.out.size)); have HO12 := Lib.hid ((HO1.out.rowB (onlyS_lt (rngS_lt HLT.out _ _) _ _)).below hb2); clear ho2 hb2 h2)
        have HE := fun nt => only_end (rngS b 0 (splitS b)) S nt
        have HT := fun nt => only_len (rngS b 0 (splitS b)) S nt
        have HSUM := Lib.hid (only_sum b S)
        have hl1 := HLN.out false
        have hl2 := HLN.out true
        have he1 := HE false
        have he2 := HE true
        have ht1 := HT false
        have ht2 := HT true
        have hbt1 := onlyS_lt (rngS_lt HLT.out 0 (splitS b)) S false
        have hbt2 := onlyS_lt (rngS_lt HLT.out 0 (splitS b)) S true
        clear HE HT HLN HO1 HX HY
        generalize onlyS (rngS b 0 (splitS b)) S false = X1 at *
        generalize onlyS (rngS b 0 (splitS b)) S true = X2 at *
        have hr1 := HO12.out
        have hr2 := HO2.out
        obtain ⟨a1, c1, rfl⟩ : ∃ a c, u1 = .slice a X1.length c := by obtain ⟨a, len, c, e, h, _⟩ := hr1; exact ⟨a, c, by rw [e, h]⟩
        obtain ⟨a2, c2, rfl⟩ : ∃ a c, u2 = .slice a X2.length c := by obtain ⟨a, len, c, e, h, _⟩ := hr2; exact ⟨a, c, by rw [e, h]⟩
        have hc1 := hr1.facts.2
        have hc2 := hr2.facts.2
        have hs1 := hr1.rng (f := X1.length - 2) (t := X1.length) (by omega) (Nat.le_refl _)
        have hs2 := hr2.rng (f := X2.length - 2) (t := X2.length) (by omega) (Nat.le_refl _)
        rw [show rngS X1 (X1.length - 2) X1.length = [13, 10] by unfold rngS; rw [List.take_length]; exact he1, if_neg (by omega)] at hs1
        rw [show rngS X2 (X2.length - 2) X2.length = [13, 10] by unfold rngS; rw [List.take_length]; exact he2, if_neg (by omega)] at hs2
        obtain ⟨n1, hn1⟩ : ∃ n, X1.length = n := ⟨_, rfl⟩
        obtain ⟨n2, hn2⟩ : ∃ n, X2.length = n := ⟨_, rfl⟩
        have HN := Lib.hid (And.intro hn1 (And.intro hn2 (And.intro hl1 hl2)))
        have f1 : ¬ (n1 : Int) < 2 := by omega
        have f2 : ¬ (n2 : Int) < 2 := by omega
        have k1 : ¬ c1 = n1 - 2 := by omega
        have k2 : ¬ c2 = n2 - 2 := by omega
        have w1' : ((n1 : Int) - 2).toNat = n1 - 2 := by omega
        have w2' : ((n2 : Int) - 2).toNat = n2 - 2 := by omega
        have b1 : (n1 : Int) ≤ 6002 := by omega
        have b2 : (n2 : Int) ≤ 6002 := by omega
        have b3 : (n1 : Int) - 2 ≤ (c1 : Int) := by omega
        have b4 : (n2 : Int) - 2 ≤ (c2 : Int) := by omega
        rw [hn1] at hs1 HO12
        rw [hn2] at hs2 HO2
        rw [hn1, hn2]
        have HS1 := Lib.hid hs1
        have HS2 := Lib.hid hs2
        clear hn1 hn2
        clear he1 he2 ht1 ht2 hr1 hr2 hc1 hc2 hs1 hs2 hl1 hl2
        go_wp2_with (first
          | (go_at_call 6; refine (HAW.out _).mono ?_; rintro e w3 ⟨rfl, hb3⟩; have HB3 := Lib.hid (HB2.out.trans (hb3.mono HB2.out.size)); have HB23 := Lib.hid hb3; have kc := Go.Joins.run_convert_bytes_const_at (P := Tryz.prog) w3 22 5 #[.int .u8 13, .int .u8 10] 2 2 w3.heap.size rfl Tryz.underlying22 Tryz.underlying5; clear hb3)
          | (go_at_call 8; with_reducible refine (bytes_yes _ _ [13, 10] (w3.alloc (.cells #[.int .u8 13, .int .u8 10] 5 (2, 3))) ((HS1.out.below HB23.out).below ((Below.refl _ _).alloc (Nat.le_refl _) _)) (row_crlf w3)).mono ?_; rintro e w4 ⟨rfl, hw4⟩; subst hw4; have HB4 := Lib.hid (HB3.out.alloc HB3.out.size (.cells #[.int .u8 13, .int .u8 10] 5 (2, 3))); have HB24 := Lib.hid (HB23.out.alloc HB23.out.size (.cells #[.int .u8 13, .int .u8 10] 5 (2, 3))); generalize w3.alloc (.cells #[.int .u8 13, .int .u8 10] 5 (2, 3)) = w4 at *; have kd := Go.Joins.run_convert_bytes_const_at (P := Tryz.prog) w4 22 5 #[.int .u8 13, .int .u8 10] 2 2 w4.heap.size rfl Tryz.underlying22 Tryz.underlying5)
          | (go_at_call 8; with_reducible refine (bytes_yes _ _ [13, 10] (w4.alloc (.cells #[.int .u8 13, .int .u8 10] 5 (2, 3))) ((HS2.out.below HB24.out).below ((Below.refl _ _).alloc (Nat.le_refl _) _)) (row_crlf w4)).mono ?_; rintro e w5 ⟨rfl, hw5⟩; subst hw5; have HB5 := Lib.hid (HB4.out.alloc HB4.out.size (.cells #[.int .u8 13, .int .u8 10] 5 (2, 3))); have HB25 := Lib.hid (HB24.out.alloc HB24.out.size (.cells #[.int .u8 13, .int .u8 10] 5 (2, 3))); generalize w4.alloc (.cells #[.int .u8 13, .int .u8 10] 5 (2, 3)) = w5 at *))
        have hx1 := rfields_row _ X1 w5 (HO12.out.below HB25.out) (by have := HN.out; omega)
        have HX1 := Lib.hid hx1
        have hm1 : (toldS X1).length ≤ 6002 := by have := fieldsS_len X1; unfold toldS; rw [List.length_map]; have := HN.out; omega
        have hm2 : (toldS X2).length ≤ 6002 := by have := fieldsS_len X2; unfold toldS; rw [List.length_map]; have := HN.out; omega
        have hsum := HSUM.out
        obtain ⟨m1, hm1e⟩ : ∃ m, (toldS X1).length = m := ⟨_, rfl⟩
        obtain ⟨m2, hm2e⟩ : ∃ m, (toldS X2).length = m := ⟨_, rfl⟩
        obtain ⟨m3, hm3e⟩ : ∃ m, (toldS b).length = m := ⟨_, rfl⟩
        rw [hm1e] at hm1
        rw [hm2e] at hm2
        rw [hm1e, hm2e, hm3e] at hsum
        have HM1 := Lib.hid hm1e
        have HM2 := Lib.hid hm2e
        have HM3 := Lib.hid hm3e
        have hi : (m1 : Int) + (m2 : Int) = (m3 : Int) := by omega
        have hi3 : (m3 : Int) ≤ 12004 := by omega
        have hi0 : 0 ≤ (m3 : Int) := by omega
        clear hx1 hm1 hm2 hsum hm1e hm2e hm3e
        refine HX1.out.mono ?_
        rintro e w6 ⟨o1, rfl, ho1, hb6⟩
        obtain ⟨p1, q1, rfl⟩ := ho1.shape
        rw [HM1.out]
        have HB6 := Lib.hid (HB25.out.trans (hb6.mono HB25.out.size))
        have HB06 := Lib.hid (HB5.out.trans (hb6.mono HB5.out.size))
        have HX2 := Lib.hid (rfields_row _ X2 w6 (HO2.out.below HB6.out) (by have := HN.out; omega))
        clear ho1 hb6
        go_wp2_with fail
        refine HX2.out.mono ?_
        rintro e w7 ⟨o2, rfl, ho2, hb7⟩
        obtain ⟨p2, q2, rfl⟩ := ho2.shape
        rw [HM2.out]
        have HB07 := Lib.hid (HB06.out.trans (hb7.mono HB06.out.size))
        have HX3 := Lib.hid (rfields_row _ b w7 (H0.out.below HB07.out) (by have := HBL.out; omega))
        clear ho2 hb7
        go_wp2_with fail
        refine HX3.out.mono ?_
        rintro e w8 ⟨o3, rfl, ho3, hb8⟩
        obtain ⟨p3, q3, rfl⟩ := ho3.shape
        rw [HM3.out]
        have HB08 := Lib.hid (HB07.out.trans (hb8.mono HB07.out.size))
        clear ho3 hb8
        go_wp2_with fail
        go_ret
        exact ⟨rfl, HB08.out⟩
end
section
set_option linter.unusedVariables false
open Go.RowKit Go.Lib Go.Shelf Go.Joins
attribute [local go_sem] Oper.semAt_some
set_option maxRecDepth 100000 in
set_option maxHeartbeats 4000000 in
theorem of3_any (v pv fv : Value) (l : List Nat) (L : List Int) (S : List ByteArray) (w : World) (hr : RowB w v l) (hl : l.length ≤ 100000) (hL : IntsIn w pv L) (hLl : L.length ≤ 1000000) (hS : StrsIn w fv S) (hSl : S.length ≤ 1000000) (hL0 : 0 < L.length) :
    Calls Tryz.prog 7 #[v, .agg #[pv, .int .i64 3, fv]] w (OfOk l 3 L S w) := by
  obtain ⟨a, cap, rfl⟩ : ∃ a c, v = .slice a l.length c := by obtain ⟨a, len, c, e, h, _⟩ := hr; exact ⟨a, c, by rw [e, h]⟩
  obtain ⟨pa, pc, rfl, hpc, -, -⟩ := id hL
  have hb0 := ((Below.refl w.heap.size w).alloc (Nat.le_refl _) (.cells #[.slice pa L.length pc, .int .i64 3, fv] 29)).alloc (by simp) (.cells kindsV 48)
  have hx := heap_alloc_new (w.alloc (.cells #[.slice pa L.length pc, .int .i64 3, fv] 29)) (.cells kindsV 48)
  have hsz : (w.alloc (.cells #[.slice pa L.length pc, .int .i64 3, fv] 29)).heap.size = w.heap.size + 1 := by simp
  rw [hsz] at hx
  have hy : ((w.alloc (.cells #[.slice pa L.length pc, .int .i64 3, fv] 29)).alloc (.cells kindsV 48)).heap[w.heap.size]? = _ := (Below.heap_alloc _ _ _ (by simp)).trans (heap_alloc_new w _)
  have HFI := Lib.hid (find_any (.slice a l.length cap) (.slice pa L.length pc) l L _ (hr.below hb0) hl (hL.below hb0) hLl)
  have H0 := Lib.hid (And.intro hr (And.intro hS (And.intro hb0 (And.intro hx (And.intro hy (And.intro hl hSl))))))
  have hsz2 : ((w.alloc (.cells #[.slice pa L.length pc, .int .i64 3, fv] 29)).alloc (.cells kindsV 48)).heap.size = w.heap.size + 2 := by simp
  have HSZ := Lib.hid hsz2
  have hp : 0 < L.length := hL0
  have HL0 := Lib.hid hL0
  clear hp hL0
  clear hr hS hb0 hx hy hl hSl hL hpc hsz hsz2
  go_enter Tryz.func7, Tryz.ntmps7
  go_upto_region 5 with (go_at_call 11; refine HFI.out.mono ?_; rintro e w1 ⟨u, q, ok, rfl, hu, hok1, hok2, hb1⟩; obtain ⟨k, K0, S0, h0, f0, t0, n0, ka, kn, kc, rfl, hpv, hfacts⟩ := hu.open)
  have hs1 := hb1.size
  rw [HSZ.out] at hs1
  have hbw : Below w.heap.size w (w1.alloc (.cells #[.string K0, .string S0, .int .i64 (h0 : Nat), .int .i64 (f0 : Nat), .int .i64 (t0 : Nat), .int .i64 (n0 : Nat), .slice ka kn kc] 37)) := (H0.out.2.2.1.trans (hb1.mono (by simp; omega))).alloc (by omega) _
  have hz := heap_alloc_new w1 (.cells #[.string K0, .string S0, .int .i64 (h0 : Nat), .int .i64 (f0 : Nat), .int .i64 (t0 : Nat), .int .i64 (n0 : Nat), .slice ka kn kc] 37)
  have hx4 : (w1.alloc (.cells #[.string K0, .string S0, .int .i64 (h0 : Nat), .int .i64 (f0 : Nat), .int .i64 (t0 : Nat), .int .i64 (n0 : Nat), .slice ka kn kc] 37)).heap[w.heap.size + 1]? = _ := ((Below.heap_alloc _ _ _ (by omega)).trans (hb1.block _ (by rw [HSZ.out]; omega))).trans H0.out.2.2.2.1
  have hy4 : (w1.alloc (.cells #[.string K0, .string S0, .int .i64 (h0 : Nat), .int .i64 (f0 : Nat), .int .i64 (t0 : Nat), .int .i64 (n0 : Nat), .slice ka kn kc] 37)).heap[w.heap.size]? = _ := ((Below.heap_alloc _ _ _ (by omega)).trans (hb1.block _ (by rw [HSZ.out]; omega))).trans H0.out.2.2.2.2.1
  obtain ⟨z, hzz⟩ : ∃ z, w1.heap.size = z := ⟨_, rfl⟩
  rw [hzz] at hz ⊢
  generalize w1.alloc (.cells #[.string K0, .string S0, .int .i64 (h0 : Nat), .int .i64 (f0 : Nat), .int .i64 (t0 : Nat), .int .i64 (n0 : Nat), .slice ka kn kc] 37) = W4 at *
  cases ok with
  | false =>
    have HF := Lib.hid (And.intro (hok2 rfl) hbw)
    clear hok1 hok2 hbw hb1 hu hpv hfacts hs1 hz hx4 hy4 hzz HFI
    go_wp2_with fail
    exact bodyPost_ret (results_tmp2 rfl _ _ _) rfl ⟨_, _, rfl, by simp, fun _ => ⟨HF.out.1, rfl⟩, HF.out.2⟩
  | true =>
    have hq := hok1 rfl
    have hqf := (OkPart.find L (root_ok l) hq).facts
    obtain ⟨-, -, e2, e3, e4, -⟩ := hfacts
    have g1 : h0 ≤ f0 := by omega
    have g2 : f0 ≤ t0 := by omega
    have g3 : t0 ≤ l.length := by omega
    have hr4 := H0.out.1.below hbw.drew
    have hS4 := H0.out.2.1.below hbw.drew
    have hl := H0.out.2.2.2.2.2.1
    have hSl := H0.out.2.2.2.2.2.2
    have hL0 := HL0.out
    have hway : Calls Tryz.prog 16 #[.agg #[.slice a l.length cap, .slice pa L.length pc, .int .i64 3, fv, .string K0, .string S0, .int .i64 (h0 : Nat), .int .i64 (f0 : Nat), .int .i64 (t0 : Nat), .int .i64 (n0 : Nat), .slice ka kn kc]] W4.drew (WayOk W4.drew (rngS l h0 f0) true) := mime_any a cap l pa L.length pc 3 fv K0 S0 h0 f0 t0 n0 ka kn kc W4.drew hr4 g1 g2 g3 hL0
    obtain ⟨m0, m1, m2, m3, m4, m5, m6⟩ := cells7 hz
    have c0 := cell_of_row W4 w.heap.size 0 _ _ _ hy4
    have c1 := cell_of_row W4 w.heap.size 1 _ _ _ hy4
    have c2 := cell_of_row W4 w.heap.size 2 _ _ _ hy4
    have k0 : W4.cell? ⟨w.heap.size + 1, 3, none⟩ = some (.func (.func 16) #[] #[]) := (cell_of_row W4 (w.heap.size + 1) 3 _ _ _ hx4).trans rfl
    have HW := Lib.hid hway
    have HAS : Hid (askS l 3 L S q = (rngS l h0 f0)) := Lib.hid (by
      unfold askS
      simp [e2, e3])
    have HE := Lib.hid (And.intro hbw (And.intro hq (And.intro g1 (And.intro g2 (And.intro g3 hl)))))
    have HML : Hid ((rngS l h0 f0).length ≤ 140737488351232) := Lib.hid (by
      rw [rngS_len (by omega)]; omega)
    obtain ⟨ML, hML⟩ : ∃ ML, (rngS l h0 f0) = ML := ⟨_, rfl⟩
    rw [hML] at HW HAS HML
    clear hML
    clear hway hr4 hS4 hl hSl hbw hb1 hu hpv hs1 hz hx4 hy4 hzz HFI hok1 hok2 hq hqf e2 e3 e4 g1 g2 g3 hL0
    go_upto_region 7 with fail
    go_region_law (go_simp; go_at_call 16; refine HW.out.mono ?_; rintro e w5 ⟨o, rfl, ho, hb5⟩; have HO := Lib.hid (And.intro ho hb5); clear ho hb5)
    all_goals go_wp2_with (go_at_call 18; refine (bclone_any _ _ w5 HO.out.1 HML.out).mono ?_; rintro e w6 ⟨o6, rfl, ho6, hb6⟩)
    all_goals
      have h5 := HE.out.1.size
      have h6 := HO.out.2.size
      simp at h6
      exact bodyPost_ret (results_tmp2 rfl _ _ _) rfl ⟨_, _, rfl, fun _ => ⟨q, HE.out.2.1, by rw [HAS.out]; exact own_low ho6 (by omega)⟩, by simp, (HE.out.1.drew.trans (HO.out.2.mono (by simp; omega))).trans (hb6.mono (by omega))⟩
end
end Go.Proofs.YtnncldnpkfjhbaaGreatDoor
