/-
  The reference's Fields.
-/
import Derived.Test.YtlfdcocaedeneaaDoorRefE
namespace Go.Proofs.YtlfdcocaedeneaaDoor
set_option linter.unusedVariables false
open Go.RowKit Go.Lib
attribute [local go_sem] Oper.semAt_some

theorem OwnQ.cells {w : World} {B : Nat} {a : Option Addr} {n c : Nat} {ps : List FR} (h : OwnQ w B (.slice a n c) ps) : ∃ g, ∀ i (hi : i < ps.length), a = some ⟨g, 0, none⟩ ∧ g < w.heap.size ∧ w.cell? ⟨g, i * 3, none⟩ = some (.string ps[i].1.nm) ∧ w.cell? ⟨g, i * 3 + 1, none⟩ = some (.string (strT ps[i].1.T)) ∧ w.cell? ⟨g, i * 3 + 2, none⟩ = some ps[i].2 := by
  have h0 := h.row
  rcases h.row.2 with ⟨hv, hz⟩ | ⟨g, cp, cur, hv, hb, hh, h1, h2, h3, h4⟩
  · exact ⟨0, fun i hi => by omega⟩
  · simp only [Value.slice.injEq] at hv
    obtain ⟨rfl, -, rfl⟩ := hv
    refine ⟨g, fun i hi => ⟨rfl, (Array.getElem?_eq_some_iff.1 hh).1, ?_⟩⟩
    have hc : ∀ j, j < ps.length * 3 → w.cell? ⟨g, j, none⟩ = (frsV ps)[j]? := fun j hj => by
      rw [cell_of_row w g j cur 63 _ hh]
      have : (cur.toList.take (ps.length * 3))[j]? = (frsV ps)[j]? := by rw [h4]
      rw [List.getElem?_take_of_lt hj] at this
      simpa using this
    obtain ⟨e1, e2, e3⟩ := frsV_get ps i hi
    exact ⟨by rw [hc _ (by omega), e1], by rw [hc _ (by omega), e2], by rw [hc _ (by omega), e3]⟩

set_option maxRecDepth 100000 in
set_option maxHeartbeats 4000000 in
theorem rFields_any (a : Option Addr) (lb lo cap : Nat) (l : List Nat) (w : World) (ha : l ≠ [] → a = some ⟨lb, lo, none⟩) (hlb : l ≠ [] → lb < w.heap.size) (hc : CellsL w lb lo l) (hlc : l.length ≤ cap) (hm : cap ≤ maxLen) (hl : l.length ≤ 100000) (hlt : ∀ c ∈ l, c < 256) :
    Calls Tryd.prog 14 #[.slice a l.length cap] w (FieldsOut w.heap.size l w) := by
  obtain ⟨i0, hi0, hz0, hz1, hz2⟩ := info_parts info28
  have HI := Lib.hid hi0
  have HLN := Lib.hid (fieldsS_len l)
  have HLE := Lib.hid (fieldsS_le hl)
  have HC := Lib.hid (rfields_any a lb lo cap l w ha hlb hc hlc hm hl hlt)
  clear ha hlb hc hlc hm hlt hi0
  go_enter Tryd.func14, Tryd.ntmps14
  go_wp2_with fail
  refine HC.out.mono ?_
  rintro e w1 ⟨vf, ps, rfl, hq, hmap, hb1⟩
  obtain ⟨fa, fc, rfl⟩ := hq.shape
  obtain ⟨g, hcl⟩ := hq.cells
  have hpl : ps.length = (fieldsS l).length := by rw [← hmap, List.length_map]
  have hpf : ∀ i (h : i < ps.length) (h2 : i < (fieldsS l).length), ps[i].1 = (fieldsS l)[i] := fun i h h2 => by
    have : (ps.map (·.1))[i]'(by simpa using h) = ps[i].1 := by simp
    rw [← this]
    simp only [hmap]
  obtain ⟨n, hn⟩ : ∃ n, w.heap.size = n := ⟨_, rfl⟩
  obtain ⟨M, hM⟩ : ∃ M, w1.heap.size = M := ⟨_, rfl⟩
  have hnM : n ≤ M := by rw [← hn, ← hM]; exact hb1.size
  rw [hn] at hb1
  rw [hM] at hcl
  have HCL := Lib.hid hcl
  have HPF := Lib.hid hpf
  have HPL := Lib.hid hpl
  have HB1 := Lib.hid hb1
  have HM := Lib.hid hM
  have HN := Lib.hid hn
  clear hq hcl hmap hpl hpf hb1 hM hn HC
  go_wp2_with fail
  go_loopw [3, 5] (fun out i wr => ∃ (k : Nat) (oa : Option Addr) (oc : Nat), k ≤ ps.length ∧ i = .int .i64 k ∧ out = .slice oa k oc ∧ OwnT wr M out (((fieldsS l).take k).map tkOf) ∧ Below n w wr ∧ Below M w1 wr) (fun _ i _ => ps.length - (RowKit.intOf i).toNat)
  case atStart => exact ⟨0, none, 0, Nat.zero_le _, rfl, rfl, World.ownsRow_nil _ _ _ _, HB1.out, Below.refl _ _⟩
  case round =>
    obtain ⟨k, oa, oc, hk, rfl, rfl, hown, hbel, hkc⟩ := hrel
    by_cases hkl : k < ps.length
    · have hkf : k < (fieldsS l).length := by rw [← HPL.out]; exact hkl
      obtain ⟨rfl, hgM, hc1, hc2, -⟩ := HCL.out k hkl
      rw [HPF.out k hkl hkf] at hc1 hc2
      have kc1 := (hkc.cell (p := ⟨g, k * 3, none⟩) hgM).trans hc1
      have kc2 := (hkc.cell (p := ⟨g, k * 3 + 1, none⟩) hgM).trans hc2
      have hle := (HLE.out _ (List.getElem_mem hkf)).1
      have hsn := toldS_snoc l k hkf
      have hlnk : (((fieldsS l).take k).map tkOf).length = k := by simp; omega
      have hkn : k + 1 ≤ 100000 := by have := HLN.out; omega
      have hki : (k : Int) < (ps.length : Int) := by omega
      obtain ⟨⟨nm, T, R⟩, hf⟩ : ∃ f, (fieldsS l)[k] = f := ⟨_, rfl⟩
      rw [hf] at kc1 kc2 hle hsn
      have HSN := Lib.hid hsn
      obtain ⟨pre, hpre⟩ : ∃ pre, ((fieldsS l).take k).map tkOf = pre := ⟨_, rfl⟩
      rw [hpre] at hown hlnk
      have HPRE := Lib.hid hpre
      have hMw : M ≤ wr.heap.size := by have := hkc.size; have := HM.out; omega
      have HTR : Hid (∀ W, Calls Tryd.prog 35 #[.string (strT T)] W fun e w' => e = .returned (.string (cutT T)) ∧ W = w') := Lib.hid (fun W => rtrim_any (strT T) W (by rw [strT_size]; simp only at hle; omega))
      have HOWN := Lib.hid hown
      have HBEL := Lib.hid hbel
      have HKC := Lib.hid hkc
      have HLK := Lib.hid hlnk
      simp only at kc1 kc2
      clear hsn hf hpre hown hbel hkc hle hlnk hkf hc1 hc2
      go_wp2_with fail
      go_region_held3 (fun w' => w'.cell? ⟨g, k * 3, none⟩ = some (.string nm) ∧ w'.cell? ⟨g, k * 3 + 1, none⟩ = some (.string (strT T)))
        (first | with_reducible exact kb | with_reducible exact ⟨kc1, kc2⟩ | go_keep)
        (first
          | (go_at_call 35; refine (HTR.out _).mono ?_; rintro e w2 ⟨rfl, rfl⟩)
          | (refine step_append_lies _ (by rfl) _ _ _ (by rfl) M 28 i0 _ 2 32 Tryd.underlying29 HI.out hz0 hz1 hz2 rfl (by decide) (.slice oa k oc) k (tksV pre) (by rfl) (World.ownsRow.alloc (show wr.drew.ownsRow M 28 2 (.slice oa k oc) k (tksV pre) from by have h := HOWN.out; unfold OwnT at h; rw [HLK.out] at h; exact h) _) ⟨wr.drew.heap.size, 0, none⟩ 1 1 [.string nm, .string (cutT T)] (by rfl) (by rfl) (World.news_of_block (cs := #[.string nm, .string (cutT T)]) (t := 28) (fr := (0, 0)) (heap_alloc_new wr.drew _)) (by simp [Value.oneCell']) (by omega) (by unfold maxLen; omega) (by omega) (by simp; omega) (wr.drew.heap.size + 1) (by simp) ?_; intro gg cap w4 hown4 hgrow hat hlt; have kb : w4.cell? ⟨g, k * 3, none⟩ = some (.string nm) ∧ w4.cell? ⟨g, k * 3 + 1, none⟩ = some (.string (strT T)) := (by have hbb : Below M wr w4 := ((Below.refl M wr).drew.alloc hMw _).grown hgrow (by simp; omega) (fun j e => OwnT.ownLe HOWN.out j e); exact ⟨(hbb.cell (p := ⟨g, k * 3, none⟩) hgM).trans kc1, (hbb.cell (p := ⟨g, k * 3 + 1, none⟩) hgM).trans kc2⟩); have HO4 := Lib.hid hown4; have HG4 := Lib.hid hgrow; clear hown4 hgrow hat hlt))
      have HB4 : Hid (Below n w w4) := Lib.hid ((HBEL.out.drew.alloc (by show n ≤ wr.heap.size; omega) _).grown HG4.out (by simp; omega) (fun j e => by have := OwnT.ownLe HOWN.out j e; omega))
      have HK4 : Hid (Below M w1 w4) := Lib.hid ((HKC.out.drew.alloc hMw _).grown HG4.out (by simp; omega) (fun j e => OwnT.ownLe HOWN.out j e))
      go_wp2_with fail
      go_roundw
      case rel =>
        refine ⟨k + 1, _, _, by omega, by go_num, rfl, ?_, HB4.out, HK4.out⟩
        rw [HSN.out, HPRE.out]
        unfold OwnT
        rw [tksV_append, tksV_one, List.length_append, HLK.out]
        exact HO4.out
      case measure => simp [RowKit.intOf]; omega
    · obtain rfl : k = ps.length := by omega
      have ht : ((fieldsS l).take ps.length).map tkOf = toldS l := by rw [List.take_of_length_le (by rw [HPL.out]; exact Nat.le_refl _)]; rfl
      rw [ht] at hown
      have HOWN := Lib.hid hown
      clear hown ht
      go_wp2_with fail
      go_ret
      exact ⟨_, rfl, HOWN.out.base (by rw [HN.out]; exact hnM), by rw [HN.out]; exact hbel⟩
end Go.Proofs.YtlfdcocaedeneaaDoor
