/-
  The reference's Only.
-/
import Derived.Test.YtlfdcocaedeneaaDoorRefF
import Derived.Test.YtlfdcocaedeneaaDoorOnlyW
namespace Go.Proofs.YtlfdcocaedeneaaDoor
set_option linter.unusedVariables false
open Go.RowKit Go.Lib
attribute [local go_sem] Oper.semAt_some

set_option maxRecDepth 100000 in
set_option maxHeartbeats 4000000 in
theorem ronly_any (a : Option Addr) (lb lo cap : Nat) (vn : Value) (l : List Nat) (S : List ByteArray) (nt : Bool) (w : World) (ha : l ≠ [] → a = some ⟨lb, lo, none⟩) (hlb : l ≠ [] → lb < w.heap.size) (hc : CellsL w lb lo l) (hlc : l.length ≤ cap) (hm : cap ≤ maxLen) (hl : l.length ≤ 100000) (hlt : ∀ c ∈ l, c < 256) (hS : StrsIn w vn S) (hSl : S.length ≤ 1000000) :
    Calls Tryd.prog 22 #[.slice a l.length cap, vn, .bool nt] w fun e w' => ∃ o, e = .returned o ∧ OwnB w' w.heap.size o (onlyS l S nt) ∧ Below w.heap.size w w' := by
  obtain ⟨na, nc, rfl⟩ := hS.shape
  have HB := Lib.hid (fieldsS_bts hlt)
  have HLN := Lib.hid (fieldsS_len l)
  have HPL := Lib.hid (pick_len l S nt)
  have HC := Lib.hid (rfields_any a lb lo cap l w ha hlb hc hlc hm hl hlt)
  have HS := Lib.hid hS
  clear ha hlb hc hlc hm hlt hS
  go_enter Tryd.func22, Tryd.ntmps22
  go_wp2_with fail
  refine HC.out.mono ?_
  rintro e w1 ⟨vf, ps, rfl, hq, hmap, hb1⟩
  obtain ⟨fa, fc, rfl⟩ := hq.shape
  obtain ⟨g, hcl⟩ := hq.cells
  have hpl : ps.length = (fieldsS l).length := by rw [← hmap, List.length_map]
  have hpf : ∀ i (h : i < ps.length) (h2 : i < (fieldsS l).length), ps[i].1 = (fieldsS l)[i] := fun i h h2 => by
    have : (ps.map (·.1))[i]'(by simpa using h) = ps[i].1 := by simp
    rw [← this]
    simp only [hmap]
  obtain ⟨n, hn⟩ : ∃ n, w.heap.size = n := ⟨_, rfl⟩
  obtain ⟨M, hM⟩ : ∃ M, w1.heap.size = M := ⟨_, rfl⟩
  have hnM : n ≤ M := by rw [← hn, ← hM]; exact hb1.size
  rw [hn] at hb1 hq
  rw [hM] at hcl
  have HQ := Lib.hid hq
  have HCL := Lib.hid hcl
  have HPF := Lib.hid hpf
  have HPL2 := Lib.hid hpl
  have HB1 := Lib.hid hb1
  have HM := Lib.hid hM
  have HN := Lib.hid hn
  clear hq hcl hmap hpl hpf hb1 hM hn HC
  go_wp2_with fail
  go_loopw [7, 9] (fun out i wr => ∃ (k : Nat) (oa : Option Addr) (om oc : Nat), k ≤ ps.length ∧ i = .int .i64 k ∧ out = .slice oa om oc ∧ OwnB wr M out (rawF (pickF S nt ((fieldsS l).take k))) ∧ Below n w wr ∧ Below M w1 wr) (fun _ i _ => ps.length - (RowKit.intOf i).toNat)
  case atStart => exact ⟨0, none, 0, 0, Nat.zero_le _, rfl, rfl, World.ownsRow_nil _ _ _ _, HB1.out, Below.refl _ _⟩
  case round =>
    obtain ⟨k, oa, om, oc, hk, rfl, rfl, hown, hbel, hkc⟩ := hrel
    by_cases hkl : k < ps.length
    · have hkf : k < (fieldsS l).length := by rw [← HPL2.out]; exact hkl
      obtain ⟨rfl, hgM, hc1, -, hc3⟩ := HCL.out k hkl
      have hraw := HQ.out.raws _ (List.getElem_mem hkl)
      rw [HPF.out k hkl hkf] at hc1 hraw
      have hbt := HB.out _ (List.getElem_mem hkf)
      have hsn := pickF_snoc S nt (fieldsS l) k hkf
      have hkn : k + 1 ≤ 100000 := by have := HLN.out; omega
      have hki : (k : Int) < (ps.length : Int) := by omega
      generalize hrv : ps[k].2 = rv at *
      obtain ⟨⟨nm, T, R⟩, hf⟩ : ∃ f, (fieldsS l)[k] = f := ⟨_, rfl⟩
      rw [hf] at hc1 hraw hbt hsn
      simp only at hc1 hraw hbt
      have hpl1 := HPL.out k
      have hpl2 := HPL.out (k + 1)
      rw [hsn] at hpl2
      have HSN := Lib.hid hsn
      have hMw : M ≤ wr.heap.size := by have := hkc.size; have := HM.out; omega
      have hname : wr.cell? ⟨g, k * 3, none⟩ = some (.string nm) := (hkc.cell (p := ⟨g, k * 3, none⟩) hgM).trans hc1
      have hraw2 : wr.cell? ⟨g, k * 3 + 2, none⟩ = some rv := (hkc.cell (p := ⟨g, k * 3 + 2, none⟩) hgM).trans hc3
      have HRAW := Lib.hid hraw
      have HRT : Hid (∀ c ∈ R, c < 256) := Lib.hid hbt.2
      have HP2 : Hid ((rawF (pickF S nt ((fieldsS l).take k)) ++ (if keepB S nt ⟨nm, T, R⟩ = true then R else [])).length ≤ l.length) := Lib.hid hpl2
      have HOWN := Lib.hid hown
      have HBEL := Lib.hid hbel
      have HKC := Lib.hid hkc
      clear hsn hf hown hbel hkc hbt hpl1 hpl2 hraw hc1 hc3 hrv
      go_wp2_with fail
      rename World => wo
      go_loopw [10, 11] (fun am i wq => ∃ (j : Nat), j ≤ S.length ∧ i = .int .i64 j ∧ am = .bool (amongB (S.take j) nm) ∧ Below wo.heap.size wo wq) (fun _ i _ => S.length - (RowKit.intOf i).toNat)
      case atStart => exact ⟨0, Nat.zero_le _, rfl, rfl, Below.refl _ _⟩
      case round =>
        rename World => wq
        obtain ⟨j, hj, rfl, rfl, hbq⟩ := hrel
        by_cases hjl : j < S.length
        · obtain ⟨b0, o0, hc0⟩ := HS.out.at
          obtain ⟨rfl, hb0, hcc0⟩ := hc0 j hjl
          have hb0n : b0 < n := by rw [← HN.out]; exact hb0
          have kc0 : wq.cell? ⟨b0, o0 + j, none⟩ = some (.string S[j]) := (hbq.cell (p := ⟨b0, o0 + j, none⟩) (by show b0 < _; omega)).trans ((HBEL.out.cell (p := ⟨b0, o0 + j, none⟩) hb0n).trans hcc0)
          have kn : wq.cell? ⟨g, k * 3, none⟩ = some (.string nm) := (hbq.cell (p := ⟨g, k * 3, none⟩) (by show g < _; omega)).trans hname
          have hsz := HS.out.1 _ (List.getElem_mem hjl)
          have hsn := amongB_snoc S j hjl nm
          have hji : (j : Int) < (S.length : Int) := by omega
          have hqs := hbq.size
          generalize S[j] = sj at *
          have HSZ := Lib.hid hsz
          have HAS := Lib.hid hsn
          have HBQ := Lib.hid hbq
          have hb0q : b0 < wq.heap.size := by omega
          have hgq : g < wq.heap.size := by omega
          clear hc0 hcc0 hsz hsn hbq
          cases ham : amongB (S.take j) nm
          · have HAM := Lib.hid ham
            clear ham
            have HF := Lib.hid (fun W => foldN_any sj HSZ.out W)
            cases hcmp : ((strL (foldL sj.data.toList)).toList == nm.toList)
            · have HNX : Hid (amongB (S.take (j + 1)) nm = false) := Lib.hid (by rw [HAS.out, HAM.out, hcmp]; rfl)
              go_wp2_with fail
              go_region_held3 (fun w' => w'.cell? ⟨g, k * 3, none⟩ = some (.string nm) ∧ w'.cell? ⟨b0, o0 + j, none⟩ = some (.string sj))
                (first | with_reducible exact kb | with_reducible exact ⟨kn, kc0⟩ | go_keep)
                ((go_at_call 19; refine (HF.out _).mono ?_; rintro e w2 ⟨rfl, hb2⟩; have kb : w2.cell? ⟨g, k * 3, none⟩ = some (.string nm) ∧ w2.cell? ⟨b0, o0 + j, none⟩ = some (.string sj) := ⟨(hb2.cell (p := ⟨g, k * 3, none⟩) hgq).trans kn, (hb2.cell (p := ⟨b0, o0 + j, none⟩) hb0q).trans kc0⟩; have HB2 := Lib.hid hb2; clear hb2))
              go_wp2_with fail
              go_roundw
              case rel => exact ⟨j + 1, by omega, by go_num, by rw [HNX.out], (HBQ.out.drew).trans (HB2.out.mono (by show wo.heap.size ≤ wq.heap.size; omega))⟩
              case measure => simp [RowKit.intOf]; omega
            · have HNX : Hid (amongB (S.take (j + 1)) nm = true) := Lib.hid (by rw [HAS.out, HAM.out, hcmp]; rfl)
              go_wp2_with fail
              go_region_held3 (fun w' => w'.cell? ⟨g, k * 3, none⟩ = some (.string nm) ∧ w'.cell? ⟨b0, o0 + j, none⟩ = some (.string sj))
                (first | with_reducible exact kb | with_reducible exact ⟨kn, kc0⟩ | go_keep)
                ((go_at_call 19; refine (HF.out _).mono ?_; rintro e w2 ⟨rfl, hb2⟩; have kb : w2.cell? ⟨g, k * 3, none⟩ = some (.string nm) ∧ w2.cell? ⟨b0, o0 + j, none⟩ = some (.string sj) := ⟨(hb2.cell (p := ⟨g, k * 3, none⟩) hgq).trans kn, (hb2.cell (p := ⟨b0, o0 + j, none⟩) hb0q).trans kc0⟩; have HB2 := Lib.hid hb2; clear hb2))
              go_wp2_with fail
              go_roundw
              case rel => exact ⟨j + 1, by omega, by go_num, by rw [HNX.out], (HBQ.out.drew).trans (HB2.out.mono (by show wo.heap.size ≤ wq.heap.size; omega))⟩
              case measure => simp [RowKit.intOf]; omega
          · have HNX : Hid (amongB (S.take (j + 1)) nm = true) := Lib.hid (by rw [HAS.out, ham]; rfl)
            clear ham
            go_wp2_with fail
            go_quiet (fail)
            go_wp2_with fail
            go_roundw
            case rel => exact ⟨j + 1, by omega, by go_num, by rw [HNX.out], below_drewN HBQ.out _⟩
            case measure => simp [RowKit.intOf]; omega
        · obtain rfl : j = S.length := by omega
          rw [List.take_length]
          have kr : wq.cell? ⟨g, k * 3 + 2, none⟩ = some rv := (hbq.cell (p := ⟨g, k * 3 + 2, none⟩) (by show g < _; omega)).trans hraw2
          have hqs := hbq.size
          have HOWQ : Hid (OwnB wq M (.slice oa om oc) (rawF (pickF S nt ((fieldsS l).take k)))) := Lib.hid (OwnB.keep HOWN.out hbq (ownB_lt HOWN.out))
          have HBW : Hid (Below n w wq) := Lib.hid (HBEL.out.trans (hbq.mono (by omega)))
          have HKW : Hid (Below M w1 wq) := Lib.hid (HKC.out.trans (hbq.mono hMw))
          have HRQ : Hid (RowB wq rv R) := Lib.hid (OwnB.rowB (OwnB.keep HRAW.out HKW.out (fun j hj => by rw [← HM.out]; exact ownB_lt HRAW.out j hj)) HRT.out)
          clear hbq
          cases ham : amongB S nm
          · cases nt
            · have hkeep : keepB S false ⟨nm, T, R⟩ = false := by unfold keepB; simp only; rw [ham]; rfl
              clear ham
              have HNX : Hid (rawF (pickF S false ((fieldsS l).take (k + 1))) = rawF (pickF S false ((fieldsS l).take k))) := Lib.hid (by rw [HSN.out, if_neg (by rw [hkeep]; exact Bool.false_ne_true), List.append_nil])
              clear hkeep
              go_wp2_with fail
              go_roundw
              case rel =>
                refine ⟨k + 1, oa, om, oc, by omega, by go_num, rfl, ?_, HBW.out, HKW.out⟩
                rw [HNX.out]
                exact HOWQ.out
              case measure => simp [RowKit.intOf]; omega
            · have hkeep : keepB S true ⟨nm, T, R⟩ = true := by unfold keepB; simp only; rw [ham]; rfl
              clear ham
              have HNX : Hid (rawF (pickF S true ((fieldsS l).take (k + 1))) = rawF (pickF S true ((fieldsS l).take k)) ++ R) := Lib.hid (by rw [HSN.out, if_pos hkeep])
              have HLX : Hid ((rawF (pickF S true ((fieldsS l).take k))).length + R.length ≤ 100000) := Lib.hid (by have := HP2.out; rw [if_pos hkeep, List.length_append] at this; omega)
              clear hkeep
              go_wp2_with (at_builtin; go_loud (refine applw rfl (.tmp 43) (.tmp 48) rfl HOWQ.out HRQ.out (by omega) rfl rfl (by have := HLX.out; omega) ?_); intro o5 w5 ho5 hg5 _; have HO5 := Lib.hid ho5; have HB5 := Lib.hid (HBW.out.grown hg5 (by omega) (fun j e => by have := OwnB.ownLe HOWQ.out j e; omega)); have HK5 := Lib.hid (HKW.out.grown hg5 (by omega) (fun j e => OwnB.ownLe HOWQ.out j e)); obtain ⟨a5, c5, e5⟩ := ho5.shape; subst e5; clear ho5 hg5)
              go_roundw
              case rel =>
                refine ⟨k + 1, a5, _, c5, by omega, by go_num, rfl, ?_, HB5.out, HK5.out⟩
                rw [HNX.out]
                have h5 := HO5.out
                rwa [List.length_append] at h5
              case measure => simp [RowKit.intOf]; omega
          · cases nt
            · have hkeep : keepB S false ⟨nm, T, R⟩ = true := by unfold keepB; simp only; rw [ham]; rfl
              clear ham
              have HNX : Hid (rawF (pickF S false ((fieldsS l).take (k + 1))) = rawF (pickF S false ((fieldsS l).take k)) ++ R) := Lib.hid (by rw [HSN.out, if_pos hkeep])
              have HLX : Hid ((rawF (pickF S false ((fieldsS l).take k))).length + R.length ≤ 100000) := Lib.hid (by have := HP2.out; rw [if_pos hkeep, List.length_append] at this; omega)
              clear hkeep
              go_wp2_with (at_builtin; go_loud (refine applw rfl (.tmp 43) (.tmp 48) rfl HOWQ.out HRQ.out (by omega) rfl rfl (by have := HLX.out; omega) ?_); intro o5 w5 ho5 hg5 _; have HO5 := Lib.hid ho5; have HB5 := Lib.hid (HBW.out.grown hg5 (by omega) (fun j e => by have := OwnB.ownLe HOWQ.out j e; omega)); have HK5 := Lib.hid (HKW.out.grown hg5 (by omega) (fun j e => OwnB.ownLe HOWQ.out j e)); obtain ⟨a5, c5, e5⟩ := ho5.shape; subst e5; clear ho5 hg5)
              go_roundw
              case rel =>
                refine ⟨k + 1, a5, _, c5, by omega, by go_num, rfl, ?_, HB5.out, HK5.out⟩
                rw [HNX.out]
                have h5 := HO5.out
                rwa [List.length_append] at h5
              case measure => simp [RowKit.intOf]; omega
            · have hkeep : keepB S true ⟨nm, T, R⟩ = false := by unfold keepB; simp only; rw [ham]; rfl
              clear ham
              have HNX : Hid (rawF (pickF S true ((fieldsS l).take (k + 1))) = rawF (pickF S true ((fieldsS l).take k))) := Lib.hid (by rw [HSN.out, if_neg (by rw [hkeep]; exact Bool.false_ne_true), List.append_nil])
              clear hkeep
              go_wp2_with fail
              go_roundw
              case rel =>
                refine ⟨k + 1, oa, om, oc, by omega, by go_num, rfl, ?_, HBW.out, HKW.out⟩
                rw [HNX.out]
                exact HOWQ.out
              case measure => simp [RowKit.intOf]; omega
    · obtain rfl : k = ps.length := by omega
      have ht : rawF (pickF S nt ((fieldsS l).take ps.length)) ++ [13, 10] = onlyS l S nt := by rw [List.take_of_length_le (by rw [HPL2.out]; exact Nat.le_refl _)]; rfl
      have hlt := HPL.out ps.length
      have HT := Lib.hid ht
      have HLT := Lib.hid hlt
      have HOWN := Lib.hid hown
      have HBEL := Lib.hid hbel
      have hMw : M ≤ wr.heap.size := by have := hkc.size; have := HM.out; omega
      clear hown ht hlt hbel
      go_wp2_with (at_builtin; go_loud (refine app2 rfl (.tmp 50) (.tmp 51) rfl (ownB_base HOWN.out hnM) HBEL.out (by omega) rfl rfl (by have := HLT.out; omega) (Lib.hid ⟨rfl, rfl⟩) ?_); intro o4 w4 ho4 hb4; rw [HT.out] at ho4; have HO4 := Lib.hid ho4; have HB4 := Lib.hid hb4; clear ho4 hb4)
      go_ret
      exact ⟨_, rfl, by rw [HN.out]; exact HO4.out, by rw [HN.out]; exact HB4.out⟩
end Go.Proofs.YtlfdcocaedeneaaDoor
