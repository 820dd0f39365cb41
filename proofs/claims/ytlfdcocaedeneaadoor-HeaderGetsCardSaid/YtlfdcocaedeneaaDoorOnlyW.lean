/-
  Only: the lines of the fields that have one of the names, or none of them.
-/
import Derived.Test.YtlfdcocaedeneaaDoorOnlyP
import Derived.Test.YtlfdcocaedeneaaDoorMadeW
import Derived.Test.YtlfdcocaedeneaaDoorSmallN
namespace Go.Proofs.YtlfdcocaedeneaaDoor
set_option linter.unusedVariables false
open Go.RowKit Go.Lib
attribute [local go_sem] Oper.semAt_some

theorem RowT.rowB {W : World} {n E : Nat} {v : Value} {T : List Nat} (h : RowT W n E v T) (hl : ∀ c ∈ T, c < 256) : RowB W v T := by
  rcases h with ⟨rfl, rfl⟩ | ⟨b, cap, cur, fz, rfl, h1, h2, h3, h4, h5, h6, h7⟩
  · exact rowB_nil W
  · refine ⟨_, _, _, rfl, rfl, h4, h5, hl, by simp, fun x hx i hi => ?_⟩
    obtain rfl := Option.some.inj hx
    rw [Addr.add_lit, Nat.zero_add, cell_of_row W b i cur 5 fz h3]
    have : (cur.toList.take (T.length * 1))[i]? = some (.int .u8 (T[i] : Nat)) := by rw [h7, u8s_get T i hi]
    rw [List.getElem?_take_of_lt (by omega)] at this
    simpa using this

set_option maxRecDepth 100000 in
set_option maxHeartbeats 4000000 in
theorem only_any (v vn : Value) (l : List Nat) (S : List ByteArray) (nt : Bool) (w : World) (hr : RowB w v l) (hl : l.length ≤ 100000) (hS : StrsIn w vn S) (hSl : S.length ≤ 1000000) :
    Calls Tryd.prog 21 #[v, vn, .bool nt] w fun e w' => ∃ o, e = .returned o ∧ OwnB w' w.heap.size o (onlyS l S nt) ∧ Below w.heap.size w w' := by
  obtain ⟨na, nc, rfl⟩ := hS.shape
  have HB := Lib.hid (fieldsS_bts hr.lt)
  have HLN := Lib.hid (fieldsS_len l)
  have HPL := Lib.hid (pick_len l S nt)
  have HC := Lib.hid (flds_any v l w hr hl)
  have HS := Lib.hid hS
  clear hr hS
  go_enter Tryd.func21, Tryd.ntmps21
  go_wp2_with fail
  refine HC.out.mono ?_
  rintro e w1 ⟨vf, gs, E, rfl, hrow, hfin, hb1⟩
  have hlen := fin2_len _ _ hfin
  have hrd := fin2_read _ _ hfin
  obtain ⟨n, hn⟩ : ∃ n, w.heap.size = n := ⟨_, rfl⟩
  obtain ⟨M, hM⟩ : ∃ M, w1.heap.size = M := ⟨_, rfl⟩
  have hnM : n ≤ M := by rw [← hn, ← hM]; exact hb1.size
  rw [hn] at hb1
  rw [hM] at hrd
  rw [hn] at hrow hrd hfin
  obtain ⟨fa, fc, rfl⟩ : ∃ fa fc, vf = .slice fa gs.length fc := by
    rcases hrow.2 with ⟨e, h0⟩ | ⟨g, cap, cur, e, _⟩
    · exact ⟨_, _, by rw [e, h0]⟩
    · exact ⟨_, _, e⟩
  have hcell : ∀ k (h : k < gs.length) (W : World), Below M w1 W → ∃ fb, fa = some ⟨fb, 0, none⟩ ∧ W.cell? ⟨fb, k, none⟩ = some (.pointer (some ⟨gs[k], 0, none⟩)) := by
    intro k h W hk
    rcases hrow.2 with ⟨e, h0⟩ | ⟨g, cap, cur, e, hb, hh, h1, h2, h3, h4⟩
    · omega
    · simp only [Value.slice.injEq] at e
      obtain ⟨rfl, -, -⟩ := e
      have hg := (Array.getElem?_eq_some_iff.1 hh).1
      refine ⟨g, rfl, ?_⟩
      rw [cell_of_row W g k cur 52 _ ((hk.block g (by omega)).trans hh)]
      have : (cur.toList.take (gs.length * 1))[k]? = some (.pointer (some ⟨gs[k], 0, none⟩)) := by rw [h4]; simp [ptrs, h]
      rw [List.getElem?_take_of_lt (by omega)] at this
      simpa using this
  have HCELL := Lib.hid hcell
  have HRD := Lib.hid hrd
  have HLEN := Lib.hid hlen
  have HB1 := Lib.hid hb1
  have HM := Lib.hid hM
  have HN := Lib.hid hn
  clear hrow hfin hcell hrd hlen hb1 hM hn HC
  go_wp2_with fail
  go_loopw [7, 16] (fun out i wr => ∃ (k : Nat) (oa : Option Addr) (om oc : Nat), k ≤ gs.length ∧ i = .int .i64 k ∧ out = .slice oa om oc ∧ OwnB wr M out (rawF (pickF S nt ((fieldsS l).take k))) ∧ Below n w wr ∧ Below M w1 wr) (fun _ i _ => gs.length - (RowKit.intOf i).toNat)
  case atStart => exact ⟨0, none, 0, 0, Nat.zero_le _, rfl, rfl, World.ownsRow_nil _ _ _ _, HB1.out, Below.refl _ _⟩
  case round =>
    obtain ⟨k, oa, om, oc, hk, rfl, rfl, hown, hbel, hkc⟩ := hrel
    by_cases hkl : k < gs.length
    · have hkf : k < (fieldsS l).length := by rw [HLEN.out]; exact hkl
      obtain ⟨fb, rfl, hpc⟩ := HCELL.out k hkl wr hkc
      have hfr := (HRD.out k hkf hkl).keep (KeepC.below hkc)
      have hbt := HB.out _ (List.getElem_mem hkf)
      have hsn := pickF_snoc S nt (fieldsS l) k hkf
      have hkn : k + 1 ≤ 100000 := by have := HLN.out; omega
      obtain ⟨g, hg⟩ : ∃ g, gs[k] = g := ⟨_, rfl⟩
      obtain ⟨⟨nm, T, R⟩, hf⟩ : ∃ f, (fieldsS l)[k] = f := ⟨_, rfl⟩
      rw [hg] at hpc hfr
      rw [hf] at hfr hbt hsn
      have hpl1 := HPL.out k
      have hpl2 := HPL.out (k + 1)
      rw [hsn] at hpl2
      have HSN := Lib.hid hsn
      have hMw : M ≤ wr.heap.size := by have := hkc.size; have := HM.out; omega
      have hname : wr.cell? ⟨g, 0, none⟩ = some (.string nm) := by
        obtain ⟨_, a, v, r, fz, h1, _⟩ := hfr
        exact cell_of_row _ _ 0 _ _ _ h1
      have hgM : g < M := hfr.1.2
      have HFR : Hid (FinR wr (n + 3) M g ⟨nm, T, R⟩) := Lib.hid hfr
      have HRT : Hid (∀ c ∈ R, c < 256) := Lib.hid hbt.2
      have HP2 : Hid (rawF (pickF S nt ((fieldsS l).take k)) ++ (if keepB S nt ⟨nm, T, R⟩ = true then R else []) = rawF (pickF S nt ((fieldsS l).take k)) ++ (if keepB S nt ⟨nm, T, R⟩ = true then R else []) ∧ (rawF (pickF S nt ((fieldsS l).take k)) ++ (if keepB S nt ⟨nm, T, R⟩ = true then R else [])).length ≤ l.length) := Lib.hid ⟨rfl, hpl2⟩
      have HOWN := Lib.hid hown
      have HBEL := Lib.hid hbel
      have HKC := Lib.hid hkc
      clear hsn hg hf hown hbel hkc hfr hbt hpl1 hpl2
      go_wp2_with fail
      rename World => wo
      go_loopw [10, 22] (fun am i wq => ∃ (j : Nat), j ≤ S.length ∧ i = .int .i64 j ∧ am = .bool (amongB (S.take j) nm) ∧ Below wo.heap.size wo wq) (fun _ i _ => S.length - (RowKit.intOf i).toNat)
      case atStart => exact ⟨0, Nat.zero_le _, rfl, rfl, Below.refl _ _⟩
      case round =>
        rename World => wq
        obtain ⟨j, hj, rfl, rfl, hbq⟩ := hrel
        by_cases hjl : j < S.length
        · obtain ⟨b0, o0, hc0⟩ := HS.out.at
          obtain ⟨rfl, hb0, hcc0⟩ := hc0 j hjl
          have hb0n : b0 < n := by rw [← HN.out]; exact hb0
          have kc0 : wq.cell? ⟨b0, o0 + j, none⟩ = some (.string S[j]) := (hbq.cell (p := ⟨b0, o0 + j, none⟩) (by show b0 < _; omega)).trans ((HBEL.out.cell (p := ⟨b0, o0 + j, none⟩) hb0n).trans hcc0)
          have kn : wq.cell? ⟨g, 0, none⟩ = some (.string nm) := (hbq.cell (p := ⟨g, 0, none⟩) (by show g < _; omega)).trans hname
          have hsz := HS.out.1 _ (List.getElem_mem hjl)
          have hsn := amongB_snoc S j hjl nm
          have hji : (j : Int) < (S.length : Int) := by omega
          have hqs := hbq.size
          generalize S[j] = sj at *
          have HSZ := Lib.hid hsz
          have HAS := Lib.hid hsn
          have HBQ := Lib.hid hbq
          clear hc0 hcc0 hsz hsn hbq
          cases ham : amongB (S.take j) nm
          · have HAM := Lib.hid ham
            clear ham
            cases hcmp : ((strL (foldL sj.data.toList)).toList == nm.toList)
            · have HNX : Hid (amongB (S.take (j + 1)) nm = false) := Lib.hid (by rw [HAS.out, HAM.out, hcmp]; rfl)
              have HF := Lib.hid (fun W => FoldN_any sj HSZ.out W)
              go_wp2_with fail
              go_region_held3 (fun w' => w'.cell? ⟨g, 0, none⟩ = some (.string nm))
                (first | with_reducible exact kb | with_reducible exact kn | go_keep)
                ((go_at_call 18; refine (HF.out _).mono ?_; rintro e w2 ⟨rfl, hb2⟩; have kb : w2.cell? ⟨g, 0, none⟩ = some (.string nm) := (hb2.cell (p := ⟨g, 0, none⟩) (by show g < wq.heap.size; omega)).trans kn; have HB2 := Lib.hid hb2; clear hb2))
              go_wp2_with fail
              go_roundw
              case rel => exact ⟨j + 1, by omega, by go_num, by rw [HNX.out], (HBQ.out.drew).trans (HB2.out.mono (by show wo.heap.size ≤ wq.heap.size; omega))⟩
              case measure => simp [RowKit.intOf]; omega
            · have HNX : Hid (amongB (S.take (j + 1)) nm = true) := Lib.hid (by rw [HAS.out, HAM.out, hcmp]; rfl)
              have HF := Lib.hid (fun W => FoldN_any sj HSZ.out W)
              go_wp2_with fail
              go_region_held3 (fun w' => w'.cell? ⟨g, 0, none⟩ = some (.string nm))
                (first | with_reducible exact kb | with_reducible exact kn | go_keep)
                ((go_at_call 18; refine (HF.out _).mono ?_; rintro e w2 ⟨rfl, hb2⟩; have kb : w2.cell? ⟨g, 0, none⟩ = some (.string nm) := (hb2.cell (p := ⟨g, 0, none⟩) (by show g < wq.heap.size; omega)).trans kn; have HB2 := Lib.hid hb2; clear hb2))
              go_wp2_with fail
              go_roundw
              case rel => exact ⟨j + 1, by omega, by go_num, by rw [HNX.out], (HBQ.out.drew).trans (HB2.out.mono (by show wo.heap.size ≤ wq.heap.size; omega))⟩
              case measure => simp [RowKit.intOf]; omega
          · have HNX : Hid (amongB (S.take (j + 1)) nm = true) := Lib.hid (by rw [HAS.out, ham]; rfl)
            clear ham
            go_wp2_with fail
            go_quiet (fail)
            go_wp2_with fail
            go_roundw
            case rel => exact ⟨j + 1, by omega, by go_num, by rw [HNX.out], below_drewN HBQ.out _⟩
            case measure => simp [RowKit.intOf]; omega
        · obtain rfl : j = S.length := by omega
          rw [List.take_length]
          obtain ⟨a3, c3, r3, fz3, hrow3, hraw3⟩ : ∃ (a : Value) (v r : Value) (fz : Nat × Nat), wq.heap[g]? = some (.cells #[.string nm, a, v, r] 57 fz) ∧ RowT wq (n + 3) M r R := by
            obtain ⟨_, a, v, r, fz, h1, _, h3⟩ := HFR.out.keep (KeepC.below (hbq.mono hMw))
            exact ⟨a, v, r, fz, h1, h3⟩
          have kr : wq.cell? ⟨g, 3, none⟩ = some r3 := cell_of_row _ _ 3 _ _ _ hrow3
          have HFQ : Hid (True ∧ RowT wq (n + 3) M r3 R) := Lib.hid ⟨trivial, hraw3⟩
          have hqs := hbq.size
          have HOWQ : Hid (OwnB wq M (.slice oa om oc) (rawF (pickF S nt ((fieldsS l).take k)))) := Lib.hid (OwnB.keep HOWN.out hbq (ownB_lt HOWN.out))
          have HBW : Hid (Below n w wq) := Lib.hid (HBEL.out.trans (hbq.mono (by omega)))
          have HKW : Hid (Below M w1 wq) := Lib.hid (HKC.out.trans (hbq.mono hMw))
          clear hbq hrow3 hraw3
          cases ham : amongB S nm
          · cases nt
            · have hkeep : keepB S false ⟨nm, T, R⟩ = false := by unfold keepB; simp only; rw [ham]; rfl
              clear ham
              have HNX : Hid (rawF (pickF S false ((fieldsS l).take (k + 1))) = rawF (pickF S false ((fieldsS l).take k))) := Lib.hid (by rw [HSN.out, if_neg (by rw [hkeep]; exact Bool.false_ne_true), List.append_nil])
              clear hkeep
              go_wp2_with fail
              go_roundw
              case rel =>
                refine ⟨k + 1, oa, om, oc, by omega, by go_num, rfl, ?_, HBW.out, HKW.out⟩
                rw [HNX.out]
                exact HOWQ.out
              case measure => simp [RowKit.intOf]; omega
            · have hkeep : keepB S true ⟨nm, T, R⟩ = true := by unfold keepB; simp only; rw [ham]; rfl
              clear ham
              have HNX : Hid (rawF (pickF S true ((fieldsS l).take (k + 1))) = rawF (pickF S true ((fieldsS l).take k)) ++ R) := Lib.hid (by rw [HSN.out, if_pos hkeep])
              have HLX : Hid ((rawF (pickF S true ((fieldsS l).take k))).length + R.length ≤ 100000) := Lib.hid (by have := HP2.out.2; rw [if_pos hkeep, List.length_append] at this; omega)
              clear hkeep
              go_wp2_with (at_builtin; go_loud (refine applw rfl (.tmp 40) (.tmp 44) rfl HOWQ.out (RowT.rowB HFQ.out.2 HRT.out) (by omega) rfl rfl (by have := HLX.out; omega) ?_); intro o5 w5 ho5 hg5 _; have HO5 := Lib.hid ho5; have HB5 := Lib.hid (HBW.out.grown hg5 (by omega) (fun j e => by have := OwnB.ownLe HOWQ.out j e; omega)); have HK5 := Lib.hid (HKW.out.grown hg5 (by omega) (fun j e => OwnB.ownLe HOWQ.out j e)); obtain ⟨a5, c5, e5⟩ := ho5.shape; subst e5; clear ho5 hg5)
              go_roundw
              case rel =>
                refine ⟨k + 1, a5, _, c5, by omega, by go_num, rfl, ?_, HB5.out, HK5.out⟩
                rw [HNX.out]
                have h5 := HO5.out
                rwa [List.length_append] at h5
              case measure => simp [RowKit.intOf]; omega
          · cases nt
            · have hkeep : keepB S false ⟨nm, T, R⟩ = true := by unfold keepB; simp only; rw [ham]; rfl
              clear ham
              have HNX : Hid (rawF (pickF S false ((fieldsS l).take (k + 1))) = rawF (pickF S false ((fieldsS l).take k)) ++ R) := Lib.hid (by rw [HSN.out, if_pos hkeep])
              have HLX : Hid ((rawF (pickF S false ((fieldsS l).take k))).length + R.length ≤ 100000) := Lib.hid (by have := HP2.out.2; rw [if_pos hkeep, List.length_append] at this; omega)
              clear hkeep
              go_wp2_with (at_builtin; go_loud (refine applw rfl (.tmp 40) (.tmp 44) rfl HOWQ.out (RowT.rowB HFQ.out.2 HRT.out) (by omega) rfl rfl (by have := HLX.out; omega) ?_); intro o5 w5 ho5 hg5 _; have HO5 := Lib.hid ho5; have HB5 := Lib.hid (HBW.out.grown hg5 (by omega) (fun j e => by have := OwnB.ownLe HOWQ.out j e; omega)); have HK5 := Lib.hid (HKW.out.grown hg5 (by omega) (fun j e => OwnB.ownLe HOWQ.out j e)); obtain ⟨a5, c5, e5⟩ := ho5.shape; subst e5; clear ho5 hg5)
              go_roundw
              case rel =>
                refine ⟨k + 1, a5, _, c5, by omega, by go_num, rfl, ?_, HB5.out, HK5.out⟩
                rw [HNX.out]
                have h5 := HO5.out
                rwa [List.length_append] at h5
              case measure => simp [RowKit.intOf]; omega
            · have hkeep : keepB S true ⟨nm, T, R⟩ = false := by unfold keepB; simp only; rw [ham]; rfl
              clear ham
              have HNX : Hid (rawF (pickF S true ((fieldsS l).take (k + 1))) = rawF (pickF S true ((fieldsS l).take k))) := Lib.hid (by rw [HSN.out, if_neg (by rw [hkeep]; exact Bool.false_ne_true), List.append_nil])
              clear hkeep
              go_wp2_with fail
              go_roundw
              case rel =>
                refine ⟨k + 1, oa, om, oc, by omega, by go_num, rfl, ?_, HBW.out, HKW.out⟩
                rw [HNX.out]
                exact HOWQ.out
              case measure => simp [RowKit.intOf]; omega
    · obtain rfl : k = gs.length := by omega
      have ht : rawF (pickF S nt ((fieldsS l).take gs.length)) ++ [13, 10] = onlyS l S nt := by rw [List.take_of_length_le (by rw [HLEN.out]; exact Nat.le_refl _)]; rfl
      have hlt := HPL.out gs.length
      have HT := Lib.hid ht
      have HLT := Lib.hid hlt
      have HOWN := Lib.hid hown
      have HBEL := Lib.hid hbel
      have hMw : M ≤ wr.heap.size := by have := hkc.size; have := HM.out; omega
      clear hown ht hlt hbel
      go_wp2_with (at_builtin; go_loud (refine apps rfl (.tmp 47) (.const (.string ⟨#[13, 10]⟩)) rfl HOWN.out hMw rfl rfl (by have := HLT.out; have z1 : (⟨#[13, 10]⟩ : ByteArray).size = 2 := rfl; omega) ?_); intro o4 w4 ho4 hg4; rw [show natsOf ⟨#[13, 10]⟩ = [13, 10] from rfl, HT.out] at ho4; have HO4 := Lib.hid ho4; have HB4 := Lib.hid (HBEL.out.grown hg4 (by omega) (fun j e => by have := OwnB.ownLe HOWN.out j e; omega)); clear ho4 hg4)
      go_ret
      exact ⟨_, rfl, ownB_base HO4.out (by rw [HN.out]; exact hnM), by rw [HN.out]; exact HB4.out⟩
end Go.Proofs.YtlfdcocaedeneaaDoor
