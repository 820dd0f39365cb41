/-
  Fields: the names and texts of the fields.
-/
import Derived.Test.YtlfdcocaedeneaaDoorFieldsP
import Derived.Deep.RegionHeld3
import Derived.Deep.AppendLies
namespace Go.Proofs.YtlfdcocaedeneaaDoor
set_option linter.unusedVariables false
open Go.RowKit Go.Lib
attribute [local go_sem] Oper.semAt_some

theorem info28 : (Tryd.prog.info? 28).map (fun i => (i.zero, i.size, i.bytes)) = some (some (.agg #[.string ⟨#[]⟩, .string ⟨#[]⟩]), 2, 32) := by kernel_rfl

theorem OwnT.base {w : World} {B B' : Nat} {v : Value} {l : List Tk} (h : OwnT w B v l) (hB : B' ≤ B) : OwnT w B' v l := by
  refine ⟨h.1, ?_⟩
  rcases h.2 with h2 | ⟨b, cap, cur, rfl, hb, r⟩
  · exact .inl h2
  · exact .inr ⟨b, cap, cur, rfl, by omega, r⟩
theorem OwnT.below {w w' : World} {B E : Nat} {v : Value} {l : List Tk} (h : OwnT w B v l) (hb : Below E w w') (hE : w.heap.size ≤ E) : OwnT w' B v l := by
  refine ⟨h.1, ?_⟩
  rcases h.2 with h2 | ⟨b, cap, cur, rfl, hB, hh, r⟩
  · exact .inl h2
  · exact .inr ⟨b, cap, cur, rfl, hB, (hb.block b (by have := (Array.getElem?_eq_some_iff.1 hh).1; omega)).trans hh, r⟩
theorem OwnT.ownLe {w : World} {B : Nat} {v : Value} {l : List Tk} (h : OwnT w B v l) : ∀ k, v.ownBlock = some k → B ≤ k := fun k hk => (World.ownsRow.lt h k hk).1
/-- a freeze of a row of bytes -/
theorem OwnT.keepC {w w' : World} {B E : Nat} {v : Value} {l : List Tk} (h : OwnT w B v l) (hk : ∀ k, B ≤ k → k < w.heap.size → w'.heap[k]? = w.heap[k]?) : OwnT w' B v l := by
  refine ⟨h.1, ?_⟩
  rcases h.2 with h2 | ⟨b, cap, cur, rfl, hB, hh, r⟩
  · exact .inl h2
  · exact .inr ⟨b, cap, cur, rfl, hB, (hk b hB (Array.getElem?_eq_some_iff.1 hh).1).trans hh, r⟩

def FieldsOut (n : Nat) (l : List Nat) (w : World) (e : Ending) (w' : World) : Prop := ∃ vo, e = .returned vo ∧ OwnT w' n vo (toldS l) ∧ Below n w w'

theorem toldS_snoc (l : List Nat) (k : Nat) (h : k < (fieldsS l).length) : ((fieldsS l).take (k + 1)).map tkOf = ((fieldsS l).take k).map tkOf ++ [tkOf (fieldsS l)[k]] := by
  rw [List.take_succ_eq_append_getElem h, List.map_append]
  rfl
theorem tksV_one (x : Tk) : tksV [x] = [.string x.1, .string x.2] := by simp [tksV, tkV]

set_option maxRecDepth 100000 in
set_option maxHeartbeats 4000000 in
theorem fields_any (v : Value) (l : List Nat) (w : World) (hr : RowB w v l) (hl : l.length ≤ 100000) :
    Calls Tryd.prog 13 #[v] w (FieldsOut w.heap.size l w) := by
  obtain ⟨i0, hi0, hz0, hz1, hz2⟩ := info_parts info28
  have HI := Lib.hid hi0
  have HB := Lib.hid (fieldsS_bts hr.lt)
  have HLN := Lib.hid (fieldsS_len l)
  have HLE := Lib.hid (fieldsS_le hl)
  have HC := Lib.hid (flds_any v l w hr hl)
  clear hr hi0
  go_enter Tryd.func13, Tryd.ntmps13
  go_wp2_with fail
  refine HC.out.mono ?_
  rintro e w1 ⟨vf, gs, E, rfl, hrow, hfin, hb1⟩
  have hlen := fin2_len _ _ hfin
  have hrd := fin2_read _ _ hfin
  obtain ⟨n, hn⟩ : ∃ n, w.heap.size = n := ⟨_, rfl⟩
  obtain ⟨M, hM⟩ : ∃ M, w1.heap.size = M := ⟨_, rfl⟩
  have hnM : n ≤ M := by rw [← hn, ← hM]; exact hb1.size
  rw [hn] at hb1 ⊢
  rw [hM] at hrd
  rw [hn] at hrow hrd hfin
  obtain ⟨fa, fc, rfl⟩ : ∃ fa fc, vf = .slice fa gs.length fc := by
    rcases hrow.2 with ⟨e, h0⟩ | ⟨g, cap, cur, e, _⟩
    · exact ⟨_, _, by rw [e, h0]⟩
    · exact ⟨_, _, e⟩
  have hcell : ∀ k (h : k < gs.length) (W : World), KeepC M w1 W → ∃ fb, fa = some ⟨fb, 0, none⟩ ∧ W.cell? ⟨fb, k, none⟩ = some (.pointer (some ⟨gs[k], 0, none⟩)) := by
    intro k h W hk
    rcases hrow.2 with ⟨e, h0⟩ | ⟨g, cap, cur, e, hb, hh, h1, h2, h3, h4⟩
    · omega
    · simp only [Value.slice.injEq] at e
      obtain ⟨rfl, -, -⟩ := e
      have hg := (Array.getElem?_eq_some_iff.1 hh).1
      obtain ⟨fz', hh'⟩ := hk.1 g (by omega) _ _ _ hh
      refine ⟨g, rfl, ?_⟩
      rw [cell_of_row W g k cur 52 fz' hh']
      have : (cur.toList.take (gs.length * 1))[k]? = some (.pointer (some ⟨gs[k], 0, none⟩)) := by rw [h4]; simp [ptrs, h]
      rw [List.getElem?_take_of_lt (by omega)] at this
      simpa using this
  have HCELL := Lib.hid hcell
  have HRD := Lib.hid hrd
  have HLEN := Lib.hid hlen
  have HB1 := Lib.hid hb1
  have HM := Lib.hid hM
  have HN := Lib.hid hn
  clear hrow hfin hcell hrd hlen hb1 hM hn HC
  go_wp2_with fail
  go_loopw [3, 9] (fun out i wr => ∃ (k : Nat) (oa : Option Addr) (oc : Nat), k ≤ gs.length ∧ i = .int .i64 k ∧ out = .slice oa k oc ∧ OwnT wr M out (((fieldsS l).take k).map tkOf) ∧ Below n w wr ∧ KeepC M w1 wr) (fun _ i _ => gs.length - (RowKit.intOf i).toNat)
  case atStart => exact ⟨0, none, 0, Nat.zero_le _, rfl, rfl, World.ownsRow_nil _ _ _ _, HB1.out, KeepC.refl _ _⟩
  case round =>
    obtain ⟨k, oa, oc, hk, rfl, rfl, hown, hbel, hkc⟩ := hrel
    by_cases hkl : k < gs.length
    · have hkf : k < (fieldsS l).length := by rw [HLEN.out]; exact hkl
      obtain ⟨fb, rfl, hpc⟩ := HCELL.out k hkl wr hkc
      have hfr := (HRD.out k hkf hkl).keep hkc
      have hbt := HB.out _ (List.getElem_mem hkf)
      have hle := (HLE.out _ (List.getElem_mem hkf)).1
      have hsn := toldS_snoc l k hkf
      have hlnk : (((fieldsS l).take k).map tkOf).length = k := by simp; omega
      have hkn : k + 1 ≤ 100000 := by have := HLN.out; omega
      obtain ⟨g, hg⟩ : ∃ g, gs[k] = g := ⟨_, rfl⟩
      obtain ⟨⟨nm, T, R⟩, hf⟩ : ∃ f, (fieldsS l)[k] = f := ⟨_, rfl⟩
      rw [hg] at hpc hfr
      rw [hf] at hfr hbt hle hsn
      have HSN := Lib.hid hsn
      obtain ⟨pre, hpre⟩ : ∃ pre, ((fieldsS l).take k).map tkOf = pre := ⟨_, rfl⟩
      rw [hpre] at hown hlnk hsn
      have HPRE := Lib.hid hpre
      have hMw : M ≤ wr.heap.size := by have := hkc.2; have := HM.out; omega
      have hname : wr.cell? ⟨g, 0, none⟩ = some (.string nm) := by
        obtain ⟨_, a, v, r, fz, h1, _⟩ := hfr
        exact cell_of_row _ _ 0 _ _ _ h1
      have hgM : g < M := hfr.1.2
      have HFR : Hid (FinR wr.drew (n + 3) M g ⟨nm, T, R⟩) := Lib.hid hfr
      have HLT : Hid (∀ c ∈ T, c < 256) := Lib.hid hbt.1
      have HSZ : Hid ((strT T).size ≤ 9223372036854775807) := Lib.hid (by simp only at hle; simp [strT, ByteArray.size]; omega)
      have HOWN := Lib.hid hown
      have HBEL := Lib.hid hbel
      have HKC := Lib.hid hkc
      have HLK := Lib.hid hlnk
      have hn3 : n + 3 ≤ wr.drew.heap.size := by have := HFR.out.1; show n + 3 ≤ wr.heap.size; omega
      clear hsn hg hf hpre hown hbel hkc hfr hbt hle hlnk
      go_wp2_with fail
      go_region_held3 (fun w' => w'.cell? ⟨g, 0, none⟩ = some (.string nm))
        (first | with_reducible exact kb | with_reducible exact hname | go_keep)
        (first
          | (go_at_call 33; refine (str_any g (n + 3) M ⟨nm, T, R⟩ _ HFR.out hn3 hMw HLT.out).mono ?_; rintro e w2 ⟨rfl, hb2, hk2, ho2⟩; have hown2 : OwnT w2 M (.slice oa k oc) pre := OwnT.keepC (E := M) HOWN.out ho2; have hs2 : wr.heap.size ≤ w2.heap.size := hk2.2; have HO2 := Lib.hid hown2; clear hown2 ho2; have kb : w2.cell? ⟨g, 0, none⟩ = some (.string nm) := (by obtain ⟨_, a, v, r, fz, h1, _⟩ := HFR.out.keep hk2; exact cell_of_row _ _ 0 _ _ _ h1); have hM2 : M ≤ w2.heap.size := Nat.le_trans hMw hk2.2; have HB2 := Lib.hid hb2; have HK2 := Lib.hid hk2; clear hb2 hk2)
          | (go_at_call 32; refine (cut_any (strT T) _ HSZ.out).mono ?_; rintro e w3 ⟨rfl, hb3⟩; have kb : w3.cell? ⟨g, 0, none⟩ = some (.string nm) := (hb3.cell (p := ⟨g, 0, none⟩) (by show g < _; omega)).trans kb; have hs3 := hb3.size; have HB3 := Lib.hid hb3; clear hb3)
          | (refine step_append_lies _ (by rfl) _ _ _ (by rfl) M 28 i0 _ 2 32 Tryd.underlying29 HI.out hz0 hz1 hz2 rfl (by decide) (.slice oa k oc) k (tksV pre) (by rfl) (World.ownsRow.alloc (show w3.ownsRow M 28 2 (.slice oa k oc) k (tksV pre) from by have h := OwnT.below HO2.out HB3.out (Nat.le_refl _); unfold OwnT at h; rw [HLK.out] at h; exact h) _) ⟨w3.heap.size, 0, none⟩ 1 1 [.string nm, .string (cutT T)] (by rfl) (by rfl) (World.news_of_block (cs := #[.string nm, .string (cutT T)]) (t := 28) (fr := (0, 0)) (heap_alloc_new w3 _)) (by simp [Value.oneCell']) (by omega) (by unfold maxLen; omega) (by omega) (by simp; omega) (w3.heap.size + 1) (by simp) ?_; intro gg cap w4 hown4 hgrow hat hlt; have kb : w4.cell? ⟨g, 0, none⟩ = some (.string nm) := (World.cell?_of_block (hgrow.block g (by simp; omega) (fun e => by have := OwnT.ownLe HO2.out _ e.symm; omega))).trans ((((Below.refl w3.heap.size w3).alloc (Nat.le_refl _) (.cells #[.string nm, .string (cutT T)] 28)).cell (p := ⟨g, 0, none⟩) (by show g < _; omega)).trans kb); have HO4 := Lib.hid hown4; have HG4 := Lib.hid hgrow; clear hown4 hgrow hat hlt))
      have HB4 : Hid (Below n w w4) := Lib.hid (by
        have h1 := HB3.out
        have h2 := (HBEL.out.drew.trans (HB2.out.mono (by omega)))
        have h3 := h2.trans (h1.mono (by have := h2.size; omega))
        exact (h3.alloc (by have := h3.size; omega) _).grown HG4.out (by simp; omega) (fun k e => by have := OwnT.ownLe HO2.out _ e; omega))
      have HK4 : Hid (KeepC M w1 w4) := Lib.hid (by
        have h1 := (HKC.out.trans HK2.out).trans (KeepC.below (HB3.out.mono hM2))
        exact h1.trans (KeepC.below (((Below.refl M w3).alloc (by omega) _).grown HG4.out (by simp; omega) (fun k e => OwnT.ownLe HO2.out _ e))))
      go_wp2_with fail
      go_roundw
      case rel =>
        refine ⟨k + 1, _, _, by omega, by go_num, rfl, ?_, HB4.out, HK4.out⟩
        rw [HSN.out, HPRE.out]
        unfold OwnT
        rw [tksV_append, tksV_one, List.length_append, HLK.out]
        exact HO4.out
      case measure => simp [RowKit.intOf]; omega
    · obtain rfl : k = gs.length := by omega
      have ht : ((fieldsS l).take gs.length).map tkOf = toldS l := by rw [List.take_of_length_le (by rw [HLEN.out]; exact Nat.le_refl _)]; rfl
      rw [ht] at hown
      have HOWN := Lib.hid hown
      clear hown ht
      go_wp2_with fail
      go_ret
      exact ⟨_, rfl, HOWN.out.base (by rw [HN.out]; exact hnM), by rw [HN.out]; exact hbel⟩
end Go.Proofs.YtlfdcocaedeneaaDoor
