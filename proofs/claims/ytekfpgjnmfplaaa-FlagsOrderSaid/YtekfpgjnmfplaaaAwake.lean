/-
  The law's first line: Do adds flags.
-/
import Derived.Test.YtekfpgjnmfplaaaAll
import Derived.Laws.EntriesVeiled
namespace Go.Proofs.Ytekfpgjnmfplaaa
set_option linter.unusedVariables false
open Go.RowKit

theorem step_runT {ops : Array Oper} {o : Oper} {a : Act} {K : Act → World → Prop} {Q : Exit → Act → World → Prop} {E : Prop} {w : World} (hgd : o.guard = none) (s x : Operand) (t : TypeId)
    (ho : o.op = .call { callee := .builtin .append, args := #[s, x], argTypes := #[t, t] }) {v y : Value} (hs : a.eval s = v) (hx : a.eval x = y) {R : Value → World → Prop}
    (hr : ∃ v' w', (Builtin.append_ #[t, t] o.type #[v, y]).run Try.prog w = .ok v' w' ∧ R v' w') (h : ∀ v' w', R v' w' → K (a.put o.dst v') w') :
    if Region.wanted o (yielded ops a.tmps) = true then Oper.wp Try.prog o a w K Q else E := by
  have hw : Region.wanted o (yielded ops a.tmps) = true := by simp [Region.wanted, hgd]
  rw [if_pos hw]
  obtain ⟨v', w', hr, hR⟩ := hr
  unfold Oper.wp
  simp [execOp, ho, resolve, invoke, builtin, hs, hx, hr, Result.andThen]
  exact h v' w' hR

set_option maxRecDepth 100000 in
set_option maxHeartbeats 4000000 in
theorem add_any (hv wv : Value) (H W : List Tx) (w : World) (hh : RowT w hv H) (hw : RowT w wv W) (hn : H.length ≤ 1000) (wn : W.length ≤ 1000) (hsz : ∀ t ∈ W, t.length ≤ 140737488351232) :
    Calls Try.prog 17 #[.agg #[hv, wv]] w fun e w' => ∃ o, e = .returned o ∧ OwnT w' w.heap.size o (hideL W ++ H) ∧ Below w.heap.size w w' := by
  obtain ⟨ha, hc, rfl, -⟩ := id hh
  obtain ⟨wa, wc, rfl, -⟩ := id hw
  have HH := Lib.hid hh
  have HW := Lib.hid hw
  have HZ := Lib.hid hsz
  clear hh hw hsz
  go_enter Try.func17, Try.ntmps17
  go_wp2_with fail
  have hb0 := (Below.refl w.heap.size w).alloc (Nat.le_refl _) (.cells #[.slice ha H.length hc, .slice wa W.length wc] 45)
  have hrow : (w.alloc (.cells #[.slice ha H.length hc, .slice wa W.length wc] 45)).heap[w.heap.size]? = some (.cells #[.slice ha H.length hc, .slice wa W.length wc] 45 (0, 0)) := heap_alloc_new w _
  have hg : w.heap.size < (w.alloc (.cells #[.slice ha H.length hc, .slice wa W.length wc] 45)).heap.size := by simp
  have HB0 := Lib.hid hb0
  have HRW := Lib.hid hrow
  generalize w.alloc (.cells #[.slice ha H.length hc, .slice wa W.length wc] 45) = w1 at *
  have hkeep : ∀ V, Below w1.heap.size w1 V → V.cell? ⟨w.heap.size, 0, none⟩ = some (.slice ha H.length hc) ∧ V.cell? ⟨w.heap.size, 1, none⟩ = some (.slice wa W.length wc) := fun V h =>
    ⟨(h.cell (p := ⟨w.heap.size, 0, none⟩) hg).trans (cell_of_row _ _ 0 _ _ _ HRW.out), (h.cell (p := ⟨w.heap.size, 1, none⟩) hg).trans (cell_of_row _ _ 1 _ _ _ HRW.out)⟩
  have HKP := Lib.hid hkeep
  have h0 := hkeep _ ((Below.refl _ _).drew)
  clear hkeep hb0 hrow
  go_region_held3 (fun V => V.cell? ⟨w.heap.size, 0, none⟩ = some (.slice ha H.length hc) ∧ V.cell? ⟨w.heap.size, 1, none⟩ = some (.slice wa W.length wc))
    (first | with_reducible exact kb | with_reducible exact h0 | go_keep)
    (first
      | (go_at_call 25; refine (hide_any _ W _ ((HW.out.below HB0.out).below ((Below.refl _ _).drew)) wn HZ.out).mono ?_; rintro e w2 ⟨o2, rfl, ho2, hb2⟩; have HO2 := Lib.hid ho2; have HB2 : Hid (Below w1.heap.size w1 w2) := Lib.hid ((Below.refl _ _).drew.trans hb2); have kb := HKP.out _ HB2.out; clear ho2 hb2)
      | (refine step_runT (by rfl) _ _ _ (by rfl) (by rfl) (by rfl) (run_appT 22 HO2.out HB2.out.size (HH.out.below ((HB0.out.trans (HB2.out.mono HB0.out.size)))) (by have := hideL_len W; omega)) ?_; rintro o3 w3 ⟨ho3, hb3⟩; have HO3 := Lib.hid ho3; have HB3 := Lib.hid hb3; have kb : w3.cell? ⟨w.heap.size, 0, none⟩ = some (.slice ha H.length hc) ∧ w3.cell? ⟨w.heap.size, 1, none⟩ = some (.slice wa W.length wc) := HKP.out _ (HB2.out.trans hb3); clear ho3 hb3))
  all_goals
    go_wp2_with fail
    go_ret
    exact ⟨_, rfl, HO3.out.mono (by show _ ≤ w1.heap.size; omega), HB0.out.trans ((HB2.out.trans HB3.out).mono (by omega))⟩

set_option maxRecDepth 100000 in
set_option maxHeartbeats 4000000 in
/-- Do adds flags -/
theorem do_add (hv lv : Value) (H L H' L' : List Tx) (w : World) (hh : RowT w hv H) (hl : RowT w lv L) (h0 : H ≠ []) (l0 : L ≠ []) (hn : H.length ≤ 500) (ln : L.length ≤ 500) (hsz : ∀ t ∈ H, t.length ≤ 140737488351232) (lsz : ∀ t ∈ L, t.length ≤ 140737488351232)
    (hH : allR H = .ok H') (hL : allR L = .ok L') (h0' : H' ≠ []) (hn' : H'.length ≤ 500) (ln' : L'.length ≤ 500) (hsz' : ∀ t ∈ H', t.length ≤ 140737488351232) (lsz' : ∀ t ∈ L', t.length ≤ 140737488351232)
    (hf : fewL (setT (hideL L' ++ H')) = true) :
    Calls Try.prog 9 #[.int .i64 2, hv, lv] w fun e w' => ∃ o, e = .returned (.tuple #[o, .int .i64 0]) ∧ OwnT w' w.heap.size o (setT (hideL L' ++ H')) ∧ Below w.heap.size w w' := by
  have hne : hideL L' ++ H' ≠ [] := by simp [h0']
  have hle : (hideL L' ++ H').length ≤ 1000 := by have := hideL_len L'; rw [List.length_append]; omega
  have hss : ∀ t ∈ hideL L' ++ H', t.length ≤ 140737488351232 := fun t ht => by
    rcases List.mem_append.1 ht with h | h
    · exact lsz' t (List.mem_filter.1 h).1
    · exact hsz' t h
  have HHR := Lib.hid hh
  have HLR := Lib.hid hl
  have HA := Lib.hid (fun (V : World) (hb : Below w.heap.size w V) => all_any hv H V (hh.below hb) h0 (by omega) hsz)
  have LA := Lib.hid (fun (V : World) (hb : Below w.heap.size w V) => all_any lv L V (hl.below hb) l0 (by omega) lsz)
  have HD := Lib.hid (fun (V : World) (a b : Value) (ha : RowT V a H') (hb : RowT V b L') => add_any a b H' L' V ha hb (by omega) (by omega) lsz')
  have HNE := Lib.hid hne
  have HLE := Lib.hid hle
  have HSS := Lib.hid hss
  have HF := Lib.hid hf
  rw [hH] at HA
  rw [hL] at LA
  unfold AllIs at HA LA
  clear hh hl h0 l0 hn ln hsz lsz hH hL h0' hn' ln' hsz' lsz' hf hne hle hss
  go_enter Try.func9, Try.ntmps9
  go_wp2_with fail
  have hal := (Below.refl w.heap.size w).alloc (Nat.le_refl _) (.cells #[.nilFunc, .func (.func 16) #[] #[], .func (.func 17) #[] #[], .func (.func 18) #[] #[]] 46)
  have hrow : (w.alloc (.cells #[.nilFunc, .func (.func 16) #[] #[], .func (.func 17) #[] #[], .func (.func 18) #[] #[]] 46)).heap[w.heap.size]? = some (.cells #[.nilFunc, .func (.func 16) #[] #[], .func (.func 17) #[] #[], .func (.func 18) #[] #[]] 46 (0, 0)) := heap_alloc_new w _
  have hg : w.heap.size < (w.alloc (.cells #[.nilFunc, .func (.func 16) #[] #[], .func (.func 17) #[] #[], .func (.func 18) #[] #[]] 46)).heap.size := by simp
  have HB0 := Lib.hid hal
  have hc : (w.alloc (.cells #[.nilFunc, .func (.func 16) #[] #[], .func (.func 17) #[] #[], .func (.func 18) #[] #[]] 46)).cell? ⟨w.heap.size, 2, none⟩ = some (.func (.func 17) #[] #[]) := cell_of_row _ _ 2 _ _ _ hrow
  have HC0 := Lib.hid hc
  clear hal hrow hc
  generalize w.alloc (.cells #[.nilFunc, .func (.func 16) #[] #[], .func (.func 17) #[] #[], .func (.func 18) #[] #[]] 46) = w1 at *
  refine (LA.out _ HB0.out).mono ?_
  rintro e w2 ⟨o2, c2, rfl, ⟨ho2, rfl⟩, hb2⟩
  have HO2 := Lib.hid ho2
  obtain ⟨oa2, oc2, rfl, _⟩ := owns_shape ho2
  have HB2 := Lib.hid (HB0.out.trans (hb2.mono HB0.out.size))
  have HC2 := Lib.hid ((hb2.cell (p := ⟨w.heap.size, 2, none⟩) hg).trans HC0.out)
  have hg2 : w.heap.size < w2.heap.size := by have := hb2.size; omega
  clear ho2 hb2 HC0
  go_wp2_with fail
  refine (HA.out _ HB2.out).mono ?_
  rintro e w3 ⟨o3, c3, rfl, ⟨ho3, rfl⟩, hb3⟩
  have HO3 := Lib.hid ho3
  obtain ⟨oa3, oc3, rfl, _⟩ := owns_shape ho3
  have HO2' := Lib.hid (HO2.out.below hb3)
  have HB3 := Lib.hid (HB2.out.trans (hb3.mono HB2.out.size))
  have hc3 := (hb3.cell (p := ⟨w.heap.size, 2, none⟩) hg2).trans HC2.out
  clear ho3 hb3 HC2
  go_wp2_with fail
  refine (HD.out _ _ _ HO3.out.row HO2'.out.row).mono ?_
  rintro e w4 ⟨o4, rfl, ho4, hb4⟩
  have HO4 : Hid (OwnT w4 w.heap.size o4 (hideL L' ++ H')) := Lib.hid (ho4.mono HB3.out.size)
  have HB4 := Lib.hid (HB3.out.trans (hb4.mono HB3.out.size))
  clear ho4 hb4 hc3
  go_wp2_with fail
  refine (sort_own HO4.out HNE.out (by have := HLE.out; omega)).mono ?_
  rintro e w5 ⟨rfl, ho5, hb5⟩
  have HO5 := Lib.hid ho5
  have HB5 := Lib.hid (HB4.out.trans hb5)
  clear ho5 hb5
  go_wp2_with fail
  refine (compact_own HO5.out (by intro e; have := sortT_len (hideL L' ++ H'); rw [e] at this; exact HNE.out (List.length_eq_zero_iff.1 this.symm)) (by have := HLE.out; rw [sortT_len]; omega)).mono ?_
  rintro e w6 ⟨o6, rfl, ho6, hb6⟩
  have HO6 : Hid (OwnT w6 w.heap.size o6 (setT (hideL L' ++ H'))) := Lib.hid ho6
  have HB6 := Lib.hid (HB5.out.trans hb6)
  clear ho6 hb6
  go_wp2_with fail
  refine (few_any o6 _ _ HO6.out.row (by have := setT_len (hideL L' ++ H'); have := HLE.out; omega) (fun t ht => HSS.out t (mem_setT.1 ht))).mono ?_
  rintro e w7 ⟨rfl, hb7⟩
  rw [HF.out]
  have HO7 := Lib.hid (HO6.out.below hb7)
  have HB7 := Lib.hid (HB6.out.trans (hb7.mono HB6.out.size))
  clear hb7
  go_wp2_with fail
  exact bodyPost_ret (v := .tuple #[o6, .int .i64 0]) (by simp [results, Try.results9, go_sem]) rfl ⟨_, rfl, HO7.out, HB7.out⟩

def seenB : Tx := [92, 83, 101, 101, 110]
def fooB : Tx := [102, 111, 111]
theorem setT_is {S A : List Tx} (hA : A.Pairwise (fun a b => a < b)) (h : ∀ x, x ∈ S ↔ x ∈ A) : setT S = A := rises_eq (setT_rises S) hA fun x => by rw [mem_setT]; exact h x
theorem set_one : setT [seenB] = [seenB] := setT_is (by simp) (fun x => Iff.rfl)
theorem set_two : setT [fooB, seenB] = [seenB, fooB] := setT_is (by simp only [List.pairwise_cons]; refine ⟨fun a ha => ?_, by simp⟩; simp at ha; subst ha; decide +kernel) (fun x => by simp [or_comm])
theorem all_one : allR [seenB] = .ok [seenB] := by
  unfold allR
  rw [show foldsL [seenB] = some [seenB] by decide +kernel]
  simp only [set_one]
  rw [show fewL [seenB] = true by decide +kernel]
  rfl
theorem all_two : allR [[70, 111, 111], [92, 83, 69, 69, 78]] = .ok [seenB, fooB] := by
  unfold allR
  rw [show foldsL [[70, 111, 111], [92, 83, 69, 69, 78]] = some [fooB, seenB] by decide +kernel]
  simp only [set_two]
  rw [show fewL [seenB, fooB] = true by decide +kernel]
  rfl
theorem set_three : setT (hideL [seenB, fooB] ++ [seenB]) = [seenB, fooB] := by
  rw [show hideL [seenB, fooB] = [seenB, fooB] by decide +kernel]
  exact setT_is (by simp only [List.pairwise_cons]; refine ⟨fun a ha => ?_, by simp⟩; simp at ha; subst ha; decide +kernel) (fun x => by
    simp only [List.cons_append, List.nil_append, List.mem_cons, List.not_mem_nil, or_false]
    constructor
    · rintro (h | h | h)
      · exact .inl h
      · exact .inr h
      · exact .inl h
    · rintro (h | h)
      · exact .inl h
      · exact .inr (.inl h))

set_option maxRecDepth 100000 in
set_option maxHeartbeats 4000000 in
theorem awake_any (w : World) : Calls Try.prog 4 #[] w fun e w' => e = .returned (.bool true) ∧ Below w.heap.size w w' := by
  go_enter Try.func4, Try.ntmps4
  go_wp2_with fail
  have ho1 : OwnT (w.alloc (.cells #[.string ⟨#[92, 83, 101, 101, 110]⟩] 9)) w.heap.size (.slice (some ⟨w.heap.size, 0, none⟩) 1 1) [seenB] := World.ownsRow_lit (e := 9) (size := 1) w #[.string ⟨#[92, 83, 101, 101, 110]⟩] 1 (Nat.le_refl _) (by decide) rfl
  have ho2 : OwnT ((w.alloc (.cells #[.string ⟨#[92, 83, 101, 101, 110]⟩] 9)).alloc (.cells #[.string ⟨#[70, 111, 111]⟩, .string ⟨#[92, 83, 69, 69, 78]⟩] 9)) (w.heap.size + 1) (.slice (some ⟨w.heap.size + 1, 0, none⟩) 2 2) [[70, 111, 111], [92, 83, 69, 69, 78]] := by
    have := World.ownsRow_lit (e := 9) (size := 1) (base := w.heap.size + 1) (w.alloc (.cells #[.string ⟨#[92, 83, 101, 101, 110]⟩] 9)) #[.string ⟨#[70, 111, 111]⟩, .string ⟨#[92, 83, 69, 69, 78]⟩] 2 (by simp) (by decide) rfl
    simp only [World.size_alloc] at this
    exact this
  have hb0 := ((Below.refl w.heap.size w).alloc (Nat.le_refl _) (.cells #[.string ⟨#[92, 83, 101, 101, 110]⟩] 9)).alloc (by simp) (.cells #[.string ⟨#[70, 111, 111]⟩, .string ⟨#[92, 83, 69, 69, 78]⟩] 9)
  have ho1' := ho1.below (w' := (w.alloc (.cells #[.string ⟨#[92, 83, 101, 101, 110]⟩] 9)).alloc (.cells #[.string ⟨#[70, 111, 111]⟩, .string ⟨#[92, 83, 69, 69, 78]⟩] 9)) ((Below.refl _ _).alloc (Nat.le_refl _) _)
  have HB0 := Lib.hid hb0
  have hr1 := ho1'.row
  have hr2 := ho2.row
  clear hb0 ho1 ho2 ho1'
  generalize (w.alloc (.cells #[.string ⟨#[92, 83, 101, 101, 110]⟩] 9)).alloc (.cells #[.string ⟨#[70, 111, 111]⟩, .string ⟨#[92, 83, 69, 69, 78]⟩] 9) = w1 at *
  have hsm : ∀ (T : List Tx), (∀ t ∈ T, t.length ≤ 10) → ∀ t ∈ T, t.length ≤ 140737488351232 := fun T h t ht => by have := h t ht; omega
  refine (do_add _ _ [seenB] [[70, 111, 111], [92, 83, 69, 69, 78]] [seenB] [seenB, fooB] w1 hr1 hr2 (by simp) (by simp) (by simp) (by simp) (hsm _ (by decide)) (hsm _ (by decide)) all_one all_two (by simp) (by simp) (by simp) (hsm _ (by decide)) (hsm _ (by decide)) (by rw [set_three]; decide +kernel)).mono ?_
  rintro e w2 ⟨o, rfl, ho, hb2⟩
  rw [set_three] at ho
  have HB2 := Lib.hid (HB0.out.trans (hb2.mono HB0.out.size))
  clear hb2 hr1 hr2 hsm
  obtain ⟨g, cap, cur, rfl, -, hh, -, -, hcs, htk⟩ := ho.block (by simp)
  have q0 : w2.cell? ⟨g, 0, none⟩ = some (.string ⟨#[92, 83, 101, 101, 110]⟩) := World.ownsRow.cellAt ho 0 (by simp)
  have q1 : w2.cell? ⟨g, 1, none⟩ = some (.string ⟨#[102, 111, 111]⟩) := World.ownsRow.cellAt ho 1 (by simp)
  rw [show ([seenB, fooB] : List Tx).length = 2 from rfl] at *
  clear ho hh hcs htk
  go_wp2_with fail
  go_ret
  exact ⟨by first | done | rfl, HB2.out⟩
end Go.Proofs.Ytekfpgjnmfplaaa
