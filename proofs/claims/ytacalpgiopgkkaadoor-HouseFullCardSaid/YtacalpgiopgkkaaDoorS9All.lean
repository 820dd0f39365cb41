/-
  All: flags folded and sorted, each once.
-/
import Derived.Test.YtacalpgiopgkkaaDoorS9Hide
namespace Go.Proofs.YtacalpgiopgkkaaDoor
namespace S9
set_option linter.unusedVariables false
open Go.RowKit

theorem folds_snoc {T S : List Tx} {x t : Tx} (h : foldsL T = some S) (hx : foldF x = some t) : foldsL (T ++ [x]) = some (S ++ [t]) := by
  unfold foldsL at h ⊢
  rw [List.mapM_append, h]
  simp [hx]
theorem folds_small {T S : List Tx} (h : foldsL T = some S) : ∀ t ∈ S, t.length ≤ 140737488351232 := by
  intro t ht
  obtain ⟨l, _, e⟩ := (folds_mem h t).1 ht
  have := foldF_len e
  omega
/-- what All answers, in memory -/
def AllIs (w w' : World) (r : AllR) (o : Value) (code : Int) : Prop := match r with
  | .form => o = .slice none 0 0 ∧ code = 9
  | .long => o = .slice none 0 0 ∧ code = 10
  | .ok S => OwnT w' w.heap.size o S ∧ code = 0
theorem setT_ne {S : List Tx} (h : S ≠ []) : setT S ≠ [] := by
  intro e
  obtain ⟨a, r, rfl⟩ := List.exists_cons_of_ne_nil h
  have : a ∈ setT (a :: r) := mem_setT.2 List.mem_cons_self
  rw [e] at this
  cases this
theorem sortT_len (S : List Tx) : (sortT S).length = S.length := List.length_mergeSort ..
theorem setT_len (S : List Tx) : (setT S).length ≤ S.length := by
  have := compact_le (sortT S)
  rw [sortT_len] at this
  exact this

set_option maxRecDepth 100000 in
set_option maxHeartbeats 4000000 in
theorem all_any (v : Value) (T : List Tx) (w : World) (hr : RowT w v T) (h0 : T ≠ []) (hn : T.length ≤ 1000) (hsz : ∀ t ∈ T, t.length ≤ 140737488351232) :
    Calls Tryd.prog 21 #[v] w fun e w' => ∃ o code, e = .returned (.tuple #[o, .int .i64 code]) ∧ AllIs w w' (allR T) o code ∧ Below w.heap.size w w' := by
  obtain ⟨b, off, a, cap, rfl, hc, hm, ha, hcell⟩ := hr.shape
  obtain ⟨n, hN⟩ : ∃ n, T.length = n := ⟨_, rfl⟩
  have HN := Lib.hid hN
  have HA := Lib.hid ha
  have HC := Lib.hid hcell
  have HZ := Lib.hid hsz
  have H0 := Lib.hid h0
  rw [hN] at hn hc ⊢
  clear hr ha hcell hsz hN h0
  unfold maxLen at hm
  go_enter Tryd.func21, Tryd.ntmps21
  go_wp2_with fail
  go_loopw [4, 11] (fun s4 i wr => ∃ (k : Nat) (S : List Tx), i = .int .i64 k ∧ k ≤ n ∧ Hid (foldsL (T.take k) = some S) ∧ Hid (S.length = k) ∧ OwnT wr w.heap.size s4 S ∧ Below w.heap.size w wr) (fun _ i _ => n - (RowKit.intOf i).toNat)
  case atStart => exact ⟨0, [], rfl, by omega, Lib.hid rfl, Lib.hid rfl, ownT_nil _ _, Below.refl _ _⟩
  case round =>
    obtain ⟨k, S, rfl, hk, HS, HSL, hown, hbw⟩ := hrel
    have HOWN := Lib.hid hown
    have HBW := Lib.hid hbw
    clear hown hbw
    by_cases hkn : k < n
    · have hkz : (k : Int) < (n : Int) := by omega
      have hkT : k < T.length := by rw [HN.out]; exact hkn
      obtain ⟨rfl, hbs⟩ := HA.out (by omega)
      have hcl : wr.cell? ⟨b, off + k, none⟩ = some (.string (strL T[k])) := (HBW.out.cell (p := ⟨b, off + k, none⟩) hbs).trans (HC.out k hkT)
      have HMK := Lib.hid (flag_any T[k] (HZ.out _ (List.getElem_mem hkT)))
      obtain ⟨s, hs⟩ : ∃ s, strL T[k] = s := ⟨_, rfl⟩
      rw [hs] at hcl HMK
      clear hs
      cases hmk : foldF T[k] with
      | none =>
        have HR : Hid (allR T = .form) := Lib.hid (by unfold allR; rw [folds_none.2 ⟨_, List.getElem_mem hkT, hmk⟩])
        rw [hmk] at HMK
        unfold foldV at HMK
        clear hmk
        go_wp2_with fail
        refine (HMK.out _).mono ?_
        rintro e w3 ⟨rfl, hb3⟩
        have HB3 := Lib.hid (HBW.out.trans (hb3.mono HBW.out.size))
        clear hb3
        go_wp2_with fail
        exact bodyPost_ret (v := .tuple #[.slice none 0 0, .int .i64 9]) (by simp [results, Tryd.results21, go_sem]) rfl ⟨_, _, rfl, by rw [HR.out]; exact ⟨rfl, rfl⟩, HB3.out⟩
      | some t =>
        have HH : Hid (foldsL (T.take (k + 1)) = some (S ++ [t])) := Lib.hid (by rw [take_snoc hkT]; exact folds_snoc HS.out hmk)
        rw [hmk] at HMK
        unfold foldV at HMK
        obtain ⟨f, hf⟩ : ∃ f, strL t = f := ⟨_, rfl⟩
        simp only [hf] at HMK
        have HF := Lib.hid hf
        clear hmk hf
        go_wp2_with fail
        refine (HMK.out _).mono ?_
        rintro e w3 ⟨rfl, hb3⟩
        have HB3 := Lib.hid (HBW.out.trans (hb3.mono HBW.out.size))
        have HOW3 := Lib.hid (HOWN.out.below hb3)
        clear hb3
        go_wp2_with (at_builtin
                     refine appT rfl (.tmp 23) (.tmp 25) rfl HOW3.out HB3.out HB3.out.size rfl rfl HF.out.symm (by have := HSL.out; omega) ?_
                     intro o4 w4 ho4 hb4
                     have HO4 := Lib.hid ho4
                     have HB4 := Lib.hid hb4
                     clear ho4 hb4)
        go_roundw
        case rel => exact ⟨k + 1, S ++ [t], by simp, by omega, HH, Lib.hid (by rw [List.length_append, HSL.out]; rfl), HO4.out, HB4.out⟩
        case measure => simp [RowKit.intOf]; omega
    · have hkz : ¬ ((k : Int) < (n : Int)) := by omega
      have he : T.take k = T := List.take_of_length_le (by rw [HN.out]; omega)
      rw [he] at HS
      have hk2 : k = n := by omega
      have hS0 : S ≠ [] := fun e => H0.out (List.length_eq_zero_iff.1 (by have := HSL.out; rw [e] at this; have := HN.out; simp_all))
      have HS0 := Lib.hid hS0
      clear he hk2 hS0
      go_wp2_with fail
      refine (sort_own HOWN.out HS0.out (by have := HSL.out; omega)).mono ?_
      rintro e w3 ⟨rfl, ho3, hb3⟩
      have HO3 := Lib.hid ho3
      have HB3 := Lib.hid (HBW.out.trans hb3)
      clear ho3 hb3
      go_wp2_with fail
      refine (compact_own HO3.out (by intro e; have := sortT_len S; rw [e] at this; exact HS0.out (List.length_eq_zero_iff.1 this.symm)) (by have := HSL.out; rw [sortT_len]; omega)).mono ?_
      rintro e w4 ⟨o4, rfl, ho4, hb4⟩
      have HO4 : Hid (OwnT w4 w.heap.size o4 (setT S)) := Lib.hid ho4
      have HB4 := Lib.hid (HB3.out.trans hb4)
      clear ho4 hb4
      go_wp2_with fail
      refine (few_any o4 (setT S) _ HO4.out.row (by have := setT_len S; have := HSL.out; omega) (fun t ht => folds_small HS.out t (mem_setT.1 ht))).mono ?_
      rintro e w5 ⟨rfl, hb5⟩
      have HO5 := Lib.hid (HO4.out.below hb5)
      have HB5 := Lib.hid (HB4.out.trans (hb5.mono HB4.out.size))
      clear hb5
      cases hfw : fewL (setT S) with
      | true =>
        have HR : Hid (allR T = .ok (setT S)) := Lib.hid (by unfold allR; rw [HS.out]; simp only [hfw, if_true])
        clear hfw
        go_wp2_with fail
        exact bodyPost_ret (v := .tuple #[o4, .int .i64 0]) (by simp [results, Tryd.results21, go_sem]) rfl ⟨_, _, rfl, by rw [HR.out]; exact ⟨HO5.out, rfl⟩, HB5.out⟩
      | false =>
        have HR : Hid (allR T = .long) := Lib.hid (by unfold allR; rw [HS.out]; simp [hfw])
        clear hfw
        go_wp2_with fail
        exact bodyPost_ret (v := .tuple #[.slice none 0 0, .int .i64 10]) (by simp [results, Tryd.results21, go_sem]) rfl ⟨_, _, rfl, by rw [HR.out]; exact ⟨rfl, rfl⟩, HB5.out⟩
end S9
end Go.Proofs.YtacalpgiopgkkaaDoor
