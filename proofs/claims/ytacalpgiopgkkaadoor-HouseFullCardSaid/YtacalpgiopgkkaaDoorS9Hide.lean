/-
  Hide, few and All.
-/
import Derived.Test.YtacalpgiopgkkaaDoorS9Marks
import Derived.Test.YtacalpgiopgkkaaDoorS9Txt
namespace Go.Proofs.YtacalpgiopgkkaaDoor
namespace S9
set_option linter.unusedVariables false
open Go.RowKit

theorem take_snoc {T : List Tx} {k : Nat} (hk : k < T.length) : T.take (k + 1) = T.take k ++ [T[k]] := List.take_succ_eq_append_getElem hk
theorem hideL_yes {T : List Tx} {k : Nat} (hk : k < T.length) (h : marksL T[k] = false) : hideL (T.take (k + 1)) = hideL (T.take k) ++ [T[k]] := by
  unfold hideL
  rw [take_snoc hk, List.filter_append]
  simp [h]
theorem hideL_no {T : List Tx} {k : Nat} (hk : k < T.length) (h : marksL T[k] = true) : hideL (T.take (k + 1)) = hideL (T.take k) := by
  unfold hideL
  rw [take_snoc hk, List.filter_append]
  simp [h]
theorem hideL_len (T : List Tx) : (hideL T).length ≤ T.length := List.length_filter_le _ _

set_option maxRecDepth 100000 in
set_option maxHeartbeats 4000000 in
theorem hide_any (v : Value) (T : List Tx) (w : World) (hr : RowT w v T) (hn : T.length ≤ 1000) (hsz : ∀ t ∈ T, t.length ≤ 140737488351232) :
    Calls Tryd.prog 51 #[v] w fun e w' => ∃ o, e = .returned o ∧ OwnT w' w.heap.size o (hideL T) ∧ Below w.heap.size w w' := by
  obtain ⟨b, off, a, cap, rfl, hc, hm, ha, hcell⟩ := hr.shape
  obtain ⟨n, hN⟩ : ∃ n, T.length = n := ⟨_, rfl⟩
  have HN := Lib.hid hN
  have HA := Lib.hid ha
  have HC := Lib.hid hcell
  have HZ := Lib.hid hsz
  rw [hN] at hn hc ⊢
  clear hr ha hcell hsz hN
  unfold maxLen at hm
  go_enter Tryd.func51, Tryd.ntmps51
  go_wp2_with fail
  go_loopw [3, 8] (fun s3 i wr => ∃ k : Nat, i = .int .i64 k ∧ k ≤ n ∧ OwnT wr w.heap.size s3 (hideL (T.take k)) ∧ Below w.heap.size w wr) (fun _ i _ => n - (RowKit.intOf i).toNat)
  case atStart => exact ⟨0, rfl, by omega, ownT_nil _ _, Below.refl _ _⟩
  case round =>
    obtain ⟨k, rfl, hk, hown, hbw⟩ := hrel
    have HOWN := Lib.hid hown
    have HBW := Lib.hid hbw
    clear hown hbw
    by_cases hkn : k < n
    · have hkz : (k : Int) < (n : Int) := by omega
      have hkT : k < T.length := by rw [HN.out]; exact hkn
      obtain ⟨rfl, hbs⟩ := HA.out (by omega)
      have hcl : wr.cell? ⟨b, off + k, none⟩ = some (.string (strL T[k])) := (HBW.out.cell (p := ⟨b, off + k, none⟩) hbs).trans (HC.out k hkT)
      have HMK := Lib.hid (marks_any T[k] (HZ.out _ (List.getElem_mem hkT)))
      obtain ⟨s, hs⟩ : ∃ s, strL T[k] = s := ⟨_, rfl⟩
      rw [hs] at hcl HMK
      have HS := Lib.hid hs
      clear hs
      cases hmk : marksL T[k] with
      | true =>
        have HH := Lib.hid (hideL_no hkT hmk)
        rw [hmk] at HMK
        clear hmk
        go_wp2_with fail
        refine (HMK.out _).mono ?_
        rintro e w3 ⟨rfl, hb3⟩
        have HB3 := Lib.hid (HBW.out.trans (hb3.mono HBW.out.size))
        have HOW3 := Lib.hid (HOWN.out.below hb3)
        clear hb3
        go_wp2_with fail
        go_roundw
        case rel => exact ⟨k + 1, by simp, by omega, by rw [HH.out]; exact HOW3.out, HB3.out⟩
        case measure => simp [RowKit.intOf]; omega
      | false =>
        have HH := Lib.hid (hideL_yes hkT hmk)
        rw [hmk] at HMK
        clear hmk
        go_wp2_with fail
        refine (HMK.out _).mono ?_
        rintro e w3 ⟨rfl, hb3⟩
        have HB3 := Lib.hid (HBW.out.trans (hb3.mono HBW.out.size))
        have HOW3 := Lib.hid (HOWN.out.below hb3)
        clear hb3
        go_wp2_with (at_builtin
                     refine appT rfl (.tmp 15) (.tmp 17) rfl HOW3.out HB3.out HB3.out.size rfl rfl HS.out.symm (by have := hideL_len (T.take k); simp at this; omega) ?_
                     intro o4 w4 ho4 hb4
                     have HO4 := Lib.hid ho4
                     have HB4 := Lib.hid hb4
                     clear ho4 hb4)
        go_roundw
        case rel => exact ⟨k + 1, by simp, by omega, by rw [HH.out]; exact HO4.out, HB4.out⟩
        case measure => simp [RowKit.intOf]; omega
    · have hkz : ¬ ((k : Int) < (n : Int)) := by omega
      have he : T.take k = T := List.take_of_length_le (by rw [HN.out]; omega)
      rw [he] at HOWN
      clear he
      go_wp2_with fail
      go_ret
      exact ⟨_, rfl, HOWN.out, HBW.out⟩
theorem few_any (v : Value) (T : List Tx) (w : World) (hr : RowT w v T) (hn : T.length ≤ 1000) (hsz : ∀ t ∈ T, t.length ≤ 140737488351232) :
    Calls Tryd.prog 35 #[v] w fun e w' => e = .returned (.bool (fewL T)) ∧ Below w.heap.size w w' := by
  have HH := Lib.hid (hide_any v T w hr hn hsz)
  clear hr hsz
  go_enter Tryd.func35, Tryd.ntmps35
  go_wp2_with fail
  refine HH.out.mono ?_
  rintro e w1 ⟨o, rfl, ho, hb⟩
  obtain ⟨oa, oc, rfl, _⟩ := owns_shape ho
  have hf : decide (((hideL T).length : Int) ≤ 16) = fewL T := by unfold fewL; rw [Bool.eq_iff_iff]; simp; omega
  have HB := Lib.hid hb
  clear ho hb
  generalize (hideL T).length = m at *
  go_wp2_with fail
  go_ret
  exact ⟨by rw [← hf]; first | done | rfl, HB.out⟩
end S9
end Go.Proofs.YtacalpgiopgkkaaDoor
