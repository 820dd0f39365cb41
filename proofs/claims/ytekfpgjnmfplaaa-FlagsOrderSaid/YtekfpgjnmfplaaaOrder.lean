/-
  The walk of FlagsOrder.
-/
import Derived.Test.YtekfpgjnmfplaaaLawA
import Derived.BigRegion
import Derived.Sort.Walk0
namespace Go.Proofs.Ytekfpgjnmfplaaa
set_option linter.unusedVariables false
open Go.RowKit

theorem modn (x : Int) (n : Nat) (h0 : 0 < n) (hn : n ≤ 60) : ∃ k : Nat, k < n ∧ wrap64 ((IntKind.u64.wrap x).tmod (n : Int)) = (k : Int) := by
  have h0' : 0 ≤ IntKind.u64.wrap x := by rw [IntKind.wrap_u64]; exact Int.emod_nonneg _ (by decide)
  generalize IntKind.u64.wrap x = y at *
  rw [Int.tmod_eq_emod_of_nonneg h0']
  have h1 : 0 ≤ y % (n : Int) := Int.emod_nonneg _ (by omega)
  have h2 : y % (n : Int) < (n : Int) := Int.emod_lt_of_pos _ (by omega)
  generalize y % (n : Int) = z at *
  refine ⟨z.toNat, by omega, ?_⟩
  unfold wrap64
  omega
theorem RowT.drop {w : World} {b off n cap : Nat} {L : List Tx} (h : RowT w (.slice (some ⟨b, off, none⟩) n cap) L) (hn : L.length = n) (k : Nat) (hk : k < n) : RowT w (.slice (some ⟨b, off + k, none⟩) (n - k) (cap - k)) (L.drop k) := by
  obtain ⟨a, c, hv, hc, hm, hl, ha, hcell⟩ := h
  simp only [Value.slice.injEq] at hv
  obtain ⟨rfl, _, rfl⟩ := hv
  refine ⟨_, _, by rw [List.length_drop, hn], by rw [List.length_drop]; omega, by omega, by simp, by simp, ?_⟩
  intro y hy j hj
  obtain rfl := Option.some.inj hy
  have hj' : j < L.length - k := by simpa using hj
  have := hcell _ rfl (k + j) (by simp; omega)
  rw [txV_at _ (k + j) (by omega)] at this
  rw [txV_at _ j (by simpa using hj')]
  simp only [List.getElem_drop]
  rw [Addr.add_lit] at this ⊢
  rw [Nat.add_assoc]
  exact this

/-- each second text folded, up to j -/
def midE (M : List Tx) (j : Nat) : List Tx := M.mapIdx fun i t => if i < j ∧ i % 2 = 0 then foldL t else t
@[simp] theorem midE_len (M : List Tx) (j : Nat) : (midE M j).length = M.length := by simp [midE]
theorem midE_zero (M : List Tx) : midE M 0 = M := by
  apply List.ext_getElem
  · simp
  · intro i h1 h2
    simp [midE]
theorem midE_at (M : List Tx) (j : Nat) (h : j < M.length) : (midE M j)[j]'(by simpa using h) = M[j] := by simp [midE]
theorem midE_even (M : List Tx) (j : Nat) (h : j < M.length) (h2 : j % 2 = 0) : (midE M j).set j (foldL M[j]) = midE M (j + 1) := by
  apply List.ext_getElem
  · simp
  · intro i h3 h4
    simp only [midE, List.getElem_set, List.getElem_mapIdx]
    by_cases e : j = i
    · subst e; simp [h2]
    · rw [if_neg e]
      have : (i < j ∧ i % 2 = 0) = (i < j + 1 ∧ i % 2 = 0) := by
        apply propext
        constructor <;> intro g <;> exact ⟨by omega, g.2⟩
      simp only [this]
theorem midE_odd (M : List Tx) (j : Nat) (h2 : j % 2 ≠ 0) : midE M j = midE M (j + 1) := by
  apply List.ext_getElem
  · simp
  · intro i h3 h4
    simp only [midE, List.getElem_mapIdx]
    have : (i < j ∧ i % 2 = 0) = (i < j + 1 ∧ i % 2 = 0) := by
      apply propext
      constructor <;> intro g
      · exact ⟨by omega, g.2⟩
      · refine ⟨?_, g.2⟩
        have : i ≠ j := fun e => h2 (e ▸ g.2)
        omega
    simp only [this]
theorem midE_flag (M : List Tx) (j i : Nat) (h : i < M.length) : foldF ((midE M j)[i]'(by simpa using h)) = foldF M[i] := by
  simp only [midE, List.getElem_mapIdx]
  split
  · exact foldF_fold _
  · rfl
theorem same_all (L : List Tx) (k j : Nat) : allR L = allR (midE (L.drop k ++ L) j) := by
  refine allR_same (fun l hl => ?_) (fun m hm => ?_)
  · have : l ∈ L.drop k ++ L := List.mem_append_right _ hl
    obtain ⟨i, hi, rfl⟩ := List.mem_iff_getElem.1 this
    exact ⟨_, List.getElem_mem (by simpa using hi), midE_flag _ j i hi⟩
  · obtain ⟨i, hi, rfl⟩ := List.mem_iff_getElem.1 hm
    have hi' : i < (L.drop k ++ L).length := by simpa using hi
    refine ⟨(L.drop k ++ L)[i], ?_, (midE_flag _ j i hi').symm⟩
    rcases List.mem_append.1 (List.getElem_mem hi') with h | h
    · exact List.mem_of_mem_drop h
    · exact h
theorem midE_small {M : List Tx} (h : ∀ t ∈ M, t.length ≤ 140737488351232) (j : Nat) : ∀ t ∈ midE M j, t.length ≤ 140737488351232 := by
  intro t ht
  obtain ⟨i, hi, rfl⟩ := List.mem_iff_getElem.1 ht
  have hi' : i < M.length := by simpa using hi
  have := h _ (List.getElem_mem hi')
  simp only [midE, List.getElem_mapIdx]
  split
  · simpa [foldL] using this
  · exact this

theorem allR_rises {L S : List Tx} (h : allR L = .ok S) : S.Pairwise (fun a b => a < b) := by
  unfold allR at h
  split at h
  · cases h
  · split at h
    · cases h; exact setT_rises _
    · cases h
theorem less_str {s t : Tx} (h : s < t) : Op.bytesLess (strL s).toList (strL t).toList = true := by
  rw [bytesLess_eq, Go.ByteArray.toList_eq, Go.ByteArray.toList_eq]
  exact decide_eq_true h

theorem run_geq_str {s t : ByteArray} (h : Op.bytesLess s.toList t.toList = true) (W : World) : (binOp .geq 9 (.string s) (.string t)).run Try.prog W = .ok (.bool false) W := by
  simp [binOp, Op.stringOp, h, go_sem]

set_option maxRecDepth 100000 in
set_option maxHeartbeats 8000000 in
theorem order_any (v : Value) (L : List Tx) (x : Int) (w : World) (hr : RowT w v L) (hsz : ∀ t ∈ L, t.length ≤ 140737488351232) :
    Calls Try.prog 3 #[v, .int .i64 x] w fun e w' => e = .returned (.bool true) ∧ Below w.heap.size w w' := by
  obtain ⟨b, off, a, cap, rfl, hc, hm, ha, hcell⟩ := hr.shape
  obtain ⟨n, hN⟩ : ∃ n, L.length = n := ⟨_, rfl⟩
  have HN := Lib.hid hN
  have HR := Lib.hid hr
  have HA := Lib.hid ha
  have HZ := Lib.hid hsz
  rw [hN] at hc ⊢
  rw [hN] at HR
  clear hr ha hcell hsz hN
  unfold maxLen at hm
  go_enter Try.func3, Try.ntmps3
  go_wp2_with fail
  refine (awake_any _).mono ?_
  rintro e w1 ⟨rfl, hb1⟩
  have HB1 := Lib.hid hb1
  clear hb1
  go_wp2_with fail
  have hcs : (w1.alloc (.cells #[.slice a n cap] 22)).cell? ⟨w1.heap.size, 0, none⟩ = some (.slice a n cap) := cell_of_row _ _ 0 _ _ _ (heap_alloc_new w1 _)
  have HB2 := Lib.hid (HB1.out.alloc HB1.out.size (.cells #[.slice a n cap] 22))
  refine (small5_any _ a n cap _ hcs).mono ?_
  rintro e w2 ⟨rfl, rfl⟩
  clear hcs
  by_cases h60 : n ≤ 60
  case neg =>
    rw [decide_eq_false h60]
    generalize w1.alloc (.cells #[.slice a n cap] 22) = w2 at *
    go_wp2_with fail
    refine (awake_any _).mono ?_
    rintro e w3 ⟨rfl, hb3⟩
    have HB3 := Lib.hid (HB2.out.trans (hb3.mono HB2.out.size))
    clear hb3
    go_wp2_with fail
    go_ret
    exact ⟨rfl, HB3.out⟩
  case pos =>
    rw [decide_eq_true h60]
    generalize w1.alloc (.cells #[.slice a n cap] 22) = w2 at *
    by_cases hz : n = 0
    · subst hz
      go_wp2_with fail
      refine (awake_any _).mono ?_
      rintro e w3 ⟨rfl, hb3⟩
      have HB3 := Lib.hid (HB2.out.trans (hb3.mono HB2.out.size))
      clear hb3
      go_wp2_with fail
      go_ret
      exact ⟨rfl, HB3.out⟩
    · have hz0 : (((n : Nat) : Int) == 0) = false := by simpa using hz
      obtain ⟨k, hk, hmod⟩ := modn x n (by omega) h60
      obtain ⟨rfl, hbs⟩ := HA.out (by have := HN.out; omega)
      have hkz : (k : Int) ≤ (n : Int) := by omega
      have hck : (cap = k) = False := eq_false (by omega)
      have hk0 : (0 : Int) ≤ (k : Int) := by omega
      have HW2 : Hid (RowT w2 (.slice (some ⟨b, off, none⟩) n cap) L) := Lib.hid (HR.out.below HB2.out)
      have HDR := Lib.hid (HW2.out.drop HN.out k hk)
      obtain ⟨M, hM⟩ : ∃ M, L.drop k ++ L = M := ⟨_, rfl⟩
      obtain ⟨m, hm'⟩ : ∃ m, M.length = m := ⟨_, rfl⟩
      have HM := Lib.hid hM
      have HML := Lib.hid hm'
      have hm1 : 0 < m ∧ m ≤ 120 := by have := HN.out; rw [← hm', ← hM]; simp; omega
      have HSM : Hid (∀ t ∈ M, t.length ≤ 140737488351232) := Lib.hid (fun t ht => by
        rw [← hM] at ht
        rcases List.mem_append.1 ht with h | h
        · exact HZ.out t (List.mem_of_mem_drop h)
        · exact HZ.out t h)
      clear hM hm'
      go_wp2_with (first
        | (at_builtin
           refine wpList_run rfl (.const (.slice none 0 0)) (.tmp 36) 22 rfl rfl rfl (run_appT 22 (ownT_nil w2 w2.heap.size) (Nat.le_refl _) HDR.out (by have := HN.out; simp; omega)) ?_
           rintro o3 w3 ⟨ho3, hb3⟩
           have HO3 := Lib.hid ho3
           have HB3 := Lib.hid hb3
           clear ho3 hb3)
        | (at_builtin
           refine wpList_run rfl (.tmp 37) (.tmp 38) 22 rfl rfl rfl (run_appT 22 HO3.out HB3.out.size (HW2.out.below HB3.out) (by have := HN.out; simp; omega)) ?_
           rintro o4 w4 ⟨ho4, hb4⟩
           rw [List.nil_append, HM.out] at ho4
           have HO4 : Hid (OwnT w4 w2.heap.size o4 M) := Lib.hid ho4
           have HB4 : Hid (Below w2.heap.size w2 w4) := Lib.hid (HB3.out.trans hb4)
           obtain ⟨g, mcap, cur, rfl, hgB, hgh, hmc, hmx, -, -⟩ := ho4.block (by intro e; have := HML.out; rw [e] at this; simp at this; omega)
           rw [HML.out] at HO4 hmc
           rw [HML.out]
           have hgl := (Array.getElem?_eq_some_iff.1 hgh).1
           clear ho4 hb4 hgh))
      clear hkz hck hk0 hmod HDR HA
      unfold maxLen at hmx
      go_loopw [42] (fun i wr => ∃ j : Nat, i = .int .i64 j ∧ j ≤ m ∧ OwnT wr w2.heap.size (.slice (some ⟨g, 0, none⟩) m mcap) (midE M j) ∧ Below w2.heap.size w2 wr ∧ g < wr.heap.size) (fun i _ => m - (RowKit.intOf i).toNat)
      case atStart => exact ⟨0, rfl, by omega, by rw [midE_zero]; exact HO4.out, HB4.out, hgl⟩
      case round =>
        obtain ⟨j, rfl, hj, hown, hbw, hgw⟩ := hrel
        have HOW := Lib.hid hown
        have HBW := Lib.hid hbw
        clear hown hbw
        by_cases hjm : j < m
        · have hjz : (j : Int) < (m : Int) := by omega
          have hjM : j < M.length := by rw [HML.out]; exact hjm
          by_cases hev : j % 2 = 0
          · have htm : ((j : Int) % 2 == 0) = true := by simp; omega
            obtain ⟨-, -, -, hcl⟩ := HOW.out.set j (by rw [midE_len]; exact hjM) []
            rw [midE_at M j hjM] at hcl
            have HFT := Lib.hid (fold_t M[j] (HSM.out _ (List.getElem_mem hjM)))
            obtain ⟨s, hs⟩ : ∃ s, strL M[j] = s := ⟨_, rfl⟩
            obtain ⟨f, hf⟩ : ∃ f, strL (foldL M[j]) = f := ⟨_, rfl⟩
            rw [hs] at hcl
            rw [hs, hf] at HFT
            have HF := Lib.hid hf
            have HEV := Lib.hid (midE_even M j hjM hev)
            clear hs hf hev
            go_wp2_with fail
            refine (HFT.out _).mono ?_
            rintro e w5 ⟨rfl, hb5⟩
            have HO5 := Lib.hid (HOW.out.below hb5)
            have HB5 := Lib.hid (HBW.out.trans (hb5.mono HBW.out.size))
            have hg5 : g < w5.heap.size := by have := hb5.size; omega
            obtain ⟨hst, hsb, hfr, hcl5⟩ := HO5.out.set j (by rw [midE_len]; exact hjM) (foldL M[j])
            rw [HEV.out] at hst
            rw [HF.out] at hst hsb
            have HST := Lib.hid hst
            have HSB := Lib.hid hsb
            clear hb5 hcl hst hsb
            go_wp2_with fail
            go_roundw
            case rel => exact ⟨j + 1, by simp, by omega, HST.out, HB5.out.trans HSB.out, by simpa [World.setCell] using hg5⟩
            case measure => simp [RowKit.intOf]; omega
          · have htm : ((j : Int) % 2 == 0) = false := by simp; omega
            have HOD := Lib.hid (midE_odd M j hev)
            clear hev
            go_wp2_with fail
            go_roundw
            case rel => exact ⟨j + 1, by simp, by omega, by rw [← HOD.out]; exact HOW.out, HBW.out, hgw⟩
            case measure => simp [RowKit.intOf]; omega
        · have hjz : ¬ ((j : Int) < (m : Int)) := by omega
          have hL0 : L ≠ [] := fun e => hz (by have := HN.out; rw [e] at this; exact this.symm)
          have hM0 : midE M j ≠ [] := fun e => by have := midE_len M j; rw [e, HML.out] at this; simp at this; omega
          have HSA := Lib.hid (same_all L k j)
          rw [HM.out] at HSA
          have HM0 := Lib.hid hM0
          have HL0 := Lib.hid hL0
          clear hM0 hL0
          go_wp2_with fail
          refine (all_any _ L _ (HW2.out.below HBW.out) HL0.out (by have := HN.out; omega) HZ.out).mono ?_
          rintro e w5 ⟨o5, c5, rfl, ha5, hb5⟩
          have HO5 := Lib.hid (HOW.out.below hb5)
          have HB5 := Lib.hid (HBW.out.trans (hb5.mono HBW.out.size))
          have HA5 := Lib.hid ha5
          clear ha5 hb5
          go_wp2_with fail
          refine (all_any _ (midE M j) _ HO5.out.row HM0.out (by rw [midE_len, HML.out]; omega) (midE_small HSM.out j)).mono ?_
          rintro e w6 ⟨o6, c6, rfl, ha6, hb6⟩
          rw [← HSA.out] at ha6
          have HBW6 := Lib.hid (HB2.out.trans ((HB5.out.trans (hb6.mono HB5.out.size)).mono HB2.out.size))
          have HB6 := Lib.hid hb6
          have HA6 := Lib.hid ha6
          clear hb6 ha6
          cases hall : allR L with
          | form =>
            rw [hall] at HA5 HA6
            obtain ⟨rfl, rfl⟩ := HA5.out
            obtain ⟨rfl, rfl⟩ := HA6.out
            clear HA5 HA6 hall
            go_wp2_with fail
            go_ret
            exact ⟨by first | done | rfl, HBW6.out⟩
          | long =>
            rw [hall] at HA5 HA6
            obtain ⟨rfl, rfl⟩ := HA5.out
            obtain ⟨rfl, rfl⟩ := HA6.out
            clear HA5 HA6 hall
            go_wp2_with fail
            go_ret
            exact ⟨by first | done | rfl, HBW6.out⟩
          | ok S =>
            have HRS := Lib.hid (allR_rises hall)
            rw [hall] at HA5 HA6
            obtain ⟨ho5, rfl⟩ := HA5.out
            obtain ⟨ho6, rfl⟩ := HA6.out
            clear HA5 HA6 hall
            have hr5 := (OwnT.row ho5).below HB6.out
            have hr6 := OwnT.row ho6
            obtain ⟨a5, cp5, rfl, -⟩ := owns_shape ho5
            obtain ⟨a6, cp6, rfl, -⟩ := owns_shape ho6
            have HR5 := Lib.hid hr5
            have HR6 := Lib.hid hr6
            clear ho5 ho6 hr5 hr6
            obtain ⟨q, hq⟩ : ∃ q, S.length = q := ⟨_, rfl⟩
            have HQ := Lib.hid hq
            rw [hq]
            rw [hq] at HR5 HR6
            clear hq
            obtain ⟨b5, o5, a5', c5, hv5, hc5, hm5, hA5, hcell5⟩ := HR5.out.shape
            rw [HQ.out] at hv5 hc5 hA5
            simp only [Value.slice.injEq, true_and] at hv5
            obtain ⟨rfl, rfl⟩ := hv5
            unfold maxLen at hm5
            have HA5 := Lib.hid hA5
            have HC5 := Lib.hid hcell5
            clear hA5 hcell5
            go_wp2_with fail
            go_loopw [12] (fun i wr => ∃ j : Nat, i = .int .i64 j ∧ 1 ≤ j ∧ (j ≤ q ∨ j = 1) ∧ Below w6.heap.size w6 wr) (fun i _ => q + 1 - (RowKit.intOf i).toNat)
            case atStart => exact ⟨1, rfl, by omega, by omega, Below.refl _ _⟩
            case round =>
              obtain ⟨i, rfl, hi1, hiq, hbw⟩ := hrel
              have HBI := Lib.hid hbw
              clear hbw
              by_cases hlt : i < q
              · have hiz : (i : Int) < (q : Int) := by omega
                obtain ⟨rfl, hlb⟩ := HA5.out (by omega)
                obtain ⟨p, rfl⟩ : ∃ p, i = p + 1 := ⟨i - 1, by omega⟩
                have e1 : (((p + 1 : Nat) : Int) - 1) = (p : Int) := by omega
                have g1 : (p : Int) < (q : Int) := by omega
                have g2 : (p : Int) + 1 < (q : Int) := by omega
                have hps : p + 1 < S.length := by have := HQ.out; omega
                have d1 : wr.cell? ⟨b5, o5 + p, none⟩ = some (.string (strL (S[p]'(by omega)))) := (HBI.out.cell (p := ⟨b5, o5 + p, none⟩) hlb).trans (HC5.out p (by omega))
                have d2 : wr.cell? ⟨b5, o5 + (p + 1), none⟩ = some (.string (strL S[p + 1])) := (HBI.out.cell (p := ⟨b5, o5 + (p + 1), none⟩) hlb).trans (HC5.out (p + 1) hps)
                obtain ⟨s1, hs1⟩ : ∃ s, strL (S[p]'(by omega)) = s := ⟨_, rfl⟩
                obtain ⟨s2, hs2⟩ : ∃ s, strL S[p + 1] = s := ⟨_, rfl⟩
                rw [hs1] at d1
                rw [hs2] at d2
                have hlt' : Op.bytesLess s1.toList s2.toList = true := by
                  rw [← hs1, ← hs2]
                  exact less_str (List.pairwise_iff_getElem.1 HRS.out p (p + 1) (by omega) hps (by omega))
                have hge := run_geq_str hlt'
                clear hs1 hs2 hps hlt'
                go_wp2_with fail
                go_region
                go_wp2_with fail
                go_roundw
                case rel => exact ⟨p + 1 + 1, by simp, by omega, by omega, HBI.out.drew⟩
                case measure => simp [RowKit.intOf]; omega
              · have hiz : ¬ ((i : Int) < (q : Int)) := by omega
                go_wp2_with fail
                refine (plainT_any ((HR5.out.below HBI.out)) ((HR6.out.below HBI.out))).mono ?_
                rintro e w7 ⟨rfl, hb7⟩
                have HB7 := Lib.hid (HBW6.out.trans ((HBI.out.trans (hb7.mono HBI.out.size)).mono HBW6.out.size))
                clear hb7
                go_wp2_with fail
                go_ret
                exact ⟨by first | done | rfl, HB7.out⟩
end Go.Proofs.Ytekfpgjnmfplaaa
namespace Go.Proofs.Ytekfpgjnmfplaaa.flagsOrder
open Go.RowKit
theorem walk (w : World) (v : Value) (L : List Tx) (hr : RowT w v L) (hsz : ∀ t ∈ L, t.length ≤ 140737488351232) (x : Int) (_ : (Lit.int .i64 x).wf = true) :
    Calls Try.prog 3 #[v, .int .i64 x] w fun e w' => e = .returned (.bool true) ∧ Below w.heap.size w w' := order_any v L x w hr hsz
end Go.Proofs.Ytekfpgjnmfplaaa.flagsOrder
