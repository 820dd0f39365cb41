/-
  marks: whether a flag is a token's keyword.
-/
import Derived.Test.YtacalpgiopgkkaaDoorS9Fold
namespace Go.Proofs.YtacalpgiopgkkaaDoor
namespace S9
set_option linter.unusedVariables false
open Go.RowKit

theorem digs_all {d : Tx} (h : ∀ j (h : j < d.length), 48 ≤ d[j].toNat ∧ d[j].toNat ≤ 57) : digsL d = true := by
  unfold digsL
  rw [List.all_eq_true]
  intro c hc
  obtain ⟨j, hj, rfl⟩ := List.mem_iff_getElem.1 hc
  have := h j hj
  simp [this]
theorem digs_not {d : Tx} {k : Nat} (hk : k < d.length) (h : ¬ (48 ≤ d[k].toNat ∧ d[k].toNat ≤ 57)) : digsL d = false := by
  rw [← Bool.not_eq_true]
  intro hd
  unfold digsL at hd
  have := List.all_eq_true.1 hd _ (List.getElem_mem hk)
  simp only [Bool.and_eq_true, decide_eq_true_eq] at this
  exact h this

set_option maxRecDepth 100000 in
set_option maxHeartbeats 4000000 in
theorem marks_any (l : Tx) (hl : l.length ≤ 140737488351232) (w : World) : Calls Tryd.prog 68 #[.string (strL l)] w fun e w' => e = .returned (.bool (marksL l)) ∧ Below w.heap.size w w' := by
  have HS := Lib.hid (small_t l hl)
  obtain ⟨f, hF⟩ : ∃ f, strL (foldL l) = f := ⟨_, rfl⟩
  have hcp := fun W => Tryd.strings_CutPrefix f ⟨#[36, 99, 117, 98]⟩ W
  have hfd : f.data.toList = foldL l := by rw [← hF]; rfl
  rw [hfd] at hcp
  have hp : (⟨#[36, 99, 117, 98]⟩ : ByteArray).data.toList = [36, 99, 117, 98] := rfl
  rw [hp] at hcp
  obtain ⟨b, hb⟩ : ∃ b, Lib.hasPrefix (foldL l) [36, 99, 117, 98] = b := ⟨_, rfl⟩
  rw [hF] at HS
  have hM : marksL l = (b && restL ((foldL l).drop 4)) := by unfold marksL; rw [hb]
  unfold Lib.trimPrefix at hcp
  rw [hb] at hcp
  cases b with
  | false =>
    simp only [Bool.false_eq_true, if_false] at hcp
    obtain ⟨s, hs⟩ : ∃ s : ByteArray, (⟨(foldL l).toArray⟩ : ByteArray) = s := ⟨_, rfl⟩
    rw [hs] at hcp
    have HCP := Lib.hid hcp
    have HM := Lib.hid hM
    clear hcp hM hF hfd hp hb hs
    go_enter Tryd.func68, Tryd.ntmps68
    go_wp2_with fail
    refine (HS.out _).mono ?_
    rintro e w1 ⟨rfl, hb1⟩
    have HB1 := Lib.hid hb1
    clear hb1
    go_wp2_with fail
    refine (HCP.out _).mono ?_
    rintro e w2 ⟨rfl, rfl⟩
    go_wp2_with fail
    go_ret
    exact ⟨by rw [HM.out]; rfl, HB1.out⟩
  | true =>
    simp only [if_true, show ([36, 99, 117, 98] : List UInt8).length = 4 from rfl] at hcp
    obtain ⟨d, hd⟩ : ∃ d, (foldL l).drop 4 = d := ⟨_, rfl⟩
    have hdl : d.length ≤ 140737488351232 := by rw [← hd]; simp [foldL]; omega
    rw [hd] at hcp hM
    obtain ⟨s, hs⟩ : ∃ s : ByteArray, (⟨d.toArray⟩ : ByteArray) = s := ⟨_, rfl⟩
    obtain ⟨n, hn⟩ : ∃ n, d.length = n := ⟨_, rfl⟩
    have hsz : s.size = n := by rw [← hs, ← hn]; rfl
    rw [hs] at hcp
    have HCP := Lib.hid hcp
    have HM : Hid (marksL l = restL d) := Lib.hid (by rw [hM, Bool.true_and])
    have HSD := Lib.hid hs
    have HN := Lib.hid hn
    rw [hn] at hdl
    clear hcp hM hF hfd hp hb hs hd hn
    have hget : ∀ k (h : k < s.size) (h2 : k < d.length), s[k] = d[k] := by have := HSD.out; subst this; intro k h h2; rfl
    have HG := Lib.hid hget
    clear hget
    by_cases h0 : n = 0
    · have he : s.toList.isEmpty = true := by
        rw [Go.ByteArray.toList_eq]
        have h1 := HSD.out; have h2 := HN.out
        subst h1; rw [h0] at h2
        simpa using h2
      have HZ : Hid (restL d = false) := Lib.hid (by have h2 := HN.out; rw [h0] at h2; rw [List.length_eq_zero_iff.1 h2]; rfl)
      clear h0
      go_enter Tryd.func68, Tryd.ntmps68
      go_wp2_with fail
      refine (HS.out _).mono ?_
      rintro e w1 ⟨rfl, hb1⟩
      have HB1 := Lib.hid hb1
      clear hb1
      go_wp2_with fail
      refine (HCP.out _).mono ?_
      rintro e w2 ⟨rfl, rfl⟩
      go_wp2_with fail
      go_ret
      exact ⟨by rw [HM.out, HZ.out]; first | done | rfl, HB1.out⟩
    · have he : s.toList.isEmpty = false := by
        rw [Go.ByteArray.toList_eq]
        have h1 := HSD.out; have h2 := HN.out
        subst h1
        rw [← Bool.not_eq_true]
        intro g
        rw [List.isEmpty_iff] at g
        have : d = [] := by simpa using g
        subst this
        exact h0 h2.symm
      have h0s : 0 < s.size := by omega
      obtain ⟨c0, hc0⟩ : ∃ c, s[0].toNat = c := ⟨_, rfl⟩
      have hd0 : d[0]'(by have := HN.out; omega) = s[0] := (HG.out 0 h0s (by have := HN.out; omega)).symm
      have hhead : d.head? = some s[0] := by rw [← hd0, List.head?_eq_getElem?, List.getElem?_eq_getElem]
      have hn0 : d.isEmpty = false := by
        rw [← Bool.not_eq_true]; intro g; rw [List.isEmpty_iff] at g; have := HN.out; rw [g] at this; exact h0 this.symm
      have hrest : restL d = (decide (c0 ≠ 48) && digsL d) := by
        unfold restL
        rw [hn0, hhead]
        congr 1
        simp only [Bool.not_false, Bool.true_and]
        rw [← hc0, bne, Bool.eq_iff_iff]
        simp [← UInt8.toNat_inj]
      have HR := Lib.hid hrest
      clear hhead hn0 hrest hd0
      by_cases h48 : c0 = 48
      · have HZ : Hid (restL d = false) := Lib.hid (by rw [HR.out, decide_eq_false (by simpa using h48), Bool.false_and])
        have e48 : ((c0 : Int) == 48) = true := by simp [h48]
        clear h48
        go_enter Tryd.func68, Tryd.ntmps68
        go_wp2_with fail
        refine (HS.out _).mono ?_
        rintro e w1 ⟨rfl, hb1⟩
        have HB1 := Lib.hid hb1
        clear hb1
        go_wp2_with fail
        refine (HCP.out _).mono ?_
        rintro e w2 ⟨rfl, rfl⟩
        go_wp2_with fail
        go_ret
        exact ⟨by rw [HM.out, HZ.out]; first | done | rfl, HB1.out⟩
      · have HZ : Hid (restL d = digsL d) := Lib.hid (by rw [HR.out, decide_eq_true (by simpa using h48), Bool.true_and])
        have e48 : ((c0 : Int) == 48) = false := by simp; omega
        clear h48
        go_enter Tryd.func68, Tryd.ntmps68
        go_wp2_with fail
        refine (HS.out _).mono ?_
        rintro e w1 ⟨rfl, hb1⟩
        have HB1 := Lib.hid hb1
        clear hb1
        go_wp2_with fail
        refine (HCP.out _).mono ?_
        rintro e w2 ⟨rfl, rfl⟩
        go_wp2_with fail
        clear hc0 e48
        go_loopw [25] (fun i wr => ∃ k : Nat, i = .int .i64 k ∧ k ≤ n ∧ wr = w2 ∧ ∀ j (h : j < d.length), j < k → 48 ≤ d[j].toNat ∧ d[j].toNat ≤ 57) (fun i _ => n - (RowKit.intOf i).toNat)
        case atStart => exact ⟨0, rfl, by omega, rfl, fun j h g => by omega⟩
        case round =>
          obtain ⟨k, rfl, hk, rfl, hall⟩ := hrel
          have HA := Lib.hid hall
          clear hall
          by_cases hkn : k < n
          · have hkz : (k : Int) < (n : Int) := by omega
            have hks : k < s.size := by omega
            have hkd : k < d.length := by rw [HN.out]; exact hkn
            obtain ⟨c, hc⟩ : ∃ c, s[k].toNat = c := ⟨_, rfl⟩
            have HC : Hid (d[k].toNat = c) := Lib.hid (by rw [← HG.out k hks hkd]; exact hc)
            by_cases h1 : c < 48
            · have HD := Lib.hid (digs_not hkd (by rw [HC.out]; omega))
              have g1 : decide ((c : Int) < 48) = true := decide_eq_true (by omega)
              clear h1
              go_wp2_with fail
              go_ret
              exact ⟨by rw [HM.out, HZ.out, HD.out]; first | done | rfl, HB1.out⟩
            · have g1 : decide ((c : Int) < 48) = false := decide_eq_false (by omega)
              by_cases h2 : 57 < c
              · have HD := Lib.hid (digs_not hkd (by rw [HC.out]; omega))
                have g2 : decide (57 < (c : Int)) = true := decide_eq_true (by omega)
                clear h1 h2
                go_wp2_with fail
                go_ret
                exact ⟨by rw [HM.out, HZ.out, HD.out]; first | done | rfl, HB1.out⟩
              · have g2 : decide (57 < (c : Int)) = false := decide_eq_false (by omega)
                have HA2 : Hid (∀ j (h : j < d.length), j < k + 1 → 48 ≤ d[j].toNat ∧ d[j].toNat ≤ 57) := Lib.hid (fun j h g => by
                  by_cases e : j = k
                  · subst e; have := HC.out; omega
                  · exact HA.out j h (by omega))
                clear h1 h2
                go_wp2_with fail
                go_roundw
                case rel => exact ⟨k + 1, by simp, by omega, by first | rfl | trivial, HA2.out⟩
                case measure => simp [RowKit.intOf]; omega
          · have hkz : ¬ ((k : Int) < (n : Int)) := by omega
            have HD := Lib.hid (digs_all (fun j h => HA.out j h (by have := HN.out; omega)))
            go_wp2_with fail
            go_ret
            exact ⟨by rw [HM.out, HZ.out, HD.out]; first | done | rfl, HB1.out⟩
end S9
end Go.Proofs.YtacalpgiopgkkaaDoor
