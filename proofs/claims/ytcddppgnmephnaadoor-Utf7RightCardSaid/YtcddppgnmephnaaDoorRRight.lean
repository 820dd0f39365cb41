/-
  The reference's Right, at every text; Utf7Right: the walk.
-/
import Derived.Test.YtcddppgnmephnaaDoorPureR
import Derived.Test.YtcddppgnmephnaaDoorAwake
namespace Go.Proofs.YtcddppgnmephnaaDoor
set_option linter.unusedVariables false
open Go.RowKit Go.Lib

set_option maxHeartbeats 2000000 in
set_option maxRecDepth 100000 in
theorem rright_any (s : ByteArray) (hs : s.size ≤ 9223372036854775807) (w : World) (hT : Tabs w) :
    Calls Tryd.prog 16 #[.string s] w fun e w' => e = .returned (.bool (rightS s.data.toList)) ∧ Below w.heap.size w w' := by
  have hv := Tryd.utf8_ValidString s w hs hT
  obtain ⟨l, hl⟩ : ∃ l, s.data.toList = l := ⟨_, rfl⟩
  have hsl : s.size = l.length := by rw [← hl]; exact Lib.size_eq s
  rw [hl] at hv ⊢
  obtain ⟨R, hR⟩ : ∃ R, rightS l = R := ⟨_, rfl⟩
  rw [hR]
  unfold rightS at hR
  cases hval : validD l with
  | false =>
    rw [hval] at hv
    have hRf : false = R := by rw [← hR, if_pos (Or.inl hval)]
    clear hl hsl hR hval
    subst hRf
    go_enter Tryd.func16, Tryd.ntmps16
    go_wp2_with (go_at_call 17; refine hv.mono ?_; rintro e w1 ⟨rfl, hb1⟩)
    all_goals exact bodyPost_ret (v := .bool false) (by simp [results, Tryd.results16, go_sem]) rfl ⟨rfl, hb1⟩
  | true =>
    rw [hval] at hv
    by_cases h0 : l.length = 0
    · have hz0 : s.size = 0 := by omega
      have hRf : false = R := by rw [← hR, if_pos (Or.inr (Or.inl h0))]
      clear hl hsl h0 hR hval
      subst hRf
      go_enter Tryd.func16, Tryd.ntmps16
      go_wp2_with (go_at_call 17; refine hv.mono ?_; rintro e w1 ⟨rfl, hb1⟩)
      all_goals exact bodyPost_ret (v := .bool false) (by simp [results, Tryd.results16, go_sem]) rfl ⟨rfl, hb1⟩
    · by_cases h60 : 60 < l.length
      · have hz0 : decide ((s.size : Int) < 1) = false := decide_eq_false (by omega)
        have hz60 : decide ((60 : Int) < (s.size : Int)) = true := decide_eq_true (by omega)
        have hRf : false = R := by rw [← hR, if_pos (Or.inr (Or.inr h60))]
        clear hl hsl h0 h60 hR hval
        subst hRf
        go_enter Tryd.func16, Tryd.ntmps16
        go_wp2_with (go_at_call 17; refine hv.mono ?_; rintro e w1 ⟨rfl, hb1⟩)
        all_goals exact bodyPost_ret (v := .bool false) (by simp [results, Tryd.results16, go_sem]) rfl ⟨rfl, hb1⟩
      · rw [if_neg (fun h => by
          rcases h with h | h | h
          · rw [hval] at h; cases h
          · exact h0 h
          · exact h60 h)] at hR
        obtain ⟨m, hm⟩ : ∃ m, s.size = m + 1 := ⟨s.size - 1, by omega⟩
        have hm60 : m < 60 := by omega
        have hls : 0 < s.size := by omega
        have hlm2 : m < s.size := by omega
        have hx0 := str_at s 0 hls
        have hx1 := str_at s m hlm2
        rw [hl] at hx0 hx1
        have hlm : l.length - 1 = m := by omega
        rw [hlm] at hR
        obtain ⟨x, hx⟩ : ∃ x, (l.getD 0 0).toNat = x := ⟨_, rfl⟩
        obtain ⟨y, hy⟩ : ∃ y, (l.getD m 0).toNat = y := ⟨_, rfl⟩
        rw [hx] at hx0 hR
        rw [hy] at hx1 hR
        have HL := Lib.hid (And.intro hl hsl)
        have HVAL := Lib.hid hval
        clear hl hsl hx hy hlm h0 h60 hval
        have hmz : ((m + 1 : Nat) : Int) - 1 = (m : Int) := by omega
        have hz60 : decide ((60 : Int) < (m : Int) + 1) = false := decide_eq_false (by omega)
        have hz00 : decide ((m : Int) + 1 < 1) = false := decide_eq_false (by omega)
        by_cases hx47 : x = 47
        · have hRf : false = R := by rw [← hR, if_pos (Or.inl hx47)]
          subst hRf
          subst hx47
          clear hR
          go_enter Tryd.func16, Tryd.ntmps16
          go_wp2_with (go_at_call 17; refine hv.mono ?_; rintro e w1 ⟨rfl, hb1⟩)
          all_goals exact bodyPost_ret (v := .bool false) (by simp [results, Tryd.results16, go_sem]) rfl ⟨rfl, hb1⟩
        · have hxz : ((x : Int) == 47) = false := by simp; omega
          by_cases hy47 : y = 47
          · have hRf : false = R := by rw [← hR, if_pos (Or.inr hy47)]
            subst hRf
            subst hy47
            clear hR
            go_enter Tryd.func16, Tryd.ntmps16
            go_wp2_with (go_at_call 17; refine hv.mono ?_; rintro e w1 ⟨rfl, hb1⟩)
            all_goals exact bodyPost_ret (v := .bool false) (by simp [results, Tryd.results16, go_sem]) rfl ⟨rfl, hb1⟩
          · have hyz : ((y : Int) == 47) = false := by simp; omega
            rw [if_neg (by omega)] at hR
            have HR := Lib.hid hR
            clear hR
            go_enter Tryd.func16, Tryd.ntmps16
            go_wp2_with (go_at_call 17; refine hv.mono ?_; rintro e w1 ⟨rfl, hb1⟩; have HB := Lib.hid hb1; have hsz1 := hb1.size; clear hb1)
            have hbb : badR 32 (runesD l) = badB 32 l := bad_same l.length 32 32 l (Nat.le_refl _) HVAL.out Iff.rfl
            have HBB := Lib.hid hbb
            clear hbb
            obtain ⟨prev, hprev⟩ : ∃ prev : Nat → Nat, prev = fun k => if k = 0 then 32 else (l.getD (k - 1) 0).toNat := ⟨_, rfl⟩
            have hp0 : prev 0 = 32 := by rw [hprev]; rfl
            have hpS : ∀ j, prev (j + 1) = (l.getD j 0).toNat := fun j => by rw [hprev]; rfl
            have HPV := Lib.hid (And.intro hp0 hpS)
            clear hprev hp0 hpS
            go_loopw [3] (fun i wr => ∃ (k : Nat), i = .int .i64 k ∧ Below w.heap.size w1 wr ∧ badB (prev k) (l.drop k) = badB 32 l ∧ k ≤ m + 1) (fun i _ => m + 1 - (RowKit.intOf i).toNat)
            case atStart => exact ⟨0, rfl, Below.refl _ _, by rw [HPV.out.1]; rfl, by omega⟩
            case round =>
              obtain ⟨k, rfl, hbw, hf, hkm⟩ := hrel
              have HBW := Lib.hid hbw
              clear hbw
              by_cases hk : k < m + 1
              · have hkz : (k : Int) < (m : Int) + 1 := by omega
                have hkl : k < l.length := by rw [← HL.out.2, hm]; exact hk
                have hks : k < s.size := by omega
                have hck := str_at s k hks
                rw [HL.out.1] at hck
                obtain ⟨c, hc⟩ : ∃ c, (l.getD k 0).toNat = c := ⟨_, rfl⟩
                rw [hc] at hck
                have hdrop : l.drop k = l.getD k 0 :: l.drop (k + 1) := by
                  rw [List.drop_eq_getElem_cons hkl]
                  simp [List.getD, List.getElem?_eq_getElem hkl]
                rw [hdrop] at hf
                have hpn : prev (k + 1) = c := by rw [HPV.out.2, hc]
                have hcl : c < 256 := by rw [← hc]; exact UInt8.toNat_lt _
                simp only [badB, hc] at hf
                have hk1 : (k : Int) + 1 ≤ 9223372036854775807 := by omega
                have HF := Lib.hid (And.intro hf hpn)
                clear hf hpn hdrop
                cases hbad : badC (prev k) c with
                | true =>
                  have hRf : false = R := by
                    have h1 := HF.out.1
                    rw [hbad, Bool.true_or] at h1
                    rw [← HR.out, HBB.out, ← h1]
                    rfl
                  subst hRf
                  by_cases h32 : c < 32
                  · have g1 : decide ((c : Int) < 32) = true := decide_eq_true (by omega)
                    clear hbad hc
                    go_wp2
                    exact bodyPost_ret (v := .bool false) (by simp [results, Tryd.results16, go_sem]) rfl ⟨rfl, HB.out.trans HBW.out⟩
                  · have g1 : decide ((c : Int) < 32) = false := decide_eq_false (by omega)
                    by_cases h127 : c = 127
                    · subst h127
                      clear hbad hc
                      go_wp2
                      exact bodyPost_ret (v := .bool false) (by simp [results, Tryd.results16, go_sem]) rfl ⟨rfl, HB.out.trans HBW.out⟩
                    · have g2 : ((c : Int) == 127) = false := by simp; omega
                      by_cases h37 : c = 37
                      · subst h37
                        clear hbad hc
                        go_wp2
                        exact bodyPost_ret (v := .bool false) (by simp [results, Tryd.results16, go_sem]) rfl ⟨rfl, HB.out.trans HBW.out⟩
                      · have g3 : ((c : Int) == 37) = false := by simp; omega
                        by_cases h42 : c = 42
                        · subst h42
                          clear hbad hc
                          go_wp2
                          exact bodyPost_ret (v := .bool false) (by simp [results, Tryd.results16, go_sem]) rfl ⟨rfl, HB.out.trans HBW.out⟩
                        · have g4 : ((c : Int) == 42) = false := by simp; omega
                          have h47 : c = 47 ∧ prev k = 47 := by
                            simp [badC, h32, h127, h37, h42] at hbad
                            exact hbad
                          obtain ⟨h47c, hpk⟩ := h47
                          obtain ⟨j, hj⟩ : ∃ j, k = j + 1 := ⟨k - 1, by
                            rcases Nat.eq_zero_or_pos k with h0 | h0
                            · subst h0; rw [HPV.out.1] at hpk; omega
                            · omega⟩
                          have hjs : j < s.size := by omega
                          have hcj := str_at s j hjs
                          rw [hj, HPV.out.2] at hpk
                          rw [HL.out.1, hpk] at hcj
                          have hjz : (k : Int) - 1 = (j : Int) := by omega
                          have hjb : (j : Int) < (m : Int) + 1 := by omega
                          subst h47c
                          clear hbad hc hpk hj
                          go_wp2
                          exact bodyPost_ret (v := .bool false) (by simp [results, Tryd.results16, go_sem]) rfl ⟨rfl, HB.out.trans HBW.out⟩
                | false =>
                  have hbad' := hbad
                  simp only [badC, Bool.or_eq_false_iff, decide_eq_false_iff_not, beq_eq_false_iff_ne] at hbad'
                  obtain ⟨⟨⟨⟨h32, h127⟩, h37⟩, h42⟩, h47⟩ := hbad'
                  have g1 : decide ((c : Int) < 32) = false := decide_eq_false (by omega)
                  have g2 : ((c : Int) == 127) = false := by simp; omega
                  have g3 : ((c : Int) == 37) = false := by simp; omega
                  have g4 : ((c : Int) == 42) = false := by simp; omega
                  have hf2 : badB (prev (k + 1)) (l.drop (k + 1)) = badB 32 l := by
                    have h1 := HF.out.1
                    rw [hbad, Bool.false_or] at h1
                    rw [HF.out.2]
                    exact h1
                  have HF2 := Lib.hid hf2
                  clear hbad hf2 h32 h127 h37 h42
                  by_cases h47r : c = 47
                  · have hpk : prev k ≠ 47 := by
                      intro e
                      rw [e, h47r] at h47
                      simp at h47
                    obtain ⟨j, hj⟩ : ∃ j, k = j + 1 := ⟨k - 1, by
                      rcases Nat.eq_zero_or_pos k with h0 | h0
                      · subst h0
                        exfalso
                        apply hx47
                        rw [← hx0, hck, h47r]
                      · omega⟩
                    have hjs : j < s.size := by omega
                    have hcj := str_at s j hjs
                    rw [hj, HPV.out.2] at hpk
                    rw [HL.out.1] at hcj
                    obtain ⟨a, ha⟩ : ∃ a, (l.getD j 0).toNat = a := ⟨_, rfl⟩
                    rw [ha] at hcj hpk
                    have g5 : ((a : Int) == 47) = false := by simp; omega
                    have hjz : (k : Int) - 1 = (j : Int) := by omega
                    have hjb : (j : Int) < (m : Int) + 1 := by omega
                    subst h47r
                    clear h47 hc ha hpk hj
                    go_wp2
                    go_roundw
                    case rel => exact ⟨k + 1, by simp, HBW.out, HF2.out, by omega⟩
                    case measure => simp [RowKit.intOf]; omega
                  · have g5 : ((c : Int) == 47) = false := by simp; omega
                    clear h47 hc
                    go_wp2
                    go_roundw
                    case rel => exact ⟨k + 1, by simp, HBW.out, HF2.out, by omega⟩
                    case measure => simp [RowKit.intOf]; omega
              · have hkz : ¬ ((k : Int) < (m : Int) + 1) := by omega
                have hd : l.drop k = [] := List.drop_eq_nil_of_le (by rw [← HL.out.2]; omega)
                rw [hd] at hf
                have hb0 : badR 32 (runesD l) = false := by rw [HBB.out, ← hf]; rfl
                have HRL : Hid (lastB l = R) := by
                  apply Lib.hid
                  rw [← HR.out, hb0]
                  rfl
                clear hf hb0 hd
                have hsm := fold_any s (by omega) wr
                rw [HL.out.1] at hsm
                have htl : s.toList = l := by rw [Lib.toList_data, HL.out.1]
                have htl2 := strL_toList (foldL l)
                obtain ⟨fl, hfl⟩ : ∃ fl, foldL l = fl := ⟨_, rfl⟩
                rw [hfl] at hsm htl2
                have HFL := Lib.hid hfl
                have hwr := HBW.out.size
                clear hfl
                cases hb1 : (l == [73, 78, 66, 79, 88]) with
                | true =>
                  have hRf : true = R := by
                    rw [← HRL.out, lastB, inbS, hb1]
                    rfl
                  subst hRf
                  clear hsm
                  go_wp2
                  go_ret
                  exact ⟨rfl, HB.out.trans HBW.out⟩
                | false =>
                  cases hb2 : (fl == [105, 110, 98, 111, 120]) with
                  | true =>
                    have hRf : false = R := by
                      rw [← HRL.out, lastB, inbS, hb1, HFL.out]
                      simp only [bne, inbL, hb2]
                      rfl
                    subst hRf
                    go_wp2_with (go_at_call 28; refine hsm.mono ?_; rintro e w4 ⟨rfl, hb4⟩; have HB4 := Lib.hid hb4; clear hb4)
                    go_ret
                    exact ⟨rfl, HB.out.trans (HBW.out.trans (HB4.out.mono (by omega)))⟩
                  | false =>
                    have hRf : true = R := by
                      rw [← HRL.out, lastB, inbS, hb1, HFL.out]
                      simp only [bne, inbL, hb2]
                      rfl
                    subst hRf
                    go_wp2_with (go_at_call 28; refine hsm.mono ?_; rintro e w4 ⟨rfl, hb4⟩; have HB4 := Lib.hid hb4; clear hb4)
                    go_ret
                    exact ⟨rfl, HB.out.trans (HBW.out.trans (HB4.out.mono (by omega)))⟩

set_option maxHeartbeats 400000 in
set_option maxRecDepth 100000 in
theorem rightlaw_any (s : ByteArray) (hs : s.size ≤ 9223372036854775807) (w : World) (hT : Tabs w) : Calls Tryd.prog 6 #[.string s] w fun e w' => e = .returned (.bool true) ∧ Below w.heap.size w w' := by
  obtain ⟨R, hR⟩ : ∃ R, rightS s.data.toList = R := ⟨_, rfl⟩
  have h1 := awake_any w hT
  have h2 := fun w hT => right_any s hs w hT
  have h3 := fun w hT => rright_any s hs w hT
  rw [hR] at h2 h3
  have HT := Lib.hid hT
  have H2 := Lib.hid h2
  have H3 := Lib.hid h3
  clear hT h2 h3 hR hs
  go_enter Tryd.func6, Tryd.ntmps6
  go_wp2_with (first
    | (go_at_call 12; refine h1.mono ?_; rintro e w1 ⟨rfl, hb1⟩; have HB1 := Lib.hid hb1; have hs1 := hb1.size; have HT1 := Lib.hid (HT.out.below hb1 HT.out.size); clear hb1)
    | (go_at_call 15; refine (H2.out _ HT1.out).mono ?_; rintro e w2 ⟨rfl, hb2⟩; have HB2 := Lib.hid (HB1.out.trans (hb2.mono hs1)); have hs2 := hb2.size; have HT2 := Lib.hid (HT1.out.below hb2 HT1.out.size); clear hb2)
    | (go_at_call 16; refine (H3.out _ HT2.out).mono ?_; rintro e w3 ⟨rfl, hb3⟩; have HB3 := Lib.hid (HB2.out.trans (hb3.mono (by omega))); clear hb3))
  all_goals (go_ret; exact ⟨rfl, HB3.out⟩)
end Go.Proofs.YtcddppgnmephnaaDoor
