/-
  The contract of the reference's Seconds.
-/
import Derived.Test.YthcgdbmcpnmeeaaDoorSeconds
import Derived.Test.YthcgdbmcpnmeeaaDoorRYear
import Derived.Test.YthcgdbmcpnmeeaaDoorRNo
namespace Go.Proofs.YthcgdbmcpnmeeaaDoor
set_option linter.unusedVariables false
open Go.RowKit

theorem ahead_up (k : Nat) : aheadN (k + 1) = aheadN k + yr (1900 + k) := rfl

set_option maxHeartbeats 2000000 in
theorem rsecs_any (y mo d h mi s z : Int) (w : World) (r : RightS y mo d h mi s z) : Calls Tryd.prog 11 #[.agg #[.int .i64 y, .int .i64 mo, .int .i64 d, .int .i64 h, .int .i64 mi, .int .i64 s, .int .i64 z]] w fun e w' => e = .returned (.int .i64 (secs y mo d h mi s z)) ∧ Below w.heap.size w w' := by
  have R := Lib.hid r
  obtain ⟨a1, a2, a3, a4, a5, a6, a7, a8, a9, a10, a11, a12, a13, a14⟩ := r
  have hdm := dim_bd y mo
  have st0 := StAt.new w y mo d h mi s z
  have ST0 := Lib.hid st0
  clear st0
  obtain ⟨a, ha⟩ : ∃ a : Nat, y = 1900 + (a : Int) := ⟨(y - 1900).toNat, by omega⟩
  have HA := Lib.hid ha
  have ha1 : 1900 + (a : Int) ≤ y ∧ y ≤ 1900 + (a : Int) := by omega
  clear ha
  go_enter Tryd.func11, Tryd.ntmps11
  go_wp2_with fail
  refine (rright_yes y mo d h mi s z _ R.out).mono ?_
  rintro e w1 ⟨rfl, hb1⟩
  have st1 := ST0.out.below hb1 (by simp)
  have hb01 : Below w.heap.size w w1 := ((Below.refl _ _).alloc (Nat.le_refl _) _).trans (hb1.mono (by simp))
  obtain ⟨c0, c1, c2, c3, c4, c5, c6⟩ := id st1
  have HB := Lib.hid hb01
  clear hb1 hb01
  go_wp2_with fail
  go_loop [3, 4] (fun n i => ∃ k : Nat, (k = 0 ∨ 1970 + (k : Int) ≤ y) ∧ i = .int .i64 (1970 + (k : Int)) ∧ n = .int .i64 (aheadN (70 + k) - aheadN 70)) (fun _ i => (3000 - intOf i).toNat)
  case atStart => exact ⟨0, .inl rfl, rfl, by simp⟩
  case round =>
    obtain ⟨k, hk, rfl, rfl⟩ := hrel
    have hbk := ahead_bd (70 + k)
    have hb7 := ahead_bd 70
    by_cases hlt : 1970 + (k : Int) < y
    · have hyb := yr_bd (1970 + (k : Int))
      have he : Hid (aheadN (70 + (k + 1)) = aheadN (70 + k) + yr (1970 + (k : Int))) := by
        refine Lib.hid ?_
        rw [← Nat.add_assoc, ahead_up]
        rw [show (1900 + ((70 + k : Nat) : Int)) = 1970 + (k : Int) by omega]
      go_wp2_with fail
      refine (ryear_any (1970 + (k : Int)) _ (by omega) (by omega)).mono ?_
      rintro e w2 ⟨rfl, rfl⟩
      go_wp2_with fail
      go_round
      case rel => exact ⟨k + 1, .inr (by omega), by go_num, congrArg (Value.int .i64) (by rw [he.out]; omega)⟩
      case measure => simp [intOf]; omega
    · go_wp2_with fail
      have hn1 : -500000 ≤ aheadN (70 + k) - aheadN 70 ∧ aheadN (70 + k) - aheadN 70 ≤ 500000 := by omega
      obtain ⟨N1, hN1⟩ : ∃ N1, N1 = aheadN (70 + k) - aheadN 70 := ⟨_, rfl⟩
      rw [← hN1] at hn1
      rw [← hN1]
      have HN1 := Lib.hid hN1
      clear hN1
      go_loop [3, 5] (fun n i => ∃ j : Nat, (j = 0 ∨ y + (j : Int) ≤ 1970) ∧ i = .int .i64 (y + (j : Int)) ∧ n = .int .i64 (N1 - (aheadN (a + j) - aheadN a))) (fun _ i => (1970 - intOf i).toNat)
      case atStart => exact ⟨0, .inl rfl, by simp, by simp⟩
      case round =>
        obtain ⟨j, hj, rfl, rfl⟩ := hrel
        have hbj := ahead_bd (a + j)
        have hba := ahead_bd a
        by_cases hlt2 : y + (j : Int) < 1970
        · have hyb := yr_bd (y + (j : Int))
          have he : Hid (aheadN (a + (j + 1)) = aheadN (a + j) + yr (y + (j : Int))) := by
            refine Lib.hid ?_
            rw [← Nat.add_assoc, ahead_up, HA.out]
            rw [show (1900 + ((a + j : Nat) : Int)) = 1900 + (a : Int) + (j : Int) by omega]
          go_wp2_with fail
          refine (ryear_any (y + (j : Int)) _ (by omega) (by omega)).mono ?_
          rintro e w2 ⟨rfl, rfl⟩
          go_wp2_with fail
          go_round
          case rel => exact ⟨j + 1, .inr (by omega), congrArg (Value.int .i64) (by omega), congrArg (Value.int .i64) (by rw [he.out]; omega)⟩
          case measure => simp [intOf]; omega
        · have hn2 : N1 - (aheadN (a + j) - aheadN a) = aheadN a - aheadN 70 := by
            rcases hj with rfl | hj
            · rcases hk with rfl | hk
              · have h70 : a = 70 := by omega
                rw [HN1.out, h70]; simp
              · have h70 : a = 70 + k := by omega
                rw [HN1.out, h70]; simp
            · have h70 : a + j = 70 := by omega
              have hk0 : k = 0 := by rcases hk with h | h <;> omega
              have e0 := HN1.out
              rw [hk0, Nat.add_zero, Int.sub_self] at e0
              rw [e0, h70]; omega
          have hn3 : -500000 ≤ aheadN a - aheadN 70 ∧ aheadN a - aheadN 70 ≤ 500000 := by omega
          rw [hn2]
          clear hn2 hbj hba hbk hb7
          obtain ⟨N2, hN2⟩ : ∃ N2, N2 = aheadN a - aheadN 70 := ⟨_, rfl⟩
          rw [← hN2] at hn3
          rw [← hN2]
          have HN2 := Lib.hid hN2
          clear hN2
          go_wp2_with fail
          go_loop [3, 6] (fun n i => ∃ m : Nat, 1 + (m : Int) ≤ mo ∧ i = .int .i64 (1 + (m : Int)) ∧ n = .int .i64 (N2 + cumN y m)) (fun _ i => (20 - intOf i).toNat)
          case atStart => exact ⟨0, by omega, rfl, by simp [cumN]⟩
          case round =>
            obtain ⟨m, hm, rfl, rfl⟩ := hrel
            have hbd := cum_bd y m
            by_cases hlt3 : 1 + (m : Int) < mo
            · have hdm2 := dim_bd y (1 + (m : Int))
              have he : Hid (cumN y (m + 1) = cumN y m + dim y (1 + (m : Int))) := by
                show cumN y m + dim y ((m : Int) + 1) = _
                rw [Int.add_comm (m : Int) 1]
              go_wp2_with fail
              refine (rdays_any y (1 + (m : Int)) _ (by omega) (by omega) (by omega) (by omega)).mono ?_
              rintro e w2 ⟨rfl, rfl⟩
              go_wp2_with fail
              go_round
              case rel => exact ⟨m + 1, by omega, by go_num, congrArg (Value.int .i64) (by rw [he.out, ← Int.add_assoc])⟩
              case measure => simp [intOf]; omega
            · obtain ⟨N3, hN3⟩ : ∃ N3, N3 = N2 + cumN y m := ⟨_, rfl⟩
              have hn4 : -600000 ≤ N3 ∧ N3 ≤ 600000 := by omega
              rw [← hN3]
              have HN3 := Lib.hid hN3
              clear hN3 hbd hn1 hn3
              go_wp2_with fail
              go_ret
              refine ⟨ret_eq (congrArg (Value.int .i64) ?_), HB.out⟩
              have hya : (y - 1900).toNat = a := by omega
              have hmo : (mo - 1).toNat = m := by omega
              unfold secs dayno
              rw [hya, hmo]
              have e2 := HN2.out
              have e3 := HN3.out
              omega

theorem rsecs_no (y mo d h mi s z : Int) (w : World) (n : ¬ RightS y mo d h mi s z) : Calls Tryd.prog 11 #[.agg #[.int .i64 y, .int .i64 mo, .int .i64 d, .int .i64 h, .int .i64 mi, .int .i64 s, .int .i64 z]] w fun e w' => e = .returned (.int .i64 0) ∧ Below w.heap.size w w' := by
  have N := Lib.hid n
  clear n
  have ST0 := Lib.hid (StAt.new w y mo d h mi s z)
  go_enter Tryd.func11, Tryd.ntmps11
  go_wp2_with fail
  refine (rright_no y mo d h mi s z _ N.out).mono ?_
  rintro e w1 ⟨rfl, hb1⟩
  have HB := Lib.hid (((Below.refl _ _).alloc (Nat.le_refl _) _).trans (hb1.mono (by simp)) : Below w.heap.size w w1)
  clear hb1
  go_wp2_with fail
  go_ret
  exact ⟨rfl, HB.out⟩
end Go.Proofs.YthcgdbmcpnmeeaaDoor
