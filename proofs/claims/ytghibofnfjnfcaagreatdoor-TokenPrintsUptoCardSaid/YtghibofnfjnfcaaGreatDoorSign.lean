/-
  The contracts of the lexer's small functions.
-/
import Derived.Test.YtghibofnfjnfcaaGreatDoorLexP
import Derived.IntWalk
import Derived.WalkSpells
import Derived.BigQuiet
import Derived.Deep.QuietTactic
namespace Go.Proofs.YtghibofnfjnfcaaGreatDoor
set_option linter.unusedVariables false
open Go.RowKit

set_option maxRecDepth 100000 in
set_option maxHeartbeats 1000000 in
theorem single_any (c : Nat) (hc : c < 256) (w : World) : Calls Tryz.prog 35 #[.int .u8 (c : Int)] w fun e w' => e = .returned (.int .i64 (singleN c : Nat)) ∧ w = w' := by
  by_cases h1 : c = 40
  · subst h1
    go_enter Tryz.func35, Tryz.ntmps35
    go_wp2_with fail
    go_ret
    exact ⟨rfl, rfl⟩
  by_cases h2 : c = 41
  · subst h2
    go_enter Tryz.func35, Tryz.ntmps35
    go_wp2_with fail
    go_ret
    exact ⟨rfl, rfl⟩
  by_cases h3 : c = 91
  · subst h3
    go_enter Tryz.func35, Tryz.ntmps35
    go_wp2_with fail
    go_ret
    exact ⟨rfl, rfl⟩
  by_cases h4 : c = 93
  · subst h4
    go_enter Tryz.func35, Tryz.ntmps35
    go_wp2_with fail
    go_ret
    exact ⟨rfl, rfl⟩
  by_cases h5 : c = 32
  · subst h5
    go_enter Tryz.func35, Tryz.ntmps35
    go_wp2_with fail
    go_ret
    exact ⟨rfl, rfl⟩
  have g1 : ((c : Int) == 40) = false := beq_false_of_ne (by omega)
  have g2 : ((c : Int) == 41) = false := beq_false_of_ne (by omega)
  have g3 : ((c : Int) == 91) = false := beq_false_of_ne (by omega)
  have g4 : ((c : Int) == 93) = false := beq_false_of_ne (by omega)
  have g5 : ((c : Int) == 32) = false := beq_false_of_ne (by omega)
  have e : singleN c = 0 := by unfold singleN; rw [if_neg h1, if_neg h2, if_neg h3, if_neg h4, if_neg h5]
  rw [e]
  clear h1 h2 h3 h4 h5 e
  go_enter Tryz.func35, Tryz.ntmps35
  go_wp2_with fail
  go_ret
  exact ⟨rfl, rfl⟩

set_option maxRecDepth 100000 in
set_option maxHeartbeats 1000000 in
theorem inAtom_any (c : Nat) (hc : c < 256) (w : World) : Calls Tryz.prog 24 #[.int .u8 (c : Int)] w fun e w' => e = .returned (.bool (inAtomN c)) ∧ w = w' := by
  have hs := single_any c hc
  have HS := Lib.hid hs
  clear hs
  by_cases h1 : 32 < c
  · by_cases h2 : c ≤ 126
    · by_cases h3 : singleN c = 0
      · rw [h3] at HS
        by_cases h4 : c = 123
        · subst h4
          go_enter Tryz.func24, Tryz.ntmps24
          go_wp2_with fail
          refine (HS.out _).mono ?_
          rintro e w1 ⟨rfl, rfl⟩
          go_wp2_with fail
          go_ret
          exact ⟨rfl, rfl⟩
        by_cases h5 : c = 34
        · subst h5
          go_enter Tryz.func24, Tryz.ntmps24
          go_wp2_with fail
          refine (HS.out _).mono ?_
          rintro e w1 ⟨rfl, rfl⟩
          go_wp2_with fail
          go_ret
          exact ⟨rfl, rfl⟩
        have e : inAtomN c = true := by unfold inAtomN; simp [h1, h2, h3, h4, h5]
        have g1 : 32 < (c : Int) := by omega
        have g2 : (c : Int) ≤ 126 := by omega
        have g4 : ¬ (c : Int) = 123 := by omega
        have g5 : ¬ (c : Int) = 34 := by omega
        rw [e]
        clear e
        go_enter Tryz.func24, Tryz.ntmps24
        go_wp2_with fail
        refine (HS.out _).mono ?_
        rintro e w1 ⟨rfl, rfl⟩
        go_wp2_with fail
        go_ret
        exact ⟨ret_eq (by simp [g4, g5] <;> omega), rfl⟩
      · have e : inAtomN c = false := by unfold inAtomN; simp [h3]
        have g1 : 32 < (c : Int) := by omega
        have g2 : (c : Int) ≤ 126 := by omega
        have g3 : ¬ ((singleN c : Nat) : Int) = 0 := by omega
        rw [e]
        clear e h3
        generalize ((singleN c : Nat) : Int) = sg at *
        go_enter Tryz.func24, Tryz.ntmps24
        go_wp2_with fail
        refine (HS.out _).mono ?_
        rintro e w1 ⟨rfl, rfl⟩
        go_wp2_with fail
        go_ret
        exact ⟨ret_eq (by simp), rfl⟩
    · have g1 : 32 < (c : Int) := by omega
      have g2 : 126 < (c : Int) := by omega
      have e : inAtomN c = false := by unfold inAtomN; simp [h2]
      rw [e]
      clear e
      go_enter Tryz.func24, Tryz.ntmps24
      go_wp2_with fail
      go_ret
      exact ⟨ret_eq (by simp <;> omega), rfl⟩
  · have g1 : (c : Int) ≤ 32 := by omega
    have e : inAtomN c = false := by unfold inAtomN; simp [h1]
    rw [e]
    clear e
    go_enter Tryz.func24, Tryz.ntmps24
    go_wp2_with fail
    go_ret
    exact ⟨ret_eq (by simp <;> omega), rfl⟩

set_option maxRecDepth 100000 in
set_option maxHeartbeats 1000000 in
theorem inQuo_any (c : Nat) (hc : c < 256) (w : World) : Calls Tryz.prog 37 #[.int .u8 (c : Int)] w fun e w' => e = .returned (.bool (inQuoN c)) ∧ w = w' := by
  by_cases h0 : c = 0
  · subst h0
    go_enter Tryz.func37, Tryz.ntmps37
    go_wp2_with fail
    go_ret
    exact ⟨rfl, rfl⟩
  by_cases h1 : c = 13
  · subst h1
    go_enter Tryz.func37, Tryz.ntmps37
    go_wp2_with fail
    go_ret
    exact ⟨rfl, rfl⟩
  by_cases h2 : c = 10
  · subst h2
    go_enter Tryz.func37, Tryz.ntmps37
    go_wp2_with fail
    go_ret
    exact ⟨rfl, rfl⟩
  have g0 : 0 < c := by omega
  have g1 : ¬ (c : Int) = 13 := by omega
  have g2 : ¬ (c : Int) = 10 := by omega
  by_cases h3 : c ≤ 127
  · have g3 : (c : Int) ≤ 127 := by omega
    have e : inQuoN c = true := by unfold inQuoN; simp [g0, h1, h2, h3]
    rw [e]
    clear e
    go_enter Tryz.func37, Tryz.ntmps37
    go_wp2_with fail
    go_ret
    exact ⟨ret_eq (by simp [g1, g2] <;> omega), rfl⟩
  · have g3 : 127 < (c : Int) := by omega
    have e : inQuoN c = false := by unfold inQuoN; simp [h3]
    rw [e]
    clear e
    go_enter Tryz.func37, Tryz.ntmps37
    go_wp2_with fail
    go_ret
    exact ⟨ret_eq (by simp <;> omega), rfl⟩
end Go.Proofs.YtghibofnfjnfcaaGreatDoor
