/-
  The contracts of the lexer's small functions.
-/
import Derived.Test.YtacalpgiopgkkaaDoorS9Mem
import Derived.Test.YtacalpgiopgkkaaDoorS9FlagP
import Derived.IntWalk
import Derived.WalkSpells
import Derived.BigQuiet
import Derived.Deep.QuietTactic
namespace Go.Proofs.YtacalpgiopgkkaaDoor
namespace S9
set_option linter.unusedVariables false
open Go.RowKit

set_option maxRecDepth 100000 in
set_option maxHeartbeats 1000000 in
theorem single_any (c : Nat) (hc : c < 256) (w : World) : Calls Tryd.prog 77 #[.int .u8 (c : Int)] w fun e w' => e = .returned (.int .i64 (singleN c : Nat)) ∧ w = w' := by
  by_cases h1 : c = 40
  · subst h1
    go_enter Tryd.func77, Tryd.ntmps77
    go_wp2_with fail
    go_ret
    exact ⟨rfl, rfl⟩
  by_cases h2 : c = 41
  · subst h2
    go_enter Tryd.func77, Tryd.ntmps77
    go_wp2_with fail
    go_ret
    exact ⟨rfl, rfl⟩
  by_cases h3 : c = 91
  · subst h3
    go_enter Tryd.func77, Tryd.ntmps77
    go_wp2_with fail
    go_ret
    exact ⟨rfl, rfl⟩
  by_cases h4 : c = 93
  · subst h4
    go_enter Tryd.func77, Tryd.ntmps77
    go_wp2_with fail
    go_ret
    exact ⟨rfl, rfl⟩
  by_cases h5 : c = 32
  · subst h5
    go_enter Tryd.func77, Tryd.ntmps77
    go_wp2_with fail
    go_ret
    exact ⟨rfl, rfl⟩
  have g1 : ((c : Int) == 40) = false := beq_false_of_ne (by omega)
  have g2 : ((c : Int) == 41) = false := beq_false_of_ne (by omega)
  have g3 : ((c : Int) == 91) = false := beq_false_of_ne (by omega)
  have g4 : ((c : Int) == 93) = false := beq_false_of_ne (by omega)
  have g5 : ((c : Int) == 32) = false := beq_false_of_ne (by omega)
  have e : singleN c = 0 := by unfold singleN; rw [if_neg h1, if_neg h2, if_neg h3, if_neg h4, if_neg h5]
  rw [e]
  clear h1 h2 h3 h4 h5 e
  go_enter Tryd.func77, Tryd.ntmps77
  go_wp2_with fail
  go_ret
  exact ⟨rfl, rfl⟩

set_option maxRecDepth 100000 in
set_option maxHeartbeats 1000000 in
theorem inAtom_any (c : Nat) (hc : c < 256) (w : World) : Calls Tryd.prog 66 #[.int .u8 (c : Int)] w fun e w' => e = .returned (.bool (inAtomN c)) ∧ w = w' := by
  have hs := single_any c hc
  have HS := Lib.hid hs
  clear hs
  by_cases h1 : 32 < c
  · by_cases h2 : c ≤ 126
    · by_cases h3 : singleN c = 0
      · rw [h3] at HS
        by_cases h4 : c = 123
        · subst h4
          go_enter Tryd.func66, Tryd.ntmps66
          go_wp2_with fail
          refine (HS.out _).mono ?_
          rintro e w1 ⟨rfl, rfl⟩
          go_wp2_with fail
          go_ret
          exact ⟨rfl, rfl⟩
        by_cases h5 : c = 34
        · subst h5
          go_enter Tryd.func66, Tryd.ntmps66
          go_wp2_with fail
          refine (HS.out _).mono ?_
          rintro e w1 ⟨rfl, rfl⟩
          go_wp2_with fail
          go_ret
          exact ⟨rfl, rfl⟩
        have e : inAtomN c = true := by unfold inAtomN; simp [h1, h2, h3, h4, h5]
        have g1 : 32 < (c : Int) := by omega
        have g2 : (c : Int) ≤ 126 := by omega
        have g4 : ¬ (c : Int) = 123 := by omega
        have g5 : ¬ (c : Int) = 34 := by omega
        rw [e]
        clear e
        go_enter Tryd.func66, Tryd.ntmps66
        go_wp2_with fail
        refine (HS.out _).mono ?_
        rintro e w1 ⟨rfl, rfl⟩
        go_wp2_with fail
        go_ret
        exact ⟨ret_eq (by simp [g4, g5] <;> omega), rfl⟩
      · have e : inAtomN c = false := by unfold inAtomN; simp [h3]
        have g1 : 32 < (c : Int) := by omega
        have g2 : (c : Int) ≤ 126 := by omega
        have g3 : ¬ ((singleN c : Nat) : Int) = 0 := by omega
        rw [e]
        clear e h3
        generalize ((singleN c : Nat) : Int) = sg at *
        go_enter Tryd.func66, Tryd.ntmps66
        go_wp2_with fail
        refine (HS.out _).mono ?_
        rintro e w1 ⟨rfl, rfl⟩
        go_wp2_with fail
        go_ret
        exact ⟨ret_eq (by simp), rfl⟩
    · have g1 : 32 < (c : Int) := by omega
      have g2 : 126 < (c : Int) := by omega
      have e : inAtomN c = false := by unfold inAtomN; simp [h2]
      rw [e]
      clear e
      go_enter Tryd.func66, Tryd.ntmps66
      go_wp2_with fail
      go_ret
      exact ⟨ret_eq (by simp <;> omega), rfl⟩
  · have g1 : (c : Int) ≤ 32 := by omega
    have e : inAtomN c = false := by unfold inAtomN; simp [h1]
    rw [e]
    clear e
    go_enter Tryd.func66, Tryd.ntmps66
    go_wp2_with fail
    go_ret
    exact ⟨ret_eq (by simp <;> omega), rfl⟩


/-- a text is an atom -/
theorem atom_all {l : Tx} (h : ∀ c ∈ l, inAtomN c.toNat = true) (h0 : l ≠ []) : atomL l = true := by
  unfold atomL
  simp only [Bool.and_eq_true, List.all_eq_true, Bool.not_eq_true', List.isEmpty_eq_false_iff]
  exact ⟨h, h0⟩
theorem atom_not {l : Tx} {k : Nat} (hk : k < l.length) (h : inAtomN l[k].toNat = false) : atomL l = false := by
  unfold atomL
  rw [show l.all (fun c => inAtomN c.toNat) = false from ?_]
  · rfl
  · rw [← Bool.not_eq_true]
    intro ha
    have := List.all_eq_true.1 ha _ (List.getElem_mem hk)
    rw [h] at this
    cases this

set_option maxRecDepth 100000 in
set_option maxHeartbeats 1000000 in
theorem atom_any (l : Tx) (hs : l.length ≤ 140737488351232) (w : World) : Calls Tryd.prog 49 #[.string ⟨l.toArray⟩] w fun e w' => e = .returned (.bool (atomL l)) ∧ w' = w := by
  obtain ⟨s, hS⟩ : ∃ s : ByteArray, s = ⟨l.toArray⟩ := ⟨_, rfl⟩
  obtain ⟨n, hn⟩ : ∃ n, l.length = n := ⟨_, rfl⟩
  have hsz : s.size = n := by subst hS hn; rfl
  have HN := Lib.hid hn
  have HS := Lib.hid hS
  rw [← hS]
  clear hS hn
  go_enter Tryd.func49, Tryd.ntmps49
  go_wp2_with fail
  go_loopw [6] (fun i wr => ∃ k : Nat, i = .int .i64 k ∧ k ≤ n ∧ wr = w ∧ ∀ j (h : j < l.length), j < k → inAtomN l[j].toNat = true) (fun i _ => n - (RowKit.intOf i).toNat)
  case atStart => exact ⟨0, rfl, by omega, rfl, fun j h g => by omega⟩
  case round =>
    obtain ⟨k, rfl, hk, rfl, hall⟩ := hrel
    have HA := Lib.hid hall
    clear hall
    by_cases hkn : k < n
    · have hkz : (k : Int) < (n : Int) := by omega
      have hkl : k < l.length := by rw [HN.out]; exact hkn
      have hks : k < s.size := by omega
      have hsk : s[k] = l[k] := by have := HS.out; subst this; rfl
      obtain ⟨c, hc⟩ : ∃ c, s[k].toNat = c := ⟨_, rfl⟩
      have hlc : l[k].toNat = c := by rw [← hsk]; exact hc
      have hc2 : c < 256 := by rw [← hc]; exact (s[k]).toNat_lt
      cases hv : inAtomN c with
      | true =>
        have HV := Lib.hid (inAtom_any c hc2)
        rw [hv] at HV
        have HA2 : Hid (∀ j (h : j < l.length), j < k + 1 → inAtomN l[j].toNat = true) := Lib.hid (fun j h g => by
          by_cases e : j = k
          · subst e; rw [hlc]; exact hv
          · exact HA.out j h (by omega))
        clear hsk hlc hv
        go_wp2_with fail
        refine (HV.out _).mono ?_
        rintro e w2 ⟨rfl, rfl⟩
        go_wp2_with fail
        go_roundw
        case rel => exact ⟨k + 1, by simp, by omega, by first | rfl | trivial, HA2.out⟩
        case measure => simp [RowKit.intOf]; omega
      | false =>
        have HV := Lib.hid (inAtom_any c hc2)
        rw [hv] at HV
        have HF := Lib.hid (atom_not hkl (by rw [hlc]; exact hv))
        clear hsk hlc hv
        go_wp2_with fail
        refine (HV.out _).mono ?_
        rintro e w2 ⟨rfl, rfl⟩
        go_wp2_with fail
        go_ret
        exact ⟨by rw [HF.out]; first | rfl | simp, rfl⟩
    · have hkz : ¬ ((k : Int) < (n : Int)) := by omega
      have hall : ∀ c ∈ l, inAtomN c.toNat = true := fun c hc => by
        obtain ⟨j, hj, rfl⟩ := List.mem_iff_getElem.1 hc
        exact HA.out j hj (by have := HN.out; omega)
      by_cases h0 : l = []
      · have he : s.toList.isEmpty = true := by rw [Go.ByteArray.toList_eq]; have := HS.out; subst this; subst h0; rfl
        have HF : Hid (atomL l = false) := Lib.hid (by subst h0; rfl)
        clear hall h0
        go_wp2_with fail
        go_ret
        exact ⟨by rw [HF.out]; first | rfl | simp, rfl⟩
      · have he : s.toList.isEmpty = false := by rw [Go.ByteArray.toList_eq]; have := HS.out; subst this; simpa using h0
        have HF : Hid (atomL l = true) := Lib.hid (atom_all hall h0)
        clear hall h0
        go_wp2_with fail
        go_ret
        exact ⟨by rw [HF.out]; first | rfl | simp, rfl⟩
end S9
end Go.Proofs.YtacalpgiopgkkaaDoor
