/-
  The reference's value of a digit.
-/
import Derived.Test.YtcddppgnmephnaaDoorFarP
namespace Go.Proofs.YtcddppgnmephnaaDoor
set_option linter.unusedVariables false
open Go.RowKit Go.Lib

theorem digVal_found (c k : Nat) (hk : k < 64) (h : (digit k).toNat = c) (hb : ∀ j, j < k → (digit j).toNat ≠ c) : digVal c = some k := by
  unfold digVal
  rw [List.find?_eq_some_iff_getElem]
  refine ⟨by simp [h], k, by simpa using hk, by simp, fun j hj => ?_⟩
  have := hb j hj
  simp [this]
theorem digVal_miss (c : Nat) (hb : ∀ j, j < 64 → (digit j).toNat ≠ c) : digVal c = none := by
  unfold digVal
  rw [List.find?_eq_none]
  intro k hk
  have := hb k (by simpa using hk)
  simp [this]

set_option maxHeartbeats 1000000 in
set_option maxRecDepth 100000 in
theorem rval_any (c : Nat) (hc : c < 256) (w : World) :
    Calls Tryd.prog 25 #[.int .u8 (c : Int)] w fun e w' => e = .returned (.int .i64 (idxV c)) ∧ w' = w := by
  go_enter Tryd.func25, Tryd.ntmps25
  go_wp2
  go_loopw [3] (fun i wr => ∃ k : Nat, i = .int .i64 (k : Int) ∧ wr = w ∧ k ≤ 64 ∧ ∀ j, j < k → (digit j).toNat ≠ c) (fun i _ => 64 - (RowKit.intOf i).toNat)
  case atStart => exact ⟨0, rfl, rfl, by omega, fun j hj => by omega⟩
  case round =>
    obtain ⟨k, rfl, rfl, hk, hb⟩ := hrel
    have HB := Lib.hid hb
    clear hb
    by_cases hkl : k < 64
    · have hkz : (k : Int) < 64 := by omega
      have hdx := dig_str k hkl
      obtain ⟨x, hx⟩ : ∃ x, (digit k).toNat = x := ⟨_, rfl⟩
      rw [hx] at hdx
      by_cases hxc : x = c
      · have hz : ((x : Int) == (c : Int)) = true := by simp; omega
        have HV := Lib.hid (show idxV c = (k : Int) by rw [idxV, digVal_found c k hkl (hx.trans hxc) HB.out])
        clear hx hxc
        go_wp2
        go_ret
        rw [HV.out]
        exact ⟨rfl, rfl⟩
      · have hz : ((x : Int) == (c : Int)) = false := by simp; omega
        have HN := Lib.hid (show ∀ j, j < k + 1 → (digit j).toNat ≠ c from fun j hj => by
          rcases Nat.lt_succ_iff_lt_or_eq.1 hj with h | h
          · exact HB.out j h
          · rw [h, hx]; exact hxc)
        clear hx hxc
        go_wp2
        go_roundw
        case rel => exact ⟨k + 1, by simp, by first | rfl | trivial, by omega, HN.out⟩
        case measure => simp [RowKit.intOf]; omega
    · have hkz : ¬ ((k : Int) < 64) := by omega
      have HV := Lib.hid (show idxV c = -1 by rw [idxV, digVal_miss c (fun j hj => HB.out j (by omega))])
      go_wp2
      go_ret
      rw [HV.out]
      exact ⟨rfl, rfl⟩
end Go.Proofs.YtcddppgnmephnaaDoor
