/-
  signed: what is no zone.
-/
import Derived.Test.YthcgdbmcpnmeeaaMonth
namespace Go.Proofs.Ythcgdbmcpnmeeaa
set_option linter.unusedVariables false
open Go.RowKit

set_option maxHeartbeats 1000000 in
theorem signed_no (c : UInt8) (h m : Int) (w : World) (h0 : 0 ≤ h) (h1 : h ≤ 9999) (m0 : 0 ≤ m) (m1 : m ≤ 9999) (n : 59 < m ∨ ((c.toNat : Int) ≠ 43 ∧ (c.toNat : Int) ≠ 45) ∨ ((c.toNat : Int) = 45 ∧ h * 60 + m = 0)) :
    Calls Try.prog 16 #[.int .u8 c.toNat, .int .i64 h, .int .i64 m] w fun e w' => e = .returned (.tuple #[.int .i64 0, .bool false]) ∧ w = w' := by
  have hc0 : 0 ≤ (c.toNat : Int) := by omega
  have hc1 : (c.toNat : Int) ≤ 255 := by have := c.toNat_lt; omega
  generalize (c.toNat : Int) = x at *
  by_cases hm : 59 < m
  · clear n
    go_enter Try.func16, Try.ntmps16
    go_wp2_with fail
    exact bodyPost_ret (v := .tuple #[.int .i64 0, .bool false]) (by simp [results, Try.results16, go_sem]) rfl ⟨rfl, rfl⟩
  · have hm' : m ≤ 59 := by omega
    have e9 : decide (59 < m) = false := by simp; omega
    by_cases ht : x ≠ 43 ∧ x ≠ 45
    · have e1 : (x != 43) = true := by simpa using ht.1
      have e2 : (x != 45) = true := by simpa using ht.2
      clear n ht hm
      go_enter Try.func16, Try.ntmps16
      go_wp2_with fail
      exact bodyPost_ret (v := .tuple #[.int .i64 0, .bool false]) (by simp [results, Try.results16, go_sem]) rfl ⟨rfl, rfl⟩
    · obtain ⟨rfl, hz⟩ : x = 45 ∧ h * 60 + m = 0 := by
        rcases n with n | n | n
        · omega
        · exact absurd n ht
        · exact n
      obtain ⟨rfl, rfl⟩ : h = 0 ∧ m = 0 := by omega
      clear n ht hm hz
      go_enter Try.func16, Try.ntmps16
      go_wp2_with fail
      exact bodyPost_ret (v := .tuple #[.int .i64 0, .bool false]) (by simp [results, Try.results16, go_sem]) rfl ⟨rfl, rfl⟩
end Go.Proofs.Ythcgdbmcpnmeeaa
