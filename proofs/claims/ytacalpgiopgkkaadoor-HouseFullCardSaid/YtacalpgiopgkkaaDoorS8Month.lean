/-
  The contracts of months, month and signed.
-/
import Derived.Test.YtacalpgiopgkkaaDoorS8Numbers
namespace Go.Proofs.YtacalpgiopgkkaaDoor
namespace S8
set_option linter.unusedVariables false
open Go.RowKit

def names : List ByteArray := [⟨#[74, 97, 110]⟩, ⟨#[70, 101, 98]⟩, ⟨#[77, 97, 114]⟩, ⟨#[65, 112, 114]⟩, ⟨#[77, 97, 121]⟩, ⟨#[74, 117, 110]⟩, ⟨#[74, 117, 108]⟩, ⟨#[65, 117, 103]⟩, ⟨#[83, 101, 112]⟩, ⟨#[79, 99, 116]⟩, ⟨#[78, 111, 118]⟩, ⟨#[68, 101, 99]⟩]
def nameB (k : Nat) : ByteArray := names.getD k ⟨#[]⟩
def namesV : Array Value := (names.map Value.string).toArray
theorem namesV_at (k : Nat) (h : k < 12) : namesV[k]? = some (.string (nameB k)) := by
  have : k = 0 ∨ k = 1 ∨ k = 2 ∨ k = 3 ∨ k = 4 ∨ k = 5 ∨ k = 6 ∨ k = 7 ∨ k = 8 ∨ k = 9 ∨ k = 10 ∨ k = 11 := by omega
  rcases this with rfl | rfl | rfl | rfl | rfl | rfl | rfl | rfl | rfl | rfl | rfl | rfl <;> rfl
theorem nameB_ne (k j : Nat) (h : k < 12) (hj : j < 12) (hne : k ≠ j) : ((nameB k).toList == (nameB j).toList) = false := by
  have : ∀ a b : Fin 12, a ≠ b → ((nameB a).toList == (nameB b).toList) = false := by decide +kernel
  exact this ⟨k, h⟩ ⟨j, hj⟩ (by simpa using hne)

theorem months_any (w : World) : Calls Tryd.prog 46 #[] w fun e w' => e = .returned (.agg namesV) ∧ Below w.heap.size w w' := by
  go_enter Tryd.func46, Tryd.ntmps46
  go_wp2_with fail
  refine bodyPost_ret (v := .agg namesV) (results_cell_row rfl _ _ w.heap.size 99 namesV (0, 0) _ rfl (heap_alloc_new w _) Tryd.underlying99 rfl (by kernel_rfl)) rfl ⟨rfl, (Below.refl _ _).alloc (Nat.le_refl _) _⟩

theorem run_index_names (w : World) (i : Int) (v : Value) (hi : 0 ≤ i ∧ i < 12) (hv : namesV[i.toNat]? = some v) :
    (Instr.index 99 (.agg namesV) (.int .i64 i)).run Tryd.prog w = .ok v w := by
  simp [Instr.index, run_underlying Tryd.underlying99, asIntOf, hi, part, go_sem]
  rw [hv]
  rfl

set_option maxRecDepth 100000 in
set_option maxHeartbeats 1000000 in
theorem month_no (s : ByteArray) (w : World) (hs : ∀ j, j < 12 → ((nameB j).toList == s.toList) = false) : Calls Tryd.prog 43 #[.string s] w fun e w' => e = .returned (.int .i64 0) ∧ Below w.heap.size w w' := by
  have HS := Lib.hid hs
  clear hs
  go_enter Tryd.func43, Tryd.ntmps43
  go_wp2_with fail
  refine (months_any w).mono ?_
  rintro e w1 ⟨rfl, hb⟩
  go_wp2_with fail
  go_loop [6] (fun i => ∃ k : Nat, k ≤ 12 ∧ i = .int .i64 k) (fun i => 12 - (intOf i).toNat)
  case atStart => exact ⟨0, by omega, rfl⟩
  case round =>
    obtain ⟨k, hk, rfl⟩ := hrel
    by_cases hlt : k < 12
    · have hi := namesV_at k hlt
      have hne := HS.out k hlt
      go_wp2_with fail
      rw [run_index_names w1 k (.string (nameB k)) (by omega) (by simpa using hi)]
      go_wp2_with fail
      go_round
      case rel => exact ⟨k + 1, by omega, by go_num⟩
      case measure => simp [intOf]; omega
    · go_wp2_with fail
      go_ret
      exact ⟨rfl, hb⟩

set_option maxRecDepth 100000 in
set_option maxHeartbeats 1000000 in
theorem month_yes (j : Nat) (w : World) (hj : j < 12) : Calls Tryd.prog 43 #[.string (nameB j)] w fun e w' => e = .returned (.int .i64 ((j : Int) + 1)) ∧ Below w.heap.size w w' := by
  go_enter Tryd.func43, Tryd.ntmps43
  go_wp2_with fail
  refine (months_any w).mono ?_
  rintro e w1 ⟨rfl, hb⟩
  go_wp2_with fail
  go_loop [6] (fun i => ∃ k : Nat, k ≤ j ∧ i = .int .i64 k) (fun i => 12 - (intOf i).toNat)
  case atStart => exact ⟨0, by omega, rfl⟩
  case round =>
    obtain ⟨k, hk, rfl⟩ := hrel
    have hi := namesV_at k (by omega)
    by_cases hlt : k < j
    · have hne := nameB_ne k j (by omega) hj (by omega)
      go_wp2_with fail
      rw [run_index_names w1 k (.string (nameB k)) (by omega) (by simpa using hi)]
      go_wp2_with fail
      go_round
      case rel => exact ⟨k + 1, by omega, by go_num⟩
      case measure => simp [intOf]; omega
    · have hkj : k = j := by omega
      subst hkj
      have heq : ((nameB k).toList == (nameB k).toList) = true := by simp
      go_wp2_with fail
      rw [run_index_names w1 k (.string (nameB k)) (by omega) (by simpa using hi)]
      go_wp2_with fail
      go_ret
      exact ⟨rfl, hb⟩

set_option maxRecDepth 100000 in
set_option maxHeartbeats 1000000 in
theorem signed_plus (h m : Int) (w : World) (h0 : 0 ≤ h) (h1 : h ≤ 99) (m0 : 0 ≤ m) (m1 : m ≤ 59) : Calls Tryd.prog 42 #[.int .u8 43, .int .i64 h, .int .i64 m] w fun e w' => e = .returned (.tuple #[.int .i64 (h * 60 + m), .bool true]) ∧ w = w' := by
  go_enter Tryd.func42, Tryd.ntmps42
  go_wp2_with fail
  exact bodyPost_ret (v := .tuple #[.int .i64 (h * 60 + m), .bool true]) (by simp [results, Tryd.results42, go_sem]) rfl ⟨rfl, rfl⟩

set_option maxRecDepth 100000 in
set_option maxHeartbeats 1000000 in
theorem signed_minus (h m : Int) (w : World) (h0 : 0 ≤ h) (h1 : h ≤ 99) (m0 : 0 ≤ m) (m1 : m ≤ 59) (hz : 0 < h * 60 + m) : Calls Tryd.prog 42 #[.int .u8 45, .int .i64 h, .int .i64 m] w fun e w' => e = .returned (.tuple #[.int .i64 (-(h * 60 + m)), .bool true]) ∧ w = w' := by
  have hne : (h * 60 + m == 0) = false := by simp; omega
  go_enter Tryd.func42, Tryd.ntmps42
  go_wp2_with fail
  exact bodyPost_ret (v := .tuple #[.int .i64 (-(h * 60 + m)), .bool true]) (by simp [results, Tryd.results42, go_sem]) rfl ⟨rfl, rfl⟩
end S8
end Go.Proofs.YtacalpgiopgkkaaDoor
