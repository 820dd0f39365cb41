/-
  The contracts of At, of the program and of the reference, where there is no stamp.
-/
import Derived.Test.YthcgdbmcpnmeeaaRAt
namespace Go.Proofs.Ythcgdbmcpnmeeaa
set_option linter.unusedVariables false
open Go.RowKit

theorem z7_row (w : World) : (w.alloc (.cells z7 23)).heap[w.heap.size]? = some (.cells z7 23 (0, 0)) := heap_alloc_new w _

set_option maxRecDepth 8000 in
set_option maxHeartbeats 1000000 in
theorem at_zone (t z : Int) (w : World) (h : z < -959 ∨ 959 < z) : Calls Try.prog 10 #[.int .i64 t, .int .i64 z] w fun e w' => NoStamp e ∧ Below w.heap.size w w' := by
  rcases h with h | h
  · go_enter Try.func10, Try.ntmps10
    go_wp2_with fail
    exact bodyPost_ret (v := .tuple #[.agg z7, .bool false]) (by simp [results, Try.results10, go_sem, z7]) rfl ⟨rfl, (Below.refl _ _).alloc (Nat.le_refl _) _⟩
  · have h' : ¬ z < -959 := by omega
    go_enter Try.func10, Try.ntmps10
    go_wp2_with fail
    exact bodyPost_ret (v := .tuple #[.agg z7, .bool false]) (by simp [results, Try.results10, go_sem, z7]) rfl ⟨rfl, (Below.refl _ _).alloc (Nat.le_refl _) _⟩

set_option maxRecDepth 8000 in
set_option maxHeartbeats 1000000 in
theorem rat_far (t z : Int) (w : World) (h : z < -959 ∨ 959 < z ∨ t < -3000000000 ∨ 33000000000 < t) : Calls Try.prog 11 #[.int .i64 t, .int .i64 z] w fun e w' => NoStamp e ∧ Below w.heap.size w w' := by
  by_cases h1 : z < -959
  · clear h
    go_enter Try.func11, Try.ntmps11
    go_wp2_with fail
    exact bodyPost_ret (v := .tuple #[.agg z7, .bool false]) (by simp [results, Try.results11, go_sem, z7]) rfl ⟨rfl, (Below.refl _ _).alloc (Nat.le_refl _) _⟩
  by_cases h2 : 959 < z
  · clear h
    go_enter Try.func11, Try.ntmps11
    go_wp2_with fail
    exact bodyPost_ret (v := .tuple #[.agg z7, .bool false]) (by simp [results, Try.results11, go_sem, z7]) rfl ⟨rfl, (Below.refl _ _).alloc (Nat.le_refl _) _⟩
  by_cases h3 : t < -3000000000
  · clear h
    go_enter Try.func11, Try.ntmps11
    go_wp2_with fail
    exact bodyPost_ret (v := .tuple #[.agg z7, .bool false]) (by simp [results, Try.results11, go_sem, z7]) rfl ⟨rfl, (Below.refl _ _).alloc (Nat.le_refl _) _⟩
  · have h4 : 33000000000 < t := by omega
    clear h
    go_enter Try.func11, Try.ntmps11
    go_wp2_with fail
    exact bodyPost_ret (v := .tuple #[.agg z7, .bool false]) (by simp [results, Try.results11, go_sem, z7]) rfl ⟨rfl, (Below.refl _ _).alloc (Nat.le_refl _) _⟩

set_option maxRecDepth 8000 in
set_option maxHeartbeats 2000000 in
theorem at_no (t z : Int) (w : World) (z0 : -959 ≤ z) (z1 : z ≤ 959) (h : ¬ InR t z) : Calls Try.prog 10 #[.int .i64 t, .int .i64 z] w fun e w' => NoStamp e ∧ Below w.heap.size w w' := by
  have A7 := ahead70
  have A11 := ahead1100
  by_cases h1 : t < -2208988800 - z * 60
  all_goals
    have H := Lib.hid h
    try (have h2 : 32503680000 - z * 60 ≤ t := by (unfold InR at h; omega))
    clear h
    go_enter Try.func10, Try.ntmps10
    go_wp2_with fail
    refine (ahead_any 1970 _ (by decide) (by decide)).mono ?_
    rintro e w1 ⟨rfl, hb1⟩
    have hs1 := hb1.size
    have E7 : aheadN (1970 - 1900 : Int).toNat = 25567 := ahead70
    have E11 : aheadN (3000 - 1900 : Int).toNat = 401767 := ahead1100
    rw [E7]
    go_wp2_with fail
    refine (ahead_any 3000 _ (by decide) (by decide)).mono ?_
    rintro e w2 ⟨rfl, hb2⟩
    have hs2 := hb2.size
    rw [E11]
    go_wp2_with fail
    refine (ahead_any 1970 _ (by decide) (by decide)).mono ?_
    rintro e w3 ⟨rfl, hb3⟩
    have hs3 := hb3.size
    rw [E7]
    clear E7 E11 A7 A11
    simp only [World.size_alloc] at hs1
    have hz5 : w3.heap[w.heap.size]? = some (.cells z7 23 (0, 0)) := by rw [hb3.block _ (by omega), hb2.block _ (by omega), hb1.block _ (by simp)]; exact z7_row w
    have zc : ∀ i, w3.cell? ⟨w.heap.size, i, none⟩ = z7[i]? := fun i => cell_of_row _ _ i _ 23 (0, 0) hz5
    have g0 : w3.cell? ⟨w.heap.size, 0, none⟩ = some (.int .i64 0) := zc 0
    have g1 : w3.cell? ⟨w.heap.size, 1, none⟩ = some (.int .i64 0) := zc 1
    have g2 : w3.cell? ⟨w.heap.size, 2, none⟩ = some (.int .i64 0) := zc 2
    have g3 : w3.cell? ⟨w.heap.size, 3, none⟩ = some (.int .i64 0) := zc 3
    have g4 : w3.cell? ⟨w.heap.size, 4, none⟩ = some (.int .i64 0) := zc 4
    have g5 : w3.cell? ⟨w.heap.size, 5, none⟩ = some (.int .i64 0) := zc 5
    have g6 : w3.cell? ⟨w.heap.size, 6, none⟩ = some (.int .i64 0) := zc 6
    have k0 : w3.frozen? ⟨w.heap.size, 0, none⟩ = false := frozen_of_row _ _ _ _ _ hz5
    have k1 : w3.frozen? ⟨w.heap.size, 1, none⟩ = false := frozen_of_row _ _ _ _ _ hz5
    have k2 : w3.frozen? ⟨w.heap.size, 2, none⟩ = false := frozen_of_row _ _ _ _ _ hz5
    have k3 : w3.frozen? ⟨w.heap.size, 3, none⟩ = false := frozen_of_row _ _ _ _ _ hz5
    have k4 : w3.frozen? ⟨w.heap.size, 4, none⟩ = false := frozen_of_row _ _ _ _ _ hz5
    have k5 : w3.frozen? ⟨w.heap.size, 5, none⟩ = false := frozen_of_row _ _ _ _ _ hz5
    have k6 : w3.frozen? ⟨w.heap.size, 6, none⟩ = false := frozen_of_row _ _ _ _ _ hz5
    have HZ5 := Lib.hid hz5
    have HB5 := Lib.hid ((((Below.refl w.heap.size w).alloc (Nat.le_refl _) (.cells z7 23)).trans (hb1.mono (by simp))).trans ((hb2.mono (by omega)).trans (hb3.mono (by omega))))
    clear hz5 zc hb1 hb2 hb3
    go_wp2_with fail
    have hfin := put7_row _ w.heap.size 0 0 0 0 0 0 0 HZ5.out
    refine bodyPost_ret (v := .tuple #[.agg z7, .bool false]) (at_ret _ _ _ _ _ _ _ _ _ _ _ rfl rfl hfin) rfl ⟨rfl, ?_⟩
    exact put7_below _ _ _ _ _ _ _ _ HB5.out (Nat.le_refl _)
end Go.Proofs.Ythcgdbmcpnmeeaa
