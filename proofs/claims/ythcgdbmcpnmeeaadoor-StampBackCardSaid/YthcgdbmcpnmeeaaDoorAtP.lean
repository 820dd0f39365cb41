/-
  The contract of At, of the program: a stamp, or none.
-/
import Derived.Test.YthcgdbmcpnmeeaaDoorAt
namespace Go.Proofs.YthcgdbmcpnmeeaaDoor
set_option linter.unusedVariables false
open Go.RowKit

def InR (t z : Int) : Prop := -2208988800 ≤ t + z * 60 ∧ t + z * 60 < 32503680000
def NoStamp (e : Ending) : Prop := e = .returned (.tuple #[.agg z7, .bool false])
def AtC (t z : Int) : Prop := (-959 ≤ z ∧ z ≤ 959) ∧ InR t z
/-- the answer of At: a stamp, or none -/
def AtIs (v : Array Value) (b : Bool) (e : Ending) : Prop := e = .returned (.tuple #[.agg v, .bool b])

theorem z7_row (w : World) : (w.alloc (.cells z7 23)).heap[w.heap.size]? = some (.cells z7 23 (0, 0)) := heap_alloc_new w _

set_option maxRecDepth 8000 in
set_option maxHeartbeats 1000000 in
theorem at_zone (t z : Int) (w : World) (h : z < -959 ∨ 959 < z) : Calls Tryd.prog 13 #[.int .i64 t, .int .i64 z] w fun e w' => NoStamp e ∧ Below w.heap.size w w' := by
  rcases h with h | h
  · go_enter Tryd.func13, Tryd.ntmps13
    go_wp2_with fail
    exact bodyPost_ret (v := .tuple #[.agg z7, .bool false]) (by simp [results, Tryd.results13, go_sem, z7]) rfl ⟨rfl, (Below.refl _ _).alloc (Nat.le_refl _) _⟩
  · have h' : ¬ z < -959 := by omega
    go_enter Tryd.func13, Tryd.ntmps13
    go_wp2_with fail
    exact bodyPost_ret (v := .tuple #[.agg z7, .bool false]) (by simp [results, Tryd.results13, go_sem, z7]) rfl ⟨rfl, (Below.refl _ _).alloc (Nat.le_refl _) _⟩

set_option maxRecDepth 8000 in
set_option maxHeartbeats 2000000 in
theorem at_no (t z : Int) (w : World) (z0 : -959 ≤ z) (z1 : z ≤ 959) (h : ¬ InR t z) : Calls Tryd.prog 13 #[.int .i64 t, .int .i64 z] w fun e w' => NoStamp e ∧ Below w.heap.size w w' := by
  have A7 := ahead70
  have A11 := ahead1100
  by_cases h1 : t < -2208988800 - z * 60
  all_goals
    have H := Lib.hid h
    try (have h2 : 32503680000 - z * 60 ≤ t := by (unfold InR at h; omega))
    clear h
    go_enter Tryd.func13, Tryd.ntmps13
    go_wp2_with fail
    refine (ahead_any 1970 _ (by decide) (by decide)).mono ?_
    rintro e w1 ⟨rfl, hb1⟩
    have hs1 := hb1.size
    have E7 : aheadN (1970 - 1900 : Int).toNat = 25567 := ahead70
    have E11 : aheadN (3000 - 1900 : Int).toNat = 401767 := ahead1100
    rw [E7]
    go_wp2_with fail
    refine (ahead_any 3000 _ (by decide) (by decide)).mono ?_
    rintro e w2 ⟨rfl, hb2⟩
    have hs2 := hb2.size
    rw [E11]
    go_wp2_with fail
    refine (ahead_any 1970 _ (by decide) (by decide)).mono ?_
    rintro e w3 ⟨rfl, hb3⟩
    have hs3 := hb3.size
    rw [E7]
    clear E7 E11 A7 A11
    simp only [World.size_alloc] at hs1
    have hz5 : w3.heap[w.heap.size]? = some (.cells z7 23 (0, 0)) := by rw [hb3.block _ (by omega), hb2.block _ (by omega), hb1.block _ (by simp)]; exact z7_row w
    have zc : ∀ i, w3.cell? ⟨w.heap.size, i, none⟩ = z7[i]? := fun i => cell_of_row _ _ i _ 23 (0, 0) hz5
    have g0 : w3.cell? ⟨w.heap.size, 0, none⟩ = some (.int .i64 0) := zc 0
    have g1 : w3.cell? ⟨w.heap.size, 1, none⟩ = some (.int .i64 0) := zc 1
    have g2 : w3.cell? ⟨w.heap.size, 2, none⟩ = some (.int .i64 0) := zc 2
    have g3 : w3.cell? ⟨w.heap.size, 3, none⟩ = some (.int .i64 0) := zc 3
    have g4 : w3.cell? ⟨w.heap.size, 4, none⟩ = some (.int .i64 0) := zc 4
    have g5 : w3.cell? ⟨w.heap.size, 5, none⟩ = some (.int .i64 0) := zc 5
    have g6 : w3.cell? ⟨w.heap.size, 6, none⟩ = some (.int .i64 0) := zc 6
    have k0 : w3.frozen? ⟨w.heap.size, 0, none⟩ = false := frozen_of_row _ _ _ _ _ hz5
    have k1 : w3.frozen? ⟨w.heap.size, 1, none⟩ = false := frozen_of_row _ _ _ _ _ hz5
    have k2 : w3.frozen? ⟨w.heap.size, 2, none⟩ = false := frozen_of_row _ _ _ _ _ hz5
    have k3 : w3.frozen? ⟨w.heap.size, 3, none⟩ = false := frozen_of_row _ _ _ _ _ hz5
    have k4 : w3.frozen? ⟨w.heap.size, 4, none⟩ = false := frozen_of_row _ _ _ _ _ hz5
    have k5 : w3.frozen? ⟨w.heap.size, 5, none⟩ = false := frozen_of_row _ _ _ _ _ hz5
    have k6 : w3.frozen? ⟨w.heap.size, 6, none⟩ = false := frozen_of_row _ _ _ _ _ hz5
    have HZ5 := Lib.hid hz5
    have HB5 := Lib.hid ((((Below.refl w.heap.size w).alloc (Nat.le_refl _) (.cells z7 23)).trans (hb1.mono (by simp))).trans ((hb2.mono (by omega)).trans (hb3.mono (by omega))))
    clear hz5 zc hb1 hb2 hb3
    go_wp2_with fail
    have hfin := put7_row _ w.heap.size 0 0 0 0 0 0 0 HZ5.out
    refine bodyPost_ret (v := .tuple #[.agg z7, .bool false]) (at_ret _ _ _ _ _ _ _ _ _ _ _ rfl rfl hfin) rfl ⟨rfl, ?_⟩
    exact put7_below _ _ _ _ _ _ _ _ HB5.out (Nat.le_refl _)

theorem at_prog (t z : Int) : ∃ y mo d h mi s zz : Int, ∃ b : Bool, (b = true ∧ AtC t z ∧ RightS y mo d h mi s z ∧ zz = z ∧ secs y mo d h mi s z = t ∨ b = false ∧ ¬ AtC t z ∧ St7 y mo d h mi s zz = z7) ∧
    (∀ w, Calls Tryd.prog 13 #[.int .i64 t, .int .i64 z] w fun e w' => AtIs (St7 y mo d h mi s zz) b e ∧ Below w.heap.size w w') := by
  by_cases h : AtC t z
  · -- the stamp: there is one
    have hex : ∃ y mo d h mi s : Int, RightS y mo d h mi s z ∧ secs y mo d h mi s z = t := by
      obtain ⟨⟨z0, z1⟩, t0, t1⟩ := h
      have hd := day_bd t z t0 t1
      have hy : ∀ n : Nat, n ≤ 1100 → ∀ L : Int, 0 ≤ L → L < aheadN n → ∃ k : Nat, k < n ∧ aheadN k ≤ L ∧ L < aheadN k + yr (1900 + k) := by
        intro n
        induction n with
        | zero => intro _ L h0 h1; simp [aheadN] at h1; omega
        | succ n ih =>
          intro hn L h0 h1
          by_cases g : L < aheadN n
          · obtain ⟨k, a, b, c⟩ := ih (by omega) L h0 g
            exact ⟨k, by omega, b, c⟩
          · exact ⟨n, by omega, by omega, h1⟩
      have hm : ∀ (y : Int) (n : Nat), ∀ L : Int, 0 ≤ L → L < cumN y n → ∃ j : Nat, j < n ∧ cumN y j ≤ L ∧ L < cumN y j + dim y (1 + j) := by
        intro y n
        induction n with
        | zero => intro L h0 h1; simp [cumN] at h1; omega
        | succ n ih =>
          intro L h0 h1
          by_cases g : L < cumN y n
          · obtain ⟨k, a, b, c⟩ := ih L h0 g
            exact ⟨k, by omega, b, c⟩
          · exact ⟨n, by omega, by omega, by rw [Int.add_comm 1]; exact h1⟩
      obtain ⟨k, k1, k2, k3⟩ := hy 1100 (by omega) (dayOf t z) hd.1 (by rw [ahead1100]; exact hd.2)
      obtain ⟨j, j1, j2, j3⟩ := hm (1900 + k) 12 (dayOf t z - aheadN k) (by omega) (by rw [cum_12]; omega)
      have := stamp_of t z (dayOf t z - aheadN k - cumN (1900 + k) j) k j z0 z1 (by omega) (by omega) rfl (by omega) (by omega)
      exact ⟨_, _, _, _, _, _, this⟩
    obtain ⟨y, mo, d, hh, mi, s, hr, hs⟩ := hex
    have hfound : ∀ e, Found t z e → AtIs (St7 y mo d hh mi s z) true e := by
      rintro e ⟨y', mo', d', h', mi', s', hr', hs', rfl⟩
      obtain ⟨rfl, rfl, rfl, rfl, rfl, rfl⟩ := secs_inj hr hr' (hs.trans hs'.symm)
      rfl
    exact ⟨y, mo, d, hh, mi, s, z, true, Or.inl ⟨rfl, h, hr, rfl, hs⟩, fun w => (at_yes t z w h.1.1 h.1.2 h.2.1 h.2.2).mono fun e w' g => ⟨hfound e g.1, g.2⟩⟩
  · refine ⟨0, 0, 0, 0, 0, 0, 0, false, Or.inr ⟨rfl, h, rfl⟩, fun w => ?_⟩
    by_cases hz : -959 ≤ z ∧ z ≤ 959
    · exact (at_no t z w hz.1 hz.2 fun x => h ⟨hz, x⟩).mono fun e w' g => ⟨g.1, g.2⟩
    · exact (at_zone t z w (by omega)).mono fun e w' g => ⟨g.1, g.2⟩
end Go.Proofs.YthcgdbmcpnmeeaaDoor
