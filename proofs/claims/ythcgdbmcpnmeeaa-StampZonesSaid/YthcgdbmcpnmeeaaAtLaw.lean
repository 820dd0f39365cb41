/-
  The walk of StampAt.
-/
import Derived.Test.YthcgdbmcpnmeeaaAtNo
import Derived.Test.YthcgdbmcpnmeeaaAwake
namespace Go.Proofs.Ythcgdbmcpnmeeaa
set_option linter.unusedVariables false
open Go.RowKit

def AtC (t z : Int) : Prop := (-959 ≤ z ∧ z ≤ 959) ∧ InR t z
/-- the answer of At: a stamp, or none -/
def AtIs (v : Array Value) (b : Bool) (e : Ending) : Prop := e = .returned (.tuple #[.agg v, .bool b])

theorem inR_far {t z : Int} (h : AtC t z) : -3000000000 ≤ t ∧ t ≤ 33000000000 := by
  obtain ⟨⟨a, b⟩, c, d⟩ := h
  omega

theorem at_both (t z : Int) : ∃ y mo d h mi s zz : Int, ∃ b : Bool, (b = true ∧ AtC t z ∧ RightS y mo d h mi s z ∧ zz = z ∧ secs y mo d h mi s z = t ∨ b = false ∧ ¬ AtC t z ∧ St7 y mo d h mi s zz = z7) ∧
    (∀ w, Calls Try.prog 10 #[.int .i64 t, .int .i64 z] w fun e w' => AtIs (St7 y mo d h mi s zz) b e ∧ Below w.heap.size w w') ∧
    (∀ w, Calls Try.prog 11 #[.int .i64 t, .int .i64 z] w fun e w' => AtIs (St7 y mo d h mi s zz) b e ∧ Below w.heap.size w w') := by
  by_cases h : AtC t z
  · have hf := inR_far h
    -- the stamp: there is one
    have hex : ∃ y mo d h mi s : Int, RightS y mo d h mi s z ∧ secs y mo d h mi s z = t := by
      obtain ⟨⟨z0, z1⟩, t0, t1⟩ := h
      have hd := day_bd t z t0 t1
      have hy : ∀ n : Nat, n ≤ 1100 → ∀ L : Int, 0 ≤ L → L < aheadN n → ∃ k : Nat, k < n ∧ aheadN k ≤ L ∧ L < aheadN k + yr (1900 + k) := by
        intro n
        induction n with
        | zero => intro _ L h0 h1; simp [aheadN] at h1; omega
        | succ n ih =>
          intro hn L h0 h1
          by_cases g : L < aheadN n
          · obtain ⟨k, a, b, c⟩ := ih (by omega) L h0 g
            exact ⟨k, by omega, b, c⟩
          · exact ⟨n, by omega, by omega, h1⟩
      have hm : ∀ (y : Int) (n : Nat), ∀ L : Int, 0 ≤ L → L < cumN y n → ∃ j : Nat, j < n ∧ cumN y j ≤ L ∧ L < cumN y j + dim y (1 + j) := by
        intro y n
        induction n with
        | zero => intro L h0 h1; simp [cumN] at h1; omega
        | succ n ih =>
          intro L h0 h1
          by_cases g : L < cumN y n
          · obtain ⟨k, a, b, c⟩ := ih L h0 g
            exact ⟨k, by omega, b, c⟩
          · exact ⟨n, by omega, by omega, by rw [Int.add_comm 1]; exact h1⟩
      obtain ⟨k, k1, k2, k3⟩ := hy 1100 (by omega) (dayOf t z) hd.1 (by rw [ahead1100]; exact hd.2)
      obtain ⟨j, j1, j2, j3⟩ := hm (1900 + k) 12 (dayOf t z - aheadN k) (by omega) (by rw [cum_12]; omega)
      have := stamp_of t z (dayOf t z - aheadN k - cumN (1900 + k) j) k j z0 z1 (by omega) (by omega) rfl (by omega) (by omega)
      exact ⟨_, _, _, _, _, _, this⟩
    obtain ⟨y, mo, d, hh, mi, s, hr, hs⟩ := hex
    have hfound : ∀ e, Found t z e → AtIs (St7 y mo d hh mi s z) true e := by
      rintro e ⟨y', mo', d', h', mi', s', hr', hs', rfl⟩
      obtain ⟨rfl, rfl, rfl, rfl, rfl, rfl⟩ := secs_inj hr hr' (hs.trans hs'.symm)
      rfl
    refine ⟨y, mo, d, hh, mi, s, z, true, Or.inl ⟨rfl, h, hr, rfl, hs⟩, fun w => ?_, fun w => ?_⟩
    · exact (at_yes t z w h.1.1 h.1.2 h.2.1 h.2.2).mono fun e w' g => ⟨hfound e g.1, g.2⟩
    · refine (rat_mid t z w h.1.1 h.1.2 hf.1 hf.2).mono fun e w' g => ⟨?_, g.2⟩
      rcases g.1 with ⟨_, g⟩ | ⟨g, _⟩
      · exact hfound e g
      · exact absurd h.2 g
  · refine ⟨0, 0, 0, 0, 0, 0, 0, false, Or.inr ⟨rfl, h, rfl⟩, fun w => ?_, fun w => ?_⟩
    · by_cases hz : -959 ≤ z ∧ z ≤ 959
      · exact (at_no t z w hz.1 hz.2 fun x => h ⟨hz, x⟩).mono fun e w' g => ⟨g.1, g.2⟩
      · exact (at_zone t z w (by omega)).mono fun e w' g => ⟨g.1, g.2⟩
    · by_cases hf : z < -959 ∨ 959 < z ∨ t < -3000000000 ∨ 33000000000 < t
      · exact (rat_far t z w hf).mono fun e w' g => ⟨g.1, g.2⟩
      · refine (rat_mid t z w (by omega) (by omega) (by omega) (by omega)).mono fun e w' g => ⟨?_, g.2⟩
        rcases g.1 with ⟨g, _⟩ | ⟨_, g⟩
        · exact absurd ⟨⟨by omega, by omega⟩, g⟩ h
        · exact g

set_option maxRecDepth 8000 in
set_option maxHeartbeats 2000000 in
theorem stampAt_any (t z : Int) (w : World) : Calls Try.prog 4 #[.int .i64 t, .int .i64 z] w fun e w' => e = .returned (.bool true) ∧ Below w.heap.size w w' := by
  obtain ⟨y, mo, d, h, mi, s, zz, b, _, hp, hq⟩ := at_both t z
  have HP := Lib.hid hp
  have HQ := Lib.hid hq
  clear hp hq
  go_enter Try.func4, Try.ntmps4
  go_wp2_with fail
  refine (HP.out _).mono ?_
  rintro e w1 ⟨rfl, hb1⟩
  have HB1 := Lib.hid hb1
  have hs1 := hb1.size
  clear hb1
  unfold St7
  go_wp2_with fail
  refine (HQ.out _).mono ?_
  rintro e w2 ⟨rfl, hb2⟩
  have hz2 : w2.heap[w1.heap.size]? = some (.cells (St7 y mo d h mi s zz) 23 (0, 0)) := by rw [hb2.block _ (by simp)]; exact heap_alloc_new w1 _
  have hs2 := hb2.size
  simp only [World.size_alloc] at hs2
  have HB2 := Lib.hid ((HB1.out.alloc hs1 (.cells (St7 y mo d h mi s zz) 23)).trans (hb2.mono (by simp; omega)))
  clear hb2
  have HZ2 := Lib.hid hz2
  clear hz2
  unfold St7
  go_wp2_with fail
  refine (awake_any _).mono ?_
  rintro e w3 ⟨rfl, hb3⟩
  have hz3 : w3.heap[w1.heap.size]? = some (.cells (St7 y mo d h mi s zz) 23 (0, 0)) := by rw [hb3.block _ (by simp; omega)]; rw [((Below.refl w2.heap.size w2).alloc (Nat.le_refl _) _).block _ (by omega)]; exact HZ2.out
  have hz4 : w3.heap[w2.heap.size]? = some (.cells (St7 y mo d h mi s zz) 23 (0, 0)) := by rw [hb3.block _ (by simp)]; exact heap_alloc_new w2 _
  obtain ⟨c0, c1, c2, c3, c4, c5, c6⟩ := StAt.of_row hz3
  obtain ⟨d0, d1, d2, d3, d4, d5, d6⟩ := StAt.of_row hz4
  have HB3 := Lib.hid ((HB2.out.alloc (by omega) (.cells (St7 y mo d h mi s zz) 23)).trans (hb3.mono (by simp; omega)))
  clear hb3 hz3 hz4
  go_wp2_with fail
  go_ret
  exact ⟨rfl, HB3.out⟩
end Go.Proofs.Ythcgdbmcpnmeeaa
