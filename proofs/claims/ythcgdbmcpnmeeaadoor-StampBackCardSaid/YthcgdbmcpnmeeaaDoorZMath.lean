/-
  The plain arithmetic of StampZones: a day later.
-/
import Derived.Test.YthcgdbmcpnmeeaaDoorAtMath
import Derived.IntWalk
namespace Go.Proofs.YthcgdbmcpnmeeaaDoor
set_option linter.unusedVariables false

theorem cum_next (y mo : Int) (h : 1 ≤ mo) : cumN y mo.toNat = cumN y (mo - 1).toNat + dim y mo := by
  have e : mo.toNat = (mo - 1).toNat + 1 := by omega
  rw [e]
  show cumN y (mo - 1).toNat + dim y (((mo - 1).toNat : Int) + 1) = _
  rw [show (((mo - 1).toNat : Int) + 1) = mo by omega]
theorem ahead_next (y : Int) (h : 1900 ≤ y) : aheadN (y + 1 - 1900).toNat = aheadN (y - 1900).toNat + yr y := by
  have e : (y + 1 - 1900).toNat = (y - 1900).toNat + 1 := by omega
  rw [e]
  show aheadN (y - 1900).toNat + yr (1900 + ((y - 1900).toNat : Int)) = _
  rw [show (1900 : Int) + ((y - 1900).toNat : Int) = y by omega]

theorem day_later {y mo d h mi s z y' mo' d' h' mi' s' : Int} (r : RightS y mo d h mi s z) (r' : RightS y' mo' d' h' mi' s' z) (e : secs y' mo' d' h' mi' s' z = secs y mo d h mi s z + 86400) :
    h' = h ∧ mi' = mi ∧ s' = s ∧ ((d' = d + 1 ∧ mo' = mo ∧ y' = y) ∨ (d' = 1 ∧ 28 ≤ d)) := by
  have R := r
  have hdm := dim_bd y mo
  obtain ⟨a1, a2, a3, a4, a5, a6, a7, a8, a9, a10, a11, a12, a13, a14⟩ := r
  by_cases hd : d < dim y mo
  · have rn : RightS y mo (d + 1) h mi s z := ⟨a1, a2, a3, a4, by omega, by omega, a7, a8, a9, a10, a11, a12, a13, a14⟩
    have en : secs y mo (d + 1) h mi s z = secs y mo d h mi s z + 86400 := by unfold secs dayno; omega
    obtain ⟨rfl, rfl, rfl, rfl, rfl, rfl⟩ := secs_inj r' rn (e.trans en.symm)
    exact ⟨rfl, rfl, rfl, Or.inl ⟨rfl, rfl, rfl⟩⟩
  · have hc := cum_next y mo a3
    by_cases hm : mo < 12
    · have hdn := dim_bd y (mo + 1)
      have rn : RightS y (mo + 1) 1 h mi s z := ⟨a1, a2, by omega, by omega, by omega, by omega, a7, a8, a9, a10, a11, a12, a13, a14⟩
      have en : secs y (mo + 1) 1 h mi s z = secs y mo d h mi s z + 86400 := by
        unfold secs dayno
        rw [show mo + 1 - 1 = mo by omega]
        omega
      obtain ⟨rfl, rfl, rfl, rfl, rfl, rfl⟩ := secs_inj r' rn (e.trans en.symm)
      exact ⟨rfl, rfl, rfl, Or.inr ⟨rfl, by omega⟩⟩
    · obtain rfl : mo = 12 := by omega
      have h12 := cum_12 y
      have hc' : cumN y 12 = cumN y (12 - 1 : Int).toNat + dim y 12 := hc
      by_cases hy : y < 2999
      · have hdn := dim_bd (y + 1) 1
        have ha := ahead_next y a1
        have rn : RightS (y + 1) 1 1 h mi s z := ⟨by omega, by omega, by omega, by omega, by omega, by omega, a7, a8, a9, a10, a11, a12, a13, a14⟩
        have en : secs (y + 1) 1 1 h mi s z = secs y 12 d h mi s z + 86400 := by
          unfold secs dayno
          rw [ha, show ((1 : Int) - 1).toNat = 0 from rfl]
          simp only [cumN]
          omega
        obtain ⟨rfl, rfl, rfl, rfl, rfl, rfl⟩ := secs_inj r' rn (e.trans en.symm)
        exact ⟨rfl, rfl, rfl, Or.inr ⟨rfl, by omega⟩⟩
      · obtain rfl : y = 2999 := by omega
        exfalso
        have ha : aheadN (2999 - 1900 : Int).toNat + yr 2999 = 401767 := by
          have := ahead_next 2999 (by decide)
          have h3 : aheadN (2999 + 1 - 1900 : Int).toNat = 401767 := ahead1100
          omega
        -- the other one lies ahead of the year 3000
        obtain ⟨b1, b2, b3, b4, b5, b6, b7, b8, b9, b10, b11, b12, b13, b14⟩ := r'
        have hb : dayno y' mo' d' < 401767 - 25567 := by
          have hn := cum_next y' mo' b3
          have hl := cum_le (y := y') (a := mo'.toNat) (b := 12) (by omega)
          rw [cum_12] at hl
          have hk := ahead_next y' b1
          have hle := ahead_le (a := (y' + 1 - 1900).toNat) (b := 1100) (by omega)
          rw [ahead1100] at hle
          unfold dayno
          rw [ahead70]
          omega
        have hq : dayno 2999 12 d = 401767 - 25567 - 1 := by
          unfold dayno
          rw [ahead70]
          omega
        unfold secs at e
        omega

theorem day_last {y mo d h mi s z : Int} (r : RightS y mo d h mi s z) (n : ¬ (-2208988800 ≤ secs y mo d h mi s z + 86400 + z * 60 ∧ secs y mo d h mi s z + 86400 + z * 60 < 32503680000)) : y = 2999 := by
  obtain ⟨a1, a2, a3, a4, a5, a6, a7, a8, a9, a10, a11, a12, a13, a14⟩ := r
  by_cases hy : y = 2999
  · exact hy
  · exfalso
    apply n
    have hn := cum_next y mo a3
    have hl := cum_le (y := y) (a := mo.toNat) (b := 12) (by omega)
    rw [cum_12] at hl
    have hk := ahead_next y a1
    have hle := ahead_le (a := (y + 1 - 1900).toNat) (b := 1099) (by omega)
    have h9 : aheadN 1100 = aheadN 1099 + yr 2999 := rfl
    rw [ahead1100] at h9
    have := yr_bd 2999
    have h0 := (ahead_bd (y - 1900).toNat).1
    have h1 := (cum_bd y (mo - 1).toNat).1
    unfold secs dayno
    rw [ahead70]
    omega
theorem secs_bd {y mo d h mi s z : Int} (r : RightS y mo d h mi s z) : -2208988800 ≤ secs y mo d h mi s z + z * 60 ∧ secs y mo d h mi s z + z * 60 < 32503680000 := by
  obtain ⟨a1, a2, a3, a4, a5, a6, a7, a8, a9, a10, a11, a12, a13, a14⟩ := r
  have hn := cum_next y mo a3
  have hl := cum_le (y := y) (a := mo.toNat) (b := 12) (by omega)
  rw [cum_12] at hl
  have hk := ahead_next y a1
  have hle := ahead_le (a := (y + 1 - 1900).toNat) (b := 1100) (by omega)
  rw [ahead1100] at hle
  have h0 := (ahead_bd (y - 1900).toNat).1
  have h1 := (cum_bd y (mo - 1).toNat).1
  unfold secs dayno
  rw [ahead70]
  omega
theorem secs_two {y mo d h mi s z zb : Int} : secs y mo d h mi s z - secs y mo d h mi s zb = (zb - z) * 60 := by unfold secs; omega
theorem zone_sub {y mo d h mi s z zb : Int} (r : RightS y mo d h mi s z) (r' : RightS y mo d h mi s zb) :
    (IntKind.i64.wrap (secs y mo d h mi s z - secs y mo d h mi s zb) != IntKind.i64.wrap (IntKind.i64.wrap (zb - z) * 60)) = false := by
  have hz := r.2.2.2.2.2.2.2.2.2.2.2.2
  have hz' := r'.2.2.2.2.2.2.2.2.2.2.2.2
  rw [IntWalk.i64_in (zb - z) (by omega), secs_two]
  simp
end Go.Proofs.YthcgdbmcpnmeeaaDoor
