/-
  The plain arithmetic of At: from seconds to a stamp.
-/
import Derived.Test.YthcgdbmcpnmeeaaDoorCal
namespace Go.Proofs.YthcgdbmcpnmeeaaDoor
set_option linter.unusedVariables false

theorem ahead70 : aheadN 70 = 25567 := by decide +kernel
theorem ahead1100 : aheadN 1100 = 401767 := by decide +kernel

/-- the days, and the seconds of the day, from the beginning of 1900 on, in a zone -/
def dayOf (t z : Int) : Int := (t + z * 60 + 2208988800) / 86400
def restOf (t z : Int) : Int := (t + z * 60 + 2208988800) % 86400

def hourOf (t z : Int) : Int := (t + z * 60 + 2208988800) % 86400 / 3600
def minOf (t z : Int) : Int := (t + z * 60 + 2208988800) % 3600 / 60
def secOf (t z : Int) : Int := (t + z * 60 + 2208988800) % 60

theorem day_bd (t z : Int) (t0 : -2208988800 ≤ t + z * 60) (t1 : t + z * 60 < 32503680000) : 0 ≤ dayOf t z ∧ dayOf t z < 401767 := by unfold dayOf; omega
theorem rest_bd (t z : Int) : 0 ≤ restOf t z ∧ restOf t z < 86400 := by unfold restOf; omega

theorem yr_eq (y : Int) : 365 + dim y 2 - 28 = yr y := by unfold dim yr; simp only [if_true]; split <;> rfl

theorem ahead_le {a b : Nat} (h : a ≤ b) : aheadN a ≤ aheadN b := by
  rcases Nat.lt_or_eq_of_le h with h | rfl
  · have := ahead_mono h; have := yr_bd (1900 + a); omega
  · exact Int.le_refl _

/-- one more year -/
theorem year_on {L : Int} {k : Nat} (h : aheadN k + yr (1900 + k) ≤ L) (hL : L < 401767) : k + 1 ≤ 1099 := by
  have e : aheadN (k + 1) = aheadN k + yr (1900 + k) := rfl
  by_cases g : k + 1 ≤ 1099
  · exact g
  · have := ahead_le (a := 1100) (b := k + 1) (by omega)
    rw [ahead1100] at this
    omega

theorem cum_le {y : Int} {a b : Nat} (h : a ≤ b) : cumN y a ≤ cumN y b := by
  rcases Nat.lt_or_eq_of_le h with h | rfl
  · have := cum_mono (y := y) h; have := dim_bd y (a + 1); omega
  · exact Int.le_refl _

/-- one more month -/
theorem month_on {y left : Int} {j : Nat} (h : cumN y j + dim y (1 + j) ≤ left) (hl : left < yr y) : j + 1 ≤ 11 := by
  have e : cumN y (j + 1) = cumN y j + dim y (1 + j) := by show cumN y j + dim y ((j : Int) + 1) = _; rw [Int.add_comm (j : Int) 1]
  by_cases g : j + 1 ≤ 11
  · exact g
  · have h12 := cum_12 y
    have := cum_le (y := y) (a := 12) (b := j + 1) (by omega)
    omega

theorem stamp_of (t z left : Int) (k j : Nat) (z0 : -959 ≤ z) (z1 : z ≤ 959) (hk : k ≤ 1099) (hj : j ≤ 11) (hl : left = dayOf t z - aheadN k - cumN (1900 + k) j) (l0 : 0 ≤ left) (l1 : left < dim (1900 + k) (1 + j)) :
    RightS (1900 + k) (1 + j) (left + 1) (hourOf t z) (minOf t z) (secOf t z) z ∧ secs (1900 + k) (1 + j) (left + 1) (hourOf t z) (minOf t z) (secOf t z) z = t := by
  have hr := rest_bd t z
  have e1 : ((1900 : Int) + k - 1900).toNat = k := by omega
  have e2 : ((1 : Int) + j - 1).toNat = j := by omega
  have hh : hourOf t z = restOf t z / 3600 := rfl
  have hm : minOf t z = restOf t z % 3600 / 60 := by unfold minOf restOf; omega
  have hs : secOf t z = restOf t z % 60 := by unfold secOf restOf; omega
  rw [hh, hm, hs]
  clear hh hm hs
  have ht : dayOf t z * 86400 + restOf t z = t + z * 60 + 2208988800 := by unfold dayOf restOf; omega
  constructor
  · refine ⟨by omega, by omega, by omega, by omega, by omega, by omega, by omega, by omega, by omega, by omega, by omega, by omega, z0, z1⟩
  · unfold secs dayno
    rw [e1, e2, ahead70]
    generalize restOf t z = r at *
    generalize dayOf t z = d at *
    omega
end Go.Proofs.YthcgdbmcpnmeeaaDoor
