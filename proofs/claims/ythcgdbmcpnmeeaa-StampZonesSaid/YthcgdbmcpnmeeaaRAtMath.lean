/-
  The plain arithmetic of the reference's At: years from 1800 on.
-/
import Derived.Test.YthcgdbmcpnmeeaaAtMath
namespace Go.Proofs.Ythcgdbmcpnmeeaa
set_option linter.unusedVariables false

/-- the days ahead of the year 1800 + n -/
def aheadM : Nat → Int
  | 0 => 0
  | n + 1 => aheadM n + yr (1800 + n)

theorem aheadM_succ (m : Nat) : aheadM (m + 1) = aheadM m + yr (1800 + m) := rfl
theorem aheadM_100 (k : Nat) : aheadM (100 + k) = aheadM 100 + aheadN k := by
  induction k with
  | zero => simp [aheadN]
  | succ k ih =>
    show aheadM (100 + k) + yr (1800 + ((100 + k : Nat) : Int)) = aheadM 100 + (aheadN k + yr (1900 + k))
    rw [ih, show (1800 : Int) + ((100 + k : Nat) : Int) = 1900 + k by omega]
    omega
theorem aheadM_bd {a b : Nat} (h : a ≤ b) : 365 * ((b : Int) - a) ≤ aheadM b - aheadM a ∧ aheadM b - aheadM a ≤ 366 * ((b : Int) - a) := by
  induction b with
  | zero => obtain rfl : a = 0 := by omega
            simp
  | succ b ih =>
    by_cases e : a = b + 1
    · subst e; simp
    · have := ih (by omega)
      have hy := yr_bd (1800 + b)
      simp only [aheadM]; omega
theorem aheadM_170 : aheadM 170 - aheadM 100 = 25567 := by
  have : aheadM 170 = aheadM 100 + aheadN 70 := aheadM_100 70
  rw [ahead70] at this; omega
theorem aheadM_1200 : aheadM 1200 - aheadM 170 = 376200 := by
  have : aheadM 1200 = aheadM 100 + aheadN 1100 := aheadM_100 1100
  have h7 := aheadM_170
  rw [ahead1100] at this; omega

/-- is it in range? -/
def InR (t z : Int) : Prop := -2208988800 ≤ t + z * 60 ∧ t + z * 60 < 32503680000

theorem inR_of {t z D r left : Int} {m : Nat} (e : t + z * 60 = D * 86400 + r) (r0 : 0 ≤ r) (r1 : r < 86400) (l0 : aheadM m - aheadM 170 ≤ D) (l1 : D < aheadM m - aheadM 170 + yr (1800 + m)) : InR t z ↔ (100 ≤ m ∧ m ≤ 1199) := by
  have e7 := aheadM_170
  have e12 := aheadM_1200
  have es : aheadM (m + 1) = aheadM m + yr (1800 + m) := rfl
  constructor
  · rintro ⟨a, b⟩
    constructor
    · by_cases h : 100 ≤ m
      · exact h
      · have := (aheadM_bd (a := m + 1) (b := 100) (by omega)).1
        omega
    · by_cases h : m ≤ 1199
      · exact h
      · have := (aheadM_bd (a := 1200) (b := m) (by omega)).1
        omega
  · rintro ⟨a, b⟩
    have h1 := (aheadM_bd (a := 100) (b := m) a).1
    have h2 := (aheadM_bd (a := m + 1) (b := 1200) (by omega)).1
    unfold InR
    omega

theorem rstamp_of {t z D r left : Int} {m j : Nat} (z0 : -959 ≤ z) (z1 : z ≤ 959) (e : t + z * 60 = D * 86400 + r) (r0 : 0 ≤ r) (r1 : r < 86400) (m0 : 100 ≤ m) (m1 : m ≤ 1199) (hj : j ≤ 11) (hl : left = D - (aheadM m - aheadM 170) - cumN (1800 + m) j) (l0 : 0 ≤ left) (l1 : left < dim (1800 + m) (1 + j)) :
    RightS (1800 + m) (1 + j) (left + 1) (r / 3600) (r / 60 % 60) (r % 60) z ∧ secs (1800 + m) (1 + j) (left + 1) (r / 3600) (r / 60 % 60) (r % 60) z = t := by
  have e1 : ((1800 : Int) + m - 1900).toNat = m - 100 := by omega
  have e2 : ((1 : Int) + j - 1).toNat = j := by omega
  have h1 := aheadM_100 (m - 100)
  rw [show 100 + (m - 100) = m by omega] at h1
  have h7 := aheadM_170
  constructor
  · refine ⟨by omega, by omega, by omega, by omega, by omega, by omega, by omega, by omega, by omega, by omega, by omega, by omega, z0, z1⟩
  · unfold secs dayno
    rw [e1, e2, ahead70]
    omega
theorem rstamp_not {t z D r left : Int} {m j : Nat} (h : ¬ (100 ≤ m ∧ m ≤ 1199)) (a b c d s z : Int) : ¬ RightS (1800 + m) a b c d s z := by
  rintro ⟨h1, h2, _⟩; omega

/-- the quotient and the rest, as Go has them -/
theorem quo_of (S : Int) : ∃ Q R : Int, S.tdiv 86400 = Q ∧ S.tmod 86400 = R ∧ S = Q * 86400 + R ∧ -86400 < R ∧ R < 86400 ∧ (0 ≤ S → 0 ≤ R) ∧ (S ≤ 0 → R ≤ 0) := by
  refine ⟨_, _, rfl, rfl, ?_, ?_, ?_, ?_, ?_⟩
  · have := Int.mul_tdiv_add_tmod S 86400; omega
  · have := Int.lt_tmod_of_pos S (b := 86400) (by decide); omega
  · have := Int.tmod_lt_of_pos S (b := 86400) (by decide); omega
  · intro h; exact Int.tmod_nonneg 86400 h
  · intro h
    have := Int.tmod_nonneg (a := -S) 86400 (by omega)
    rw [Int.neg_tmod] at this; omega
theorem sub_step (D a b y : Int) : D - (a - b) - y = D - (a + y - b) := by omega
theorem add_step (D a b y : Int) : D - (a + y - b) + y = D - (a - b) := by omega
theorem up_bd {D : Int} {m : Nat} (h : 170 ≤ m) (hd : 0 ≤ D - (aheadM m - aheadM 170)) (hD : D ≤ 400000) : m ≤ 1290 := by
  have := (aheadM_bd h).1; omega
theorem down_bd {D : Int} {m : Nat} (h : m ≤ 170) (hd : D - (aheadM m - aheadM 170) < 0) (hD : -40000 ≤ D) : 51 ≤ m := by
  have := (aheadM_bd h).1; omega
end Go.Proofs.Ythcgdbmcpnmeeaa
