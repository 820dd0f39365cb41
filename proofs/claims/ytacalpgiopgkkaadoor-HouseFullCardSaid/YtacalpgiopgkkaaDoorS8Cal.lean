/-
  The plain calendar: days, and seconds, of stamps.
-/
import Derived.Test.YtacalpgiopgkkaaDoorProg
import Derived.KernelRfl
namespace Go.Proofs.YtacalpgiopgkkaaDoor
namespace S8
set_option linter.unusedVariables false

def leapB (y : Int) : Bool := decide (y % 4 = 0) && (decide (¬ y % 100 = 0) || decide (y % 400 = 0))
/-- the days of a month -/
def dim (y m : Int) : Int :=
  if m = 2 then (if leapB y then 29 else 28) else if m = 4 ∨ m = 6 ∨ m = 9 ∨ m = 11 then 30 else 31
def yr (y : Int) : Int := if leapB y then 366 else 365
/-- the days ahead of the year 1900 + n -/
def aheadN : Nat → Int
  | 0 => 0
  | n + 1 => aheadN n + yr (1900 + n)
/-- the days of the first n months -/
def cumN (y : Int) : Nat → Int
  | 0 => 0
  | n + 1 => cumN y n + dim y (n + 1)

theorem dim_bd (y m : Int) : 28 ≤ dim y m ∧ dim y m ≤ 31 := by unfold dim; split <;> (try split) <;> omega
theorem yr_bd (y : Int) : 365 ≤ yr y ∧ yr y ≤ 366 := by unfold yr; split <;> omega
theorem cum_12 (y : Int) : cumN y 12 = yr y := by
  simp only [cumN, dim, yr]
  by_cases h : leapB y <;> simp [h]
theorem ahead_bd (n : Nat) : 365 * (n : Int) ≤ aheadN n ∧ aheadN n ≤ 366 * (n : Int) := by
  induction n with
  | zero => simp [aheadN]
  | succ n ih => have := yr_bd (1900 + n); simp only [aheadN]; omega
theorem ahead_mono {a b : Nat} (h : a < b) : aheadN a + yr (1900 + a) ≤ aheadN b := by
  induction b with
  | zero => omega
  | succ b ih =>
    have hb := yr_bd (1900 + b)
    by_cases e : a = b
    · subst e; simp [aheadN]
    · have := ih (by omega)
      simp only [aheadN]; omega
theorem cum_bd (y : Int) (n : Nat) : 28 * (n : Int) ≤ cumN y n ∧ cumN y n ≤ 31 * (n : Int) := by
  induction n with
  | zero => simp [cumN]
  | succ n ih => have := dim_bd y (n + 1); simp only [cumN]; omega
theorem cum_mono {y : Int} {a b : Nat} (h : a < b) : cumN y a + dim y (a + 1) ≤ cumN y b := by
  induction b with
  | zero => omega
  | succ b ih =>
    have hb := dim_bd y (b + 1)
    by_cases e : a = b
    · subst e; simp [cumN]
    · have := ih (by omega)
      simp only [cumN]; omega

/-- is it a right stamp? -/
def RightS (y mo d h mi s z : Int) : Prop :=
  1900 ≤ y ∧ y ≤ 2999 ∧ 1 ≤ mo ∧ mo ≤ 12 ∧ 1 ≤ d ∧ d ≤ dim y mo ∧ 0 ≤ h ∧ h ≤ 23 ∧ 0 ≤ mi ∧ mi ≤ 59 ∧ 0 ≤ s ∧ s ≤ 59 ∧ -959 ≤ z ∧ z ≤ 959

/-- the number of a day -/
def dayno (y mo d : Int) : Int := aheadN (y - 1900).toNat - aheadN 70 + d - 1 + cumN y (mo - 1).toNat
def secs (y mo d h mi s z : Int) : Int := dayno y mo d * 86400 + h * 3600 + mi * 60 + s - z * 60

theorem day_lt {y mo d y' mo' d' : Int} (h1 : 1900 ≤ y) (h2 : 1 ≤ mo) (h3 : mo ≤ 12) (h4 : 1 ≤ d) (h5 : d ≤ dim y mo) (k1 : 1900 ≤ y') (k2 : 1 ≤ mo') (k3 : mo' ≤ 12) (k4 : 1 ≤ d') (k5 : d' ≤ dim y' mo')
    (h : (y * 12 + mo) * 31 + d < (y' * 12 + mo') * 31 + d') : dayno y mo d < dayno y' mo' d' := by
  have b1 := dim_bd y mo
  have b2 := dim_bd y' mo'
  unfold dayno
  have em : ((mo - 1).toNat : Int) + 1 = mo := by omega
  by_cases hy : y = y'
  · subst hy
    by_cases hm : mo = mo'
    · subst hm; omega
    · have := cum_mono (y := y) (a := (mo - 1).toNat) (b := (mo' - 1).toNat) (by omega)
      rw [em] at this
      omega
  · have hlt : y < y' := by omega
    have a := ahead_mono (a := (y - 1900).toNat) (b := (y' - 1900).toNat) (by omega)
    have ey : (1900 : Int) + ((y - 1900).toNat : Int) = y := by omega
    rw [ey] at a
    have c := cum_mono (y := y) (a := (mo - 1).toNat) (b := 12) (by omega)
    rw [em, cum_12] at c
    have c' := (cum_bd y' (mo' - 1).toNat).1
    omega

theorem secs_lt {y mo d h mi s z y' mo' d' h' mi' s' : Int} (r : RightS y mo d h mi s z) (r' : RightS y' mo' d' h' mi' s' z) :
    ((((y * 12 + mo) * 31 + d) * 24 + h) * 60 + mi) * 60 + s < ((((y' * 12 + mo') * 31 + d') * 24 + h') * 60 + mi') * 60 + s' ↔ secs y mo d h mi s z < secs y' mo' d' h' mi' s' z := by
  obtain ⟨a1, a2, a3, a4, a5, a6, a7, a8, a9, a10, a11, a12, a13, a14⟩ := r
  obtain ⟨b1, b2, b3, b4, b5, b6, b7, b8, b9, b10, b11, b12, b13, b14⟩ := r'
  have l1 := @day_lt y mo d y' mo' d' a1 a3 a4 a5 a6 b1 b3 b4 b5 b6
  have l2 := @day_lt y' mo' d' y mo d b1 b3 b4 b5 b6 a1 a3 a4 a5 a6
  have l3 : (y * 12 + mo) * 31 + d = (y' * 12 + mo') * 31 + d' → dayno y mo d = dayno y' mo' d' := by
    intro h
    have := dim_bd y mo
    have := dim_bd y' mo'
    obtain rfl : y = y' := by omega
    obtain rfl : mo = mo' := by omega
    obtain rfl : d = d' := by omega
    rfl
  unfold secs
  generalize dayno y mo d = n at *
  generalize dayno y' mo' d' = n' at *
  rcases Int.lt_trichotomy ((y * 12 + mo) * 31 + d) ((y' * 12 + mo') * 31 + d') with h | h | h
  · have := l1 h; omega
  · have := l3 h; omega
  · have := l2 h; omega

theorem secs_inj {y mo d h mi s z y' mo' d' h' mi' s' : Int} (r : RightS y mo d h mi s z) (r' : RightS y' mo' d' h' mi' s' z) (e : secs y mo d h mi s z = secs y' mo' d' h' mi' s' z) :
    y = y' ∧ mo = mo' ∧ d = d' ∧ h = h' ∧ mi = mi' ∧ s = s' := by
  have l1 := secs_lt r r'
  have l2 := secs_lt r' r
  obtain ⟨a1, a2, a3, a4, a5, a6, a7, a8, a9, a10, a11, a12, a13, a14⟩ := r
  obtain ⟨b1, b2, b3, b4, b5, b6, b7, b8, b9, b10, b11, b12, b13, b14⟩ := r'
  have := dim_bd y mo
  have := dim_bd y' mo'
  have h1 : ¬ secs y mo d h mi s z < secs y' mo' d' h' mi' s' z := by omega
  have h2 : ¬ secs y' mo' d' h' mi' s' z < secs y mo d h mi s z := by omega
  rw [← l1] at h1
  rw [← l2] at h2
  refine ⟨?_, ?_, ?_, ?_, ?_, ?_⟩ <;> omega
end S8
end Go.Proofs.YtacalpgiopgkkaaDoor
