/-
  The text of a stamp: what its numbers are printed as.
-/
import Derived.Test.YtacalpgiopgkkaaDoorS8Cal
import Derived.Lib.ItoaNum
import Derived.Lib.ItoaMem
import Derived.Lib.LaidTab
import Derived.WalkKit
import Derived.ProofKit
import Derived.Below
import Derived.Lib.Hide
namespace Go.Proofs.YtacalpgiopgkkaaDoor
namespace S8
set_option linter.unusedVariables false
open Go.RowKit Go.Lib

/-- a digit -/
def dg (n : Nat) : UInt8 := UInt8.ofNat (48 + n)
theorem dg_nat (n : Nat) (h : n < 10) : (dg n).toNat = 48 + n := by
  unfold dg; simp [UInt8.toNat_ofNat']; omega
/-- a number with two signs, another ahead of one digit -/
def padS (a : UInt8) (n : Nat) : List UInt8 := if n < 10 then [a, dg n] else [dg (n / 10), dg (n % 10)]
theorem padS_zero (n : Nat) : padS 48 n = [dg (n / 10), dg (n % 10)] := by
  unfold padS
  split
  · rw [Nat.div_eq_of_lt (by omega), Nat.mod_eq_of_lt (by omega)]; rfl
  · rfl
theorem dec_lt10 (n : Nat) (h : n < 10) : decDigits n = [dg n] := by rw [decDigits, dif_pos h]; rfl
theorem dec_lt100 (n : Nat) (h0 : 10 ≤ n) (h : n < 100) : decDigits n = [dg (n / 10), dg (n % 10)] := by
  rw [decDigits, dif_neg (by omega), dec_lt10 _ (by omega)]; rfl
theorem dec_year (n : Nat) (h0 : 1000 ≤ n) (h : n < 10000) : decDigits n = [dg (n / 1000), dg (n / 100 % 10), dg (n / 10 % 10), dg (n % 10)] := by
  rw [decDigits, dif_neg (by omega), decDigits, dif_neg (by omega), dec_lt100 _ (by omega) (by omega)]
  have e1 : n / 10 / 10 / 10 = n / 1000 := by omega
  have e2 : n / 10 / 10 % 10 = n / 100 % 10 := by omega
  rw [e1, e2]; rfl
/-- the two signs of a number below 100, another ahead of one digit -/
def padA (a : UInt8) (n : Nat) : UInt8 := if n < 10 then a else dg (n / 10)
def padB (n : Nat) : UInt8 := dg (n % 10)
theorem padS_two (a : UInt8) (n : Nat) : padS a n = [padA a n, padB n] := by
  unfold padS padA padB
  by_cases h : n < 10
  · rw [if_pos h, if_pos h, Nat.mod_eq_of_lt h]
  · rw [if_neg h, if_neg h]
theorem padA_zero (n : Nat) : padA 48 n = dg (n / 10) := by
  unfold padA
  split
  · rw [Nat.div_eq_of_lt (by omega)]; rfl
  · rfl
/-- the months' letters -/
def nmA (k : Nat) : UInt8 := [74, 70, 77, 65, 77, 74, 74, 65, 83, 79, 78, 68].getD k 0
def nmB (k : Nat) : UInt8 := [97, 101, 97, 112, 97, 117, 117, 117, 101, 99, 111, 101].getD k 0
def nmC (k : Nat) : UInt8 := [110, 98, 114, 114, 121, 110, 108, 103, 112, 116, 118, 99].getD k 0
/-- the year's four digits -/
def yrA (y : Nat) : UInt8 := dg (y / 1000)
def yrB (y : Nat) : UInt8 := dg (y / 100 % 10)
def yrC (y : Nat) : UInt8 := dg (y / 10 % 10)
def yrD (y : Nat) : UInt8 := dg (y % 10)
/-- the zone's sign -/
def sgn (z : Int) : UInt8 := if z < 0 then 45 else 43
/-- 26 signs -/
def mk26 (p0 p1 m0 m1 m2 y0 y1 y2 y3 h0 h1 i0 i1 s0 s1 sg a0 a1 b0 b1 : UInt8) : ByteArray :=
  ⟨#[p0, p1, 45, m0, m1, m2, 45, y0, y1, y2, y3, 32, h0, h1, 58, i0, i1, 58, s0, s1, 32, sg, a0, a1, b0, b1]⟩
/-- the text of a stamp -/
def printB (yn mn dn hn mi sn : Nat) (sg : UInt8) (q r : Nat) : ByteArray :=
  mk26 (padA 32 dn) (padB dn) (nmA mn) (nmB mn) (nmC mn) (yrA yn) (yrB yn) (yrC yn) (yrD yn) (padA 48 hn) (padB hn) (padA 48 mi) (padB mi) (padA 48 sn) (padB sn) sg (padA 48 q) (padB q) (padA 48 r) (padB r)

/-- what the library's Itoa answers -/
structure ItoaC : Prop where
  small : ∀ (i : Nat) (W : World), i < 100 → Calls Tryd.prog 47 #[.int .i64 i] W fun e w' => e = .returned (.string ⟨(decDigits i).toArray⟩) ∧ w' = W
  big : ∀ (i : Nat) (W : World), i < 10000 → TabIs Tryd.prog W "internal/strconv.uint64pow10" .u64 pow10Tab → Calls Tryd.prog 47 #[.int .i64 i] W fun e w' => e = .returned (.string ⟨(decDigits i).toArray⟩) ∧ Below W.heap.size W w'
end S8
end Go.Proofs.YtacalpgiopgkkaaDoor
