/-
  The reference's two at a place of a text; the month that is found.
-/
import Derived.Test.YthcgdbmcpnmeeaaTwo
import Derived.Test.YthcgdbmcpnmeeaaRMonth
namespace Go.Proofs.Ythcgdbmcpnmeeaa
set_option linter.unusedVariables false
open Go.RowKit

def twoI (a b : Int) : Int := if 48 ≤ a ∧ a ≤ 57 ∧ 48 ≤ b ∧ b ≤ 57 then 10 * (a - 48) + (b - 48) else -1
theorem twoI_bd (a b : Int) : -1 ≤ twoI a b ∧ twoI a b ≤ 99 := by unfold twoI; split <;> omega
/-- a number, behind some draws -/
def DrewI (x : Int) (w : World) (e : Ending) (w' : World) : Prop := e = .returned (.int .i64 x) ∧ ∃ n, w' = w.drewN n

def TwoOk (a b : Int) : Prop := 48 ≤ a ∧ a ≤ 57 ∧ 48 ≤ b ∧ b ≤ 57
theorem twoI_yes {a b : Int} (h : TwoOk a b) : twoI a b = 10 * (a - 48) + (b - 48) := by unfold twoI; exact if_pos h
theorem twoI_no {a b : Int} (h : ¬ TwoOk a b) : twoI a b = -1 := by unfold twoI; exact if_neg h
theorem two_ways {a b : Int} (h : ¬ TwoOk a b) : a < 48 ∨ (48 ≤ a ∧ 57 < a) ∨ (48 ≤ a ∧ a ≤ 57 ∧ b < 48) ∨ (48 ≤ a ∧ a ≤ 57 ∧ 48 ≤ b ∧ 57 < b) := by unfold TwoOk at h; omega

set_option maxHeartbeats 1000000 in
theorem two_q (s : ByteArray) (w : World) (hs : s.size = 2) : Calls Try.prog 19 #[.string s] w (DrewI (twoI (s[0].toNat : Int) (s[1].toNat : Int)) w) := by
  by_cases h : TwoOk (s[0].toNat : Int) (s[1].toNat : Int)
  · have HT := Lib.hid (twoI_yes h)
    obtain ⟨b0, b1, b2, b3⟩ := h
    go_enter Try.func19, Try.ntmps19
    go_wp2_with fail
    go_quiet (fail)
    go_wp2_with fail
    go_ret
    exact ⟨ret_eq (congrArg (Value.int .i64) HT.out.symm), _, rfl⟩
  · have HT := Lib.hid (twoI_no h)
    have n' := two_ways h
    clear h
    rcases n' with h | ⟨h, h'⟩ | ⟨h, h', h''⟩ | ⟨h, h', h'', h3⟩
    all_goals
      go_enter Try.func19, Try.ntmps19
      go_wp2_with fail
      go_ret
      exact ⟨ret_eq (congrArg (Value.int .i64) HT.out.symm), 0, rfl⟩

theorem getElem_extract2 (s : ByteArray) (i j k : Nat) (h : k < (s.extract i j).size) (h2 : i + k < s.size) : (s.extract i j)[k] = s[i + k] :=
  ByteArray.getElem_extract h
theorem two_at (s : ByteArray) (i j : Nat) (hs : s.size = 26) (hj : j = i + 2) (hi : i + 2 ≤ 26) (w : World) : Calls Try.prog 19 #[.string (s.extract i j)] w (DrewI (twoI ((s[i]'(by omega)).toNat : Int) ((s[i + 1]'(by omega)).toNat : Int)) w) := by
  have hz : (s.extract i j).size = 2 := by rw [ByteArray.size_extract]; omega
  have h := two_q (s.extract i j) w hz
  rw [getElem_extract2 s i j 0 (by omega) (by omega), getElem_extract2 s i j 1 (by omega) (by omega)] at h
  exact h
theorem two_zero (s : ByteArray) (hs : s.size = 26) (w : World) : Calls Try.prog 19 #[.string (⟨#[48]⟩ ++ s.extract 1 2)] w (DrewI (twoI 48 (s[1].toNat : Int)) w) := by
  have hz : ((⟨#[48]⟩ : ByteArray) ++ s.extract 1 2).size = 2 := by rw [ByteArray.size_append, ByteArray.size_extract]; show 1 + _ = 2; omega
  have h := two_q (⟨#[48]⟩ ++ s.extract 1 2) w hz
  have e0 : ((⟨#[48]⟩ : ByteArray) ++ s.extract 1 2)[0] = 48 := by
    rw [ByteArray.getElem_append_left (by decide)]; rfl
  have e1 : ((⟨#[48]⟩ : ByteArray) ++ s.extract 1 2)[1] = s[1] := by
    rw [ByteArray.getElem_append_right (by decide)]
    rw [getElem_extract2 s 1 2 _ (by rw [ByteArray.size_extract]; show 1 - 1 < _; omega) (by show 1 + (1 - 1) < _; omega)]
    rfl
  rw [e0, e1] at h
  exact h

/-- the month that is found among the first k -/
def moF (f : ByteArray) : Nat → Int
  | 0 => 0
  | k + 1 => if (f.toList == (nameB k).toList) = true then (k : Int) + 1 else moF f k
theorem moF_bd (f : ByteArray) (k : Nat) : 0 ≤ moF f k ∧ moF f k ≤ k := by
  induction k with
  | zero => simp [moF]
  | succ k ih => unfold moF; split <;> omega
theorem moF_no (f : ByteArray) (k : Nat) (hk : k ≤ 12) (h : ∀ j, j < 12 → ((nameB j).toList == f.toList) = false) : moF f k = 0 := by
  induction k with
  | zero => rfl
  | succ k ih =>
    have hn := h k (by omega)
    unfold moF
    rw [if_neg (by intro e; rw [beq_iff_eq] at e; rw [e] at hn; simp at hn), ih (by omega)]
theorem moF_yes (j k : Nat) (hj : j < 12) (hk : k ≤ 12) : moF (nameB j) k = if j < k then (j : Int) + 1 else 0 := by
  induction k with
  | zero => simp [moF]
  | succ k ih =>
    unfold moF
    by_cases e : j = k
    · subst e; rw [if_pos (by simp), if_pos (by omega)]
    · rw [if_neg (by rw [nameB_ne j k hj (by omega) e]; decide), ih (by omega)]
      by_cases h : j < k
      · rw [if_pos h, if_pos (by omega)]
      · rw [if_neg h, if_neg (by omega)]
end Go.Proofs.Ythcgdbmcpnmeeaa
