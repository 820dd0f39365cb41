/-
  What stands in a text of 26 signs: its fields, as both sides read them.
-/
import Derived.Test.YthcgdbmcpnmeeaaTwoQ
import Derived.Test.YthcgdbmcpnmeeaaParse
namespace Go.Proofs.Ythcgdbmcpnmeeaa
set_option linter.unusedVariables false
open Go.RowKit

/-- the sign at a place, as a number -/
def bn (s : ByteArray) (i : Nat) : Int := ((s.data.toList.getD i 0).toNat : Int)
theorem bn_at (s : ByteArray) (k : Nat) (h : k < s.size) : (s[k].toNat : Int) = bn s k := by
  unfold bn
  rw [List.getD_eq_getElem?_getD, List.getElem?_eq_getElem (by simpa using h)]; rfl
def DG (x : Int) : Prop := 48 ≤ x ∧ x ≤ 57
theorem digB_iff (c : UInt8) : digB c = true ↔ DG (c.toNat : Int) := by simp [digB, DG]
theorem twoI_ge (a b : Int) : 0 ≤ twoI a b ↔ DG a ∧ DG b := by
  unfold twoI DG
  split <;> omega
theorem twoI_val {a b : Int} (h : DG a ∧ DG b) : twoI a b = 10 * (a - 48) + (b - 48) := twoI_yes ⟨h.1.1, h.1.2, h.2.1, h.2.2⟩
theorem ext_list (s : ByteArray) (i j : Nat) : (s.extract i j).data.toList = (s.data.toList.drop i).take (j - i) := by
  rw [ByteArray.data_extract, Array.toList_extract, List.extract_eq_take_drop]
theorem drop_at (s : ByteArray) (i : Nat) (h : i < s.size) : s.data.toList.drop i = s[i] :: s.data.toList.drop (i + 1) :=
  List.drop_eq_getElem_cons (by simpa using h)
theorem ext1 (s : ByteArray) (i j : Nat) (hj : j = i + 1) (h : i + 1 ≤ s.size) : (s.extract i j).data.toList = [s[i]] := by
  subst hj
  rw [ext_list, drop_at s i (by omega)]; simp
theorem ext2 (s : ByteArray) (i j : Nat) (hj : j = i + 2) (h : i + 2 ≤ s.size) : (s.extract i j).data.toList = [s[i], s[i + 1]] := by
  subst hj
  rw [ext_list, drop_at s i (by omega), drop_at s (i + 1) (by omega)]; simp
theorem ext4 (s : ByteArray) (i j : Nat) (hj : j = i + 4) (h : i + 4 ≤ s.size) : (s.extract i j).data.toList = [s[i], s[i + 1], s[i + 2], s[i + 3]] := by
  subst hj
  rw [ext_list, drop_at s i (by omega), drop_at s (i + 1) (by omega), drop_at s (i + 2) (by omega), drop_at s (i + 3) (by omega)]; simp
theorem ext5 (s : ByteArray) (i j : Nat) (hj : j = i + 5) (h : i + 5 ≤ s.size) : (s.extract i j).data.toList = [s[i], s[i + 1], s[i + 2], s[i + 3], s[i + 4]] := by
  subst hj
  rw [ext_list, drop_at s i (by omega), drop_at s (i + 1) (by omega), drop_at s (i + 2) (by omega), drop_at s (i + 3) (by omega), drop_at s (i + 4) (by omega)]; simp
theorem toList_data (s : ByteArray) : s.toList = s.data.toList := Go.ByteArray.toList_eq s
theorem dig1 (s : ByteArray) (i j : Nat) (hj : j = i + 1) (h : i + 1 ≤ s.size) : digS (s.extract i j) = true ↔ DG (bn s i) := by
  unfold digS; rw [ext1 s i j hj h, ← bn_at s i (by omega)]; simp [digB_iff]
theorem dig2 (s : ByteArray) (i j : Nat) (hj : j = i + 2) (h : i + 2 ≤ s.size) : digS (s.extract i j) = true ↔ DG (bn s i) ∧ DG (bn s (i + 1)) := by
  unfold digS; rw [ext2 s i j hj h, ← bn_at s i (by omega), ← bn_at s (i + 1) (by omega)]; simp [digB_iff]
theorem dig4 (s : ByteArray) (i j : Nat) (hj : j = i + 4) (h : i + 4 ≤ s.size) : digS (s.extract i j) = true ↔ DG (bn s i) ∧ DG (bn s (i + 1)) ∧ DG (bn s (i + 2)) ∧ DG (bn s (i + 3)) := by
  unfold digS; rw [ext4 s i j hj h, ← bn_at s i (by omega), ← bn_at s (i + 1) (by omega), ← bn_at s (i + 2) (by omega), ← bn_at s (i + 3) (by omega)]; simp [digB_iff]
theorem val1 (s : ByteArray) (i j : Nat) (hj : j = i + 1) (h : i + 1 ≤ s.size) : valS (s.extract i j) = bn s i - 48 := by
  unfold valS; rw [ext1 s i j hj h, ← bn_at s i (by omega)]; simp [valL]
theorem val2 (s : ByteArray) (i j : Nat) (hj : j = i + 2) (h : i + 2 ≤ s.size) : valS (s.extract i j) = 10 * (bn s i - 48) + (bn s (i + 1) - 48) := by
  unfold valS; rw [ext2 s i j hj h, ← bn_at s i (by omega), ← bn_at s (i + 1) (by omega)]; simp [valL]; omega
theorem val4 (s : ByteArray) (i j : Nat) (hj : j = i + 4) (h : i + 4 ≤ s.size) : valS (s.extract i j) = 100 * (10 * (bn s i - 48) + (bn s (i + 1) - 48)) + (10 * (bn s (i + 2) - 48) + (bn s (i + 3) - 48)) := by
  unfold valS; rw [ext4 s i j hj h, ← bn_at s i (by omega), ← bn_at s (i + 1) (by omega), ← bn_at s (i + 2) (by omega), ← bn_at s (i + 3) (by omega)]; simp [valL]; omega

/-- the first sign, as both sides take it -/
def b0 (s : ByteArray) : Int := if bn s 0 = 32 then 48 else bn s 0
theorem bn_lt (s : ByteArray) (i : Nat) : 0 ≤ bn s i ∧ bn s i < 256 := by
  unfold bn
  have := (s.data.toList.getD i 0).toNat_lt
  omega
theorem u8_of (c : UInt8) (n : Nat) (hn : n < 256) (h : (c.toNat : Int) = n) : c = UInt8.ofNat n := by
  apply UInt8.toNat_inj.1
  have e : (UInt8.ofNat n).toNat = n := by simp; omega
  rw [e]
  omega
theorem first_is (s : ByteArray) (hs : s.size = 26) : firstS s = (if bn s 0 = 32 then ⟨#[48]⟩ else s.extract 0 1) := by
  unfold firstS
  by_cases h : bn s 0 = 32
  · rw [if_pos h, if_pos]
    rw [toList_data, ext1 s 0 1 rfl (by omega), u8_of s[0] 32 (by decide) ((bn_at s 0 (by omega)).trans h)]
    decide
  · rw [if_neg h, if_neg]
    rw [toList_data, ext1 s 0 1 rfl (by omega)]
    intro e
    apply h
    simp at e
    rw [← bn_at s 0 (by omega), e]; rfl
theorem digF (s : ByteArray) (hs : s.size = 26) : digS (firstS s) = true ↔ DG (b0 s) := by
  rw [first_is s hs]
  unfold b0
  by_cases h : bn s 0 = 32
  · rw [if_pos h, if_pos h]; simp [digS, DG, digB]
  · rw [if_neg h, if_neg h]; exact dig1 s 0 1 rfl (by omega)
theorem valF (s : ByteArray) (hs : s.size = 26) : valS (firstS s) = b0 s - 48 := by
  rw [first_is s hs]
  unfold b0
  by_cases h : bn s 0 = 32
  · rw [if_pos h, if_pos h]; rfl
  · rw [if_neg h, if_neg h]; exact val1 s 0 1 rfl (by omega)
theorem sizeF (s : ByteArray) (hs : s.size = 26) : (firstS s).size ≤ 1 := by
  rw [first_is s hs]
  split
  · decide
  · rw [ByteArray.size_extract]; omega
theorem sizes (s : ByteArray) (hs : s.size = 26) : ∀ f ∈ fieldsS s, f.size ≤ 4 := by
  have := sizeF s hs
  intro f hf
  simp only [fieldsS, List.mem_cons, List.not_mem_nil, or_false] at hf
  rcases hf with rfl | rfl | rfl | rfl | rfl | rfl | rfl | rfl <;> first | omega | (rw [ByteArray.size_extract]; omega)
/-- all fields are digits -/
def AllDig (s : ByteArray) : Prop := DG (b0 s) ∧ DG (bn s 1) ∧ (DG (bn s 7) ∧ DG (bn s 8) ∧ DG (bn s 9) ∧ DG (bn s 10)) ∧ (DG (bn s 12) ∧ DG (bn s 13)) ∧ (DG (bn s 15) ∧ DG (bn s 16)) ∧ (DG (bn s 18) ∧ DG (bn s 19)) ∧ (DG (bn s 22) ∧ DG (bn s 23)) ∧ (DG (bn s 24) ∧ DG (bn s 25))
theorem all_dig (s : ByteArray) (hs : s.size = 26) : (fieldsS s).all digS = true ↔ AllDig s := by
  simp only [fieldsS, List.all_cons, List.all_nil, Bool.and_true, Bool.and_eq_true]
  rw [digF s hs, dig1 s 1 2 rfl (by omega), dig4 s 7 11 rfl (by omega), dig2 s 12 14 rfl (by omega), dig2 s 15 17 rfl (by omega), dig2 s 18 20 rfl (by omega), dig2 s 22 24 rfl (by omega), dig2 s 24 26 rfl (by omega)]
  rfl
theorem all_val (s : ByteArray) (hs : s.size = 26) (h : AllDig s) : (fieldsS s).map valS = [b0 s - 48, bn s 1 - 48, 100 * twoI (bn s 7) (bn s 8) + twoI (bn s 9) (bn s 10), twoI (bn s 12) (bn s 13), twoI (bn s 15) (bn s 16), twoI (bn s 18) (bn s 19), twoI (bn s 22) (bn s 23), twoI (bn s 24) (bn s 25)] := by
  obtain ⟨h0, h1, ⟨h7, h8, h9, h10⟩, h12, h15, h18, h22, h24⟩ := h
  simp only [fieldsS, List.map_cons, List.map_nil]
  rw [valF s hs, val1 s 1 2 rfl (by omega), val4 s 7 11 rfl (by omega), val2 s 12 14 rfl (by omega), val2 s 15 17 rfl (by omega), val2 s 18 20 rfl (by omega), val2 s 22 24 rfl (by omega), val2 s 24 26 rfl (by omega),
    twoI_val ⟨h7, h8⟩, twoI_val ⟨h9, h10⟩, twoI_val h12, twoI_val h15, twoI_val h18, twoI_val h22, twoI_val h24]
end Go.Proofs.Ythcgdbmcpnmeeaa
