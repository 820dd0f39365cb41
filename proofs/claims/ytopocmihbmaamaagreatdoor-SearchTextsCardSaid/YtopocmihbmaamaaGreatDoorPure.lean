/-
  What stands in a text, in whatever case: pure.
-/
import Derived.Test.YtopocmihbmaamaaGreatDoorRows
import Derived.Lib.IndexMore
import Derived.Lib.IndexLaws
namespace Go.Proofs.YtopocmihbmaamaaGreatDoor
set_option linter.unusedVariables false
open Go.Lib

abbrev Tx := List UInt8
def lowB (c : UInt8) : UInt8 := if 65 ≤ c.toNat ∧ c.toNat ≤ 90 then c + 32 else c
def greB (c : UInt8) : UInt8 := if 97 ≤ c.toNat ∧ c.toNat ≤ 122 then c - 32 else c
def foldL (l : Tx) : Tx := l.map lowB
def greatL (l : Tx) : Tx := l.map greB
theorem lowB_nat (c : UInt8) (h : 65 ≤ c.toNat ∧ c.toNat ≤ 90) : (lowB c).toNat = c.toNat + 32 := by
  simp [lowB, h, UInt8.toNat_add]
  omega
theorem greB_nat (c : UInt8) (h : 97 ≤ c.toNat ∧ c.toNat ≤ 122) : (greB c).toNat = c.toNat - 32 := by
  unfold greB
  rw [if_pos h, UInt8.toNat_sub_of_le _ _ (by rw [UInt8.le_iff_toNat_le]; show 32 ≤ _; omega)]
  rfl
theorem low_low (c : UInt8) : lowB (lowB c) = lowB c := by
  by_cases h : 65 ≤ c.toNat ∧ c.toNat ≤ 90
  · have e := lowB_nat c h
    rw [lowB, if_neg (by omega)]
  · rw [show lowB c = c by unfold lowB; rw [if_neg h], show lowB c = c by unfold lowB; rw [if_neg h]]
theorem low_gre (c : UInt8) : lowB (greB c) = lowB c := by
  by_cases h : 97 ≤ c.toNat ∧ c.toNat ≤ 122
  · have e := greB_nat c h
    have e2 := lowB_nat (greB c) (by omega)
    apply UInt8.toNat_inj.1
    rw [e2, e, lowB, if_neg (by omega)]
    omega
  · rw [show greB c = c by unfold greB; rw [if_neg h]]
theorem fold_fold (l : Tx) : foldL (foldL l) = foldL l := by
  unfold foldL
  rw [List.map_map]
  exact List.map_congr_left fun c _ => low_low c
theorem fold_great (l : Tx) : foldL (greatL l) = foldL l := by
  unfold foldL greatL
  rw [List.map_map]
  exact List.map_congr_left fun c _ => low_gre c
theorem none_index (s sub : Tx) (h : ∀ j, j ≤ s.length → occAt s sub j = false) : index s sub = -1 := by
  induction s with
  | nil =>
    have := h 0 (by simp)
    unfold occAt at this
    unfold index
    cases sub with
    | nil => simp at this
    | cons a r => rfl
  | cons b l ih =>
    have h0 := h 0 (by simp)
    have hl := ih fun j hj => by
      have := h (j + 1) (by simp; omega)
      exact this
    unfold index
    unfold occAt at h0
    rw [List.drop_zero] at h0
    rw [h0, hl]
    rfl
theorem contains_occ {s sub : Tx} {i : Nat} (hi : i ≤ s.length) (h : occAt s sub i = true) : Lib.contains s sub = true := by
  have key : ∀ n, n ≤ s.length → occAt s sub n = true → 0 ≤ index s sub := by
    intro n
    induction n using Nat.strongRecOn with
    | _ n ih =>
      intro hn ho
      by_cases hx : ∃ j, j < n ∧ occAt s sub j = true
      · obtain ⟨j, hj, hoj⟩ := hx
        exact ih j hj (by omega) hoj
      · have := index_first hn ho (fun j hj => by
          cases hb : occAt s sub j with
          | false => rfl
          | true => exact absurd ⟨j, hj, hb⟩ hx)
        omega
  unfold Lib.contains
  exact decide_eq_true (key i hi h)
theorem contains_none {s sub : Tx} (h : ∀ j, j ≤ s.length → occAt s sub j = false) : Lib.contains s sub = false := by
  unfold Lib.contains
  rw [none_index s sub h]
  rfl
theorem occ_slice (s sub : Tx) (j : Nat) (h : j + sub.length ≤ s.length) : occAt s sub j = ((s.drop j).take sub.length == sub) := by
  unfold occAt
  by_cases e : (s.drop j).take sub.length = sub
  · rw [e]
    simp only [beq_self_eq_true]
    rw [List.isPrefixOf_iff_prefix]
    refine ⟨(s.drop j).drop sub.length, ?_⟩
    have h2 := List.take_append_drop sub.length (s.drop j)
    rwa [e] at h2
  · have e2 : ((s.drop j).take sub.length == sub) = false := by simpa using e
    rw [e2, ← Bool.not_eq_true, List.isPrefixOf_iff_prefix]
    rintro ⟨t, ht⟩
    apply e
    rw [← ht]
    simp
theorem occ_past (s sub : Tx) (j : Nat) (h : s.length < j + sub.length) (hj : j ≤ s.length) : occAt s sub j = false := by
  unfold occAt
  rw [← Bool.not_eq_true, List.isPrefixOf_iff_prefix]
  rintro ⟨t, ht⟩
  have := congrArg List.length ht
  simp at this
  omega
/-- the law's own way: does it begin at one of the first k places? -/
def standsK (s sub : Tx) (k : Nat) : Bool := (List.range k).any fun j => (s.drop j).take sub.length == sub
theorem standsK_next (s sub : Tx) (k : Nat) : standsK s sub (k + 1) = (standsK s sub k || ((s.drop k).take sub.length == sub)) := by
  unfold standsK
  rw [List.range_succ, List.any_append]
  simp
theorem standsK_all (s sub : Tx) (k : Nat) (h1 : s.length < k + sub.length) (h2 : ∀ j, j < k → j + sub.length ≤ s.length) : standsK s sub k = Lib.contains s sub := by
  cases hc : standsK s sub k with
  | true =>
    unfold standsK at hc
    obtain ⟨j, hj, ho⟩ := List.any_eq_true.1 hc
    have hjk := h2 j (by simpa using hj)
    exact (contains_occ (i := j) (by omega) (by rw [occ_slice s sub j hjk]; exact ho)).symm
  | false =>
    refine (contains_none fun j hj => ?_).symm
    by_cases hjk : j < k
    · rw [occ_slice s sub j (h2 j hjk)]
      unfold standsK at hc
      rw [← Bool.not_eq_true] at hc ⊢
      exact fun ho => hc (List.any_eq_true.2 ⟨j, by simpa using hjk, ho⟩)
    · exact occ_past s sub j (by omega) hj
theorem part_stands (b : Tx) (lo hi : Nat) (h : lo ≤ hi) (h2 : hi ≤ b.length) : Lib.contains (foldL b) (foldL ((b.take hi).drop lo)) = true := by
  have e : foldL ((b.take hi).drop lo) = ((foldL b).take hi).drop lo := by unfold foldL; rw [List.map_drop, List.map_take]
  have hl : (((foldL b).take hi).drop lo).length = hi - lo := by unfold foldL; simp; omega
  have hf : (foldL b).length = b.length := by unfold foldL; simp
  rw [e]
  refine contains_occ (i := lo) (by omega) ?_
  rw [occ_slice _ _ _ (by omega), hl, List.drop_take]
  simp
end Go.Proofs.YtopocmihbmaamaaGreatDoor
