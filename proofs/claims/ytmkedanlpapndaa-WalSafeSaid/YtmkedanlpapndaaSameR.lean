/-
  Two rows of rows of bytes that are alike are told so.
-/
import Derived.Test.YtmkedanlpapndaaRecs
namespace Go.Proofs.Ytmkedanlpapndaa
set_option linter.unusedVariables false
open Go.RowKit

def RowsB (w : World) (v : Value) (D : List (List Nat)) : Prop :=
  ∃ a cap, v = .slice a D.length cap ∧ D.length ≤ cap ∧ cap ≤ maxLen ∧ (D = [] ∨ ∃ b off, a = some ⟨b, off, none⟩ ∧ ∀ i (h : i < D.length), ∃ x l c, w.cell? ⟨b, off + i, none⟩ = some (.slice x l c) ∧ RowB w (.slice x l c) D[i])
theorem RowsB.still {w w' : World} {v : Value} {D : List (List Nat)} (h : RowsB w v D) (hs : Still w w') : RowsB w' v D := by
  obtain ⟨a, cap, e, h1, h2, h3⟩ := h
  refine ⟨a, cap, e, h1, h2, h3.imp id fun ⟨b, off, e, hc⟩ => ⟨b, off, e, fun i hi => ?_⟩⟩
  obtain ⟨x, l, c, k1, k2⟩ := hc i hi
  exact ⟨x, l, c, (hs.cell _).trans k1, k2.below hs.1⟩
theorem RowsB.below {w w' : World} {v : Value} {D : List (List Nat)} (h : RowsB w v D) (hb : Below w.heap.size w w') : RowsB w' v D := by
  obtain ⟨a, cap, e, h1, h2, h3⟩ := h
  refine ⟨a, cap, e, h1, h2, h3.imp id fun ⟨b, off, e, hc⟩ => ⟨b, off, e, fun i hi => ?_⟩⟩
  obtain ⟨x, l, c, k1, k2⟩ := hc i hi
  exact ⟨x, l, c, by rw [hb.cell (World.block_lt_of_cell? w _ k1)]; exact k1, k2.below hb⟩
theorem RowsB.take {w : World} {a : Option Addr} {n cap : Nat} {D : List (List Nat)} (h : RowsB w (.slice a n cap) D) (k : Nat) (hk : k ≤ D.length) : RowsB w (.slice a k cap) (D.take k) := by
  obtain ⟨a2, cap2, e, h1, h2, h3⟩ := h
  obtain ⟨rfl, rfl, rfl⟩ : a = a2 ∧ n = D.length ∧ cap = cap2 := by simpa using e
  have hl : (D.take k).length = k := by simp; omega
  refine ⟨a, cap, by rw [hl], by omega, h2, ?_⟩
  rcases h3 with h3 | ⟨b, off, e, hc⟩
  · left; rw [h3]; simp
  · right
    refine ⟨b, off, e, fun i hi => ?_⟩
    obtain ⟨x, l, c, k1, k2⟩ := hc i (by omega)
    exact ⟨x, l, c, k1, by rw [List.getElem_take]; exact k2⟩
theorem Rows2.rowsB {w : World} {B : Nat} {o : Value} {M : List (Value × List Nat)} {D : List (List Nat)} (h : Rows2 w B o M) (hm : M.map (·.2) = D) (h256 : ∀ d ∈ D, ∀ n ∈ d, n < 256) : RowsB w o D := by
  subst hm
  have hl : (M.map (·.2)).length = M.length := by simp
  rcases h.row.2 with ⟨e, h1⟩ | ⟨g, cap, cur, e, hb, hh, hc, hmx, hs, ht⟩
  · have h0 : M = [] := List.eq_nil_of_length_eq_zero h1
    subst h0
    exact ⟨none, 0, by rw [e]; rfl, Nat.le_refl _, Nat.zero_le _, .inl rfl⟩
  · refine ⟨_, cap, by rw [e, hl], by rw [hl]; exact hc, hmx, .inr ⟨g, 0, rfl, fun i hi => ?_⟩⟩
    have hi2 : i < M.length := by omega
    have ho := h.own _ (List.getElem_mem hi2)
    obtain ⟨a, c, e⟩ := ho.shape
    have hr := ho.rowB (h256 _ (List.mem_map_of_mem (List.getElem_mem hi2)))
    rw [e] at hr
    refine ⟨a, _, c, ?_, by rw [List.getElem_map]; exact hr⟩
    rw [Nat.zero_add, cell_of_row _ _ _ _ 34 (0, 0) hh]
    have h3 : (M.map (·.1))[i]? = some M[i].1 := by rw [List.getElem?_map, List.getElem?_eq_getElem hi2]; rfl
    rw [← ht, List.getElem?_take_of_lt (by omega), e] at h3
    simpa using h3

set_option maxRecDepth 100000 in
set_option maxHeartbeats 4000000 in
theorem sameR {va vb : Value} {D : List (List Nat)} {w : World} (ha : RowsB w va D) (hb : RowsB w vb D) :
    Calls Try.prog 23 #[va, vb, .func (.func 25) #[] #[]] w fun e w' => e = .returned (.bool true) ∧ Still w w' := by
  have HA := Lib.hid ha
  have HB := Lib.hid hb
  obtain ⟨aa, ca, rfl, h1, h2, -⟩ := ha
  obtain ⟨ab, cb, rfl, h3, h4, -⟩ := hb
  have hml : D.length ≤ 9223372036854775807 := by unfold maxLen at h2; omega
  clear h2 h4
  go_enter Try.func23, Try.ntmps23
  go_wp2_with fail
  go_loopw [7] (fun i wr => ∃ k : Nat, k ≤ D.length ∧ i = .int .i64 k ∧ Still w wr) (fun i _ => D.length - (intOf i).toNat)
  case atStart => exact ⟨0, Nat.zero_le _, rfl, Still.refl _⟩
  case round =>
    obtain ⟨k, hk, rfl, hst⟩ := hrel
    by_cases hka : k < D.length
    · have hkz : (k : Int) < (D.length : Int) := by omega
      obtain ⟨a2, cap, e, -, -, h5⟩ := HA.out.still hst
      obtain ⟨b2, cap2, e2, -, -, h6⟩ := HB.out.still hst
      rcases h5 with h5 | ⟨ba, oa, rfl, hca⟩
      · rw [h5] at hka; simp at hka
      rcases h6 with h6 | ⟨bb, ob, rfl, hcb⟩
      · rw [h6] at hka; simp at hka
      obtain ⟨rfl, rfl⟩ : aa = some ⟨ba, oa, none⟩ ∧ ca = cap := by simpa using e
      obtain ⟨rfl, rfl⟩ : ab = some ⟨bb, ob, none⟩ ∧ cb = cap2 := by simpa using e2
      obtain ⟨x, l, c, c1, r1⟩ := hca k hka
      obtain ⟨y, m, d, c2, r2⟩ := hcb k hka
      have HBY : Hid (∀ n, Calls Try.prog 25 #[.slice x l c, .slice y m d] (wr.drewN n) fun e w' => e = .returned (.bool true) ∧ w' = wr.drewN n) := Lib.hid fun n => by
        have := bytes_any (w := wr.drewN n) (r1.below ((Still.refl _).drewN n).1) (r2.below ((Still.refl _).drewN n).1)
        refine this.mono fun e w' h => ⟨by simpa using h.1, h.2.symm⟩
      have HK := Lib.hid hka
      clear r1 r2 hca hcb e e2
      go_wp2_with fail
      go_quiet ((go_at_call 25; exact Calls.quiet_of_same (HBY.out _)))
      go_wp2_with fail
      go_roundw
      case rel => exact ⟨k + 1, by have := HK.out; omega, by go_num, hst.drewN _⟩
      case measure => simp [intOf]; omega
    · obtain rfl : k = D.length := by omega
      go_wp2_with fail
      go_ret
      exact ⟨rfl, hst⟩
end Go.Proofs.Ytmkedanlpapndaa
