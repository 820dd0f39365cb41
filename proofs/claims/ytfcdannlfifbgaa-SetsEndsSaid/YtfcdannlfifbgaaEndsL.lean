/-
  Rows of the parts of a set.
-/
import Derived.Test.YtfcdannlfifbgaaEndsMath
import Derived.Test.YtfcdannlfifbgaaPickLaw
namespace Go.Proofs.Ytfcdannlfifbgaa
set_option linter.unusedVariables false
open Go.RowKit

theorem cut_of (cut : Int) (m : Nat) (hm : m ≤ 1000) : ∃ q : Nat, wrap64 ((IntKind.u64.wrap cut).tmod ((m : Int) + 1)) = (q : Int) ∧ q ≤ m := by
  have h0 : 0 ≤ IntKind.u64.wrap cut := by rw [IntKind.wrap_u64]; omega
  rw [Int.tmod_eq_emod_of_nonneg h0]
  generalize IntKind.u64.wrap cut = c at *
  have h1 := Int.emod_nonneg c (show ((m : Int) + 1) ≠ 0 by omega)
  have h2 := Int.emod_lt_of_pos c (show 0 < ((m : Int) + 1) by omega)
  refine ⟨(c % ((m : Int) + 1)).toNat, ?_, by omega⟩
  unfold wrap64
  omega

theorem RowR.take {w : World} {a : Option Addr} {c : Nat} {s : List (Int × Int)} (h : RowR w (.slice a s.length c) s) (k : Nat) (hk : k ≤ s.length) : RowR w (.slice a k c) (s.take k) := by
  obtain ⟨⟨a', cap, e, hc, hm, hl, hn, hcell⟩, hb⟩ := h
  simp only [Value.slice.injEq, true_and] at e
  obtain ⟨rfl, rfl⟩ := e
  have hlen : (s.take k).length = k := by simp; omega
  refine ⟨⟨a, c, by rw [hlen], by omega, hm, by simp, fun h0 => ?_, fun x hx j hj => ?_⟩, fun p hp => hb p (List.mem_of_mem_take hp)⟩
  · have := hn h0; omega
  · have hj' : j < k * 2 := by simp at hj; omega
    have := hcell x hx j (by simp; omega)
    rw [this]
    have e : rngs s = rngs (s.take k) ++ rngs (s.drop k) := by rw [← rngs_append, List.take_append_drop]
    have e2 : (rngs s)[j]? = (rngs (s.take k))[j]? := by rw [e, List.getElem?_append_left hj]
    rw [List.getElem?_eq_getElem hj, List.getElem?_eq_getElem (by simp; omega)] at e2
    exact e2
theorem RowR.drop {w : World} {b o : Nat} {c : Nat} {s : List (Int × Int)} (h : RowR w (.slice (some ⟨b, o, none⟩) s.length c) s) (k : Nat) (hk : k ≤ s.length) : RowR w (.slice (some ⟨b, o + k * 2, none⟩) (s.length - k) (c - k)) (s.drop k) := by
  obtain ⟨⟨a', cap, e, hc, hm, hl, hn, hcell⟩, hb⟩ := h
  simp only [Value.slice.injEq, true_and] at e
  obtain ⟨rfl, rfl⟩ := e
  have hlen : (s.drop k).length = s.length - k := by simp
  refine ⟨⟨_, _, by rw [hlen], by omega, by omega, by simp, by simp, fun x hx j hj => ?_⟩, fun p hp => hb p (List.mem_of_mem_drop hp)⟩
  obtain rfl := Option.some.inj hx
  have hj' : j < (s.length - k) * 2 := by simp at hj; omega
  have := hcell _ rfl (k * 2 + j) (by simp; omega)
  rw [Addr.add_lit] at this ⊢
  rw [Nat.add_assoc, this]
  have e : rngs s = rngs (s.take k) ++ rngs (s.drop k) := by rw [← rngs_append, List.take_append_drop]
  have e2 : (rngs s)[k * 2 + j]? = (rngs (s.drop k))[j]? := by
    rw [e, List.getElem?_append_right (by simp; omega)]
    congr 1
    simp
    omega
  rw [List.getElem?_eq_getElem hj, List.getElem?_eq_getElem (by simp; omega)] at e2
  exact e2
theorem RowR.end_ {w : World} {a : Option Addr} {c : Nat} {s : List (Int × Int)} (h : RowR w (.slice a s.length c) s) : RowR w (.slice a 0 0) [] := by
  obtain ⟨⟨a', cap, e, hc, hm, hl, hn, hcell⟩, hb⟩ := h
  exact ⟨⟨a, 0, rfl, Nat.le_refl _, by decide, by simp [rngs], fun _ => ⟨rfl, rfl⟩, fun x hx j hj => by simp [rngs] at hj⟩, by simp⟩

theorem RowR.drop0 {w : World} {s : List (Int × Int)} {q c : Nat} {a : Option Addr} (hq : s.length ≤ q) (hc : c ≤ maxLen) (hn : a = none → c = 0) : RowR w (.slice a (s.length - q) c) (s.drop q) := by
  have e : s.drop q = [] := List.drop_of_length_le hq
  rw [e, show s.length - q = 0 by omega]
  exact ⟨⟨a, c, rfl, by simp, hc, by simp [rngs], fun h => ⟨rfl, hn h⟩, fun x hx j hj => by simp [rngs] at hj⟩, by simp⟩
theorem RowR.nilcap {w : World} {s : List (Int × Int)} {c : Nat} (h : RowR w (.slice none s.length c) s) : c = 0 := by
  obtain ⟨⟨a', cap, e, hc, hm, hl, hn, hcell⟩, hb⟩ := h
  simp only [Value.slice.injEq, true_and] at e
  exact e.2 ▸ (hn e.1.symm).2

theorem swapL_bd {s : List (Int × Int)} (h : RBd s) : RBd (swapL s) := by
  intro p hp
  obtain ⟨q, hq, rfl⟩ := List.mem_map.1 hp
  exact ⟨(h q hq).2, (h q hq).1⟩

end Go.Proofs.Ytfcdannlfifbgaa
