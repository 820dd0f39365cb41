/-
  Arguments that are slices of numbers, or of ranges, opened to rows (stage 7's text, by this seat's numbers).
-/
import Derived.Test.YtligplnmgoailaaMem
import Derived.Deep.SlicePairs
namespace Go.Proofs.Ytligplnmgoailaa
set_option linter.unusedVariables false
open Go.RowKit Go.ChangeShapes Go.WideShapes Go.Deep

theorem open_row_nums {H : Type} {enc : TypeId × Value → H} {w : World} {a : Option Addr} {len cap : Nat} {d : DataW H} {p : List MemPlace}
    (h : DataW.Trod enc Try.prog w 0 (fun _ => true) true 26 (.slice a len cap) d p) : ∃ l : List Int, RowN w (.slice a len cap) l := by
  obtain ⟨fuel, hf⟩ := h
  rcases open_ints Try.underlying26 Try.underlying22 (by kernel_rfl) hf with ⟨hcs, _⟩ | ⟨x, l, c, zs, hcs, _, hl, hm, hz, hx, hcell, hwz⟩
  · simp [Value.cells] at hcs
    obtain ⟨rfl, rfl, rfl⟩ := hcs
    exact ⟨[], RowV.none_ w 1, by simp⟩
  · simp [Value.cells] at hcs
    obtain ⟨rfl, rfl, rfl⟩ := hcs
    have hz' : zs.length = cap := by simpa using hz
    have hlen : (zs.take len).length = len := by simp; omega
    refine ⟨zs.take len, ⟨some x, cap, by rw [hlen], by omega, hm, by simp, by simp, ?_⟩, fun n hn => ?_⟩
    · intro y hy j hj
      obtain rfl := Option.some.inj hy
      have hj' : j < len := by simpa [hlen] using hj
      rw [hcell j (by omega), u32s_get _ j (by omega)]
      have e : zs.getD j 0 = (zs.take len)[j]'(by omega) := by rw [List.getElem_take, List.getD_eq_getElem?_getD, List.getElem?_eq_getElem (by omega)]; rfl
      rw [e]
    · have := Go.bounds_u32 (hwz n (List.mem_of_mem_take hn))
      omega

theorem list_of {α : Type} (P : Nat → α → Prop) (n : Nat) (h : ∀ i, i < n → ∃ x, P i x) : ∃ l : List α, l.length = n ∧ ∀ i (hi : i < l.length), P i l[i] := by
  induction n with
  | zero => exact ⟨[], rfl, fun i hi => by simp at hi⟩
  | succ n ih =>
    obtain ⟨l, hl, hp⟩ := ih fun i hi => h i (by omega)
    obtain ⟨x, hx⟩ := h n (by omega)
    refine ⟨l ++ [x], by simp [hl], fun i hi => ?_⟩
    by_cases e : i < l.length
    · rw [List.getElem_append_left e]; exact hp i e
    · have e2 : i = l.length := by simp at hi; omega
      subst e2
      simp only [List.getElem_concat_length]
      rw [hl]; exact hx

theorem rngs_at (l : List (Int × Int)) (i j : Nat) (hi : i < l.length) (hj : j < 2) : (rngs l)[i * 2 + j]? = some (if j = 0 then .int .u32 l[i].1 else .int .u32 l[i].2) := by
  match j, hj with
  | 0, _ => exact rngs_from? l i hi
  | 1, _ => exact rngs_to? l i hi

theorem open_row_rngs {H : Type} {enc : TypeId × Value → H} {w : World} {a : Option Addr} {len cap : Nat} {d : DataW H} {p : List MemPlace}
    (h : DataW.Trod enc Try.prog w 0 (fun _ => true) true 30 (.slice a len cap) d p) : ∃ l : List (Int × Int), RowR w (.slice a len cap) l := by
  obtain ⟨fuel, hf⟩ := h
  rcases open_slice_pairs Try.underlying30 Try.underlying43 (by kernel_rfl) (by kernel_rfl) (by kernel_rfl) (by kernel_rfl) (by kernel_rfl) hf with ⟨hcs, _⟩ | ⟨x, l, c, m, n, V0, V1, D0, D1, P0, P1, hcs, _, hl, hm, hmm, hx, hcell⟩
  · simp [Value.cells] at hcs
    obtain ⟨rfl, rfl, rfl⟩ := hcs
    exact ⟨[], RowV.none_ w 2, by simp⟩
  · simp [Value.cells] at hcs
    obtain ⟨rfl, rfl, rfl⟩ := hcs
    obtain ⟨L, hL, hp⟩ := list_of (fun i (q : Int × Int) => w.cell? (x.add (i * 2)) = some (.int .u32 q.1) ∧ w.cell? (x.add (i * 2 + 1)) = some (.int .u32 q.2) ∧ (0 ≤ q.1 ∧ q.1 < 4294967296) ∧ (0 ≤ q.2 ∧ q.2 < 4294967296)) len (fun i hi => by
      obtain ⟨h0, h1, t0, t1⟩ := hcell i (by simp at hmm; omega)
      obtain ⟨n0, e0, _, w0⟩ := DataW.trod_int Try.underlying22 t0
      obtain ⟨n1, e1, _, w1⟩ := DataW.trod_int Try.underlying22 t1
      simp only [List.cons.injEq, and_true] at e0 e1
      have b0 := Go.bounds_u32 w0
      have b1 := Go.bounds_u32 w1
      exact ⟨(n0, n1), by rw [h0, e0], by rw [h1, e1], by omega, by omega⟩)
    refine ⟨L, ⟨some x, cap, by rw [hL], by omega, hm, by simp, by simp, ?_⟩, fun q hq => ?_⟩
    · intro y hy j hj
      obtain rfl := Option.some.inj hy
      have hj' : j < L.length * 2 := by simpa using hj
      have hd : j / 2 * 2 + j % 2 = j := by omega
      have hi : j / 2 < L.length := by omega
      have ha := rngs_at L (j / 2) (j % 2) hi (by omega)
      rw [hd] at ha
      obtain ⟨h0, h1, _, _⟩ := hp (j / 2) hi
      have hg : some (rngs L)[j] = (rngs L)[j]? := (List.getElem?_eq_getElem hj).symm
      rw [hg, ha]
      by_cases e : j % 2 = 0
      · rw [if_pos e, ← h0, show j / 2 * 2 = j by omega]
      · rw [if_neg e, ← h1, show j / 2 * 2 + 1 = j by omega]
    · obtain ⟨i, hi, rfl⟩ := List.mem_iff_getElem.1 hq
      exact (hp i hi).2.2
end Go.Proofs.Ytligplnmgoailaa
