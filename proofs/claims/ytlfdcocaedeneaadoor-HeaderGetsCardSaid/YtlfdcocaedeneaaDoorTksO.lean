/-
  A slice of fields among the arguments, opened.
-/
import Derived.Test.YtlfdcocaedeneaaDoorStrsO
import Derived.Test.YtlfdcocaedeneaaDoorGets
import Derived.Deep.SlicePairs
namespace Go.Proofs.YtlfdcocaedeneaaDoor
open Go.ChangeShapes Go.WideShapes Go.ChangeAt Go.RowKit Go.Deep
set_option linter.unusedVariables false

theorem listOf {α : Type} (Q : Nat → α → Prop) : ∀ n, (∀ i, i < n → ∃ a, Q i a) → ∃ l : List α, l.length = n ∧ ∀ i (h : i < l.length), Q i l[i] := by
  intro n
  induction n with
  | zero => intro _; exact ⟨[], rfl, fun i h => absurd h (by simp)⟩
  | succ n ih =>
    intro h
    obtain ⟨l, hl, hq⟩ := ih fun i hi => h i (by omega)
    obtain ⟨a, ha⟩ := h n (by omega)
    refine ⟨l ++ [a], by simp [hl], fun i hi => ?_⟩
    rcases Nat.lt_or_ge i n with h2 | h2
    · rw [List.getElem_append_left (by omega)]
      exact hq i (by omega)
    · have hi' : i < n + 1 := by simpa [hl] using hi
      obtain rfl : i = n := by omega
      have : (l ++ [a])[i] = a := by
        rw [List.getElem_append_right (by omega)]
        simp [hl]
      rw [this]
      exact ha

theorem open_row_tks {H : Type} {enc : TypeId × Value → H} {w : World} {a : Option Addr} {len cap : Nat} {d : DataW H} {p : List MemPlace}
    (h : DataW.Trod enc Tryd.prog w 0 (fun _ => true) true 29 (.slice a len cap) d p) (hwt : ∀ n ∈ d.weights Tryd.prog 29, n ≤ reachBytes) : ∃ L : List Tk, TksIn w (.slice a len cap) L := by
  obtain ⟨fuel, hf⟩ := h
  rcases open_slice_pairs Tryd.underlying29 Tryd.underlying28 (by kernel_rfl) (by kernel_rfl) (by kernel_rfl) (by kernel_rfl) (by kernel_rfl) hf with ⟨hcs, _⟩ | ⟨x, l, c, m, n, V0, V1, D0, D1, P0, P1, hcs, _, hl, hm, hmm, hx, hcell⟩
  · simp [Value.cells] at hcs
    obtain ⟨rfl, rfl, rfl⟩ := hcs
    exact ⟨[], by simp, .inl ⟨rfl, _, _, rfl⟩⟩
  · simp [Value.cells] at hcs
    obtain ⟨rfl, rfl, rfl⟩ := hcs
    obtain ⟨rfl, rfl⟩ := Prod.mk.inj hx
    have hlm : len ≤ m := by simp at hmm; omega
    obtain ⟨L, hL, hp⟩ := listOf (fun i (q : Tk) => w.cell? (x.add (i * 2)) = some (.string q.1) ∧ w.cell? (x.add (i * 2 + 1)) = some (.string q.2) ∧ q.1.size ≤ 140737488351232 ∧ q.2.size ≤ 140737488351232) len (fun i hi => by
      obtain ⟨h0, h1, t0, t1⟩ := hcell i (by omega)
      obtain ⟨s0, e0, d0, w0⟩ := DataW.trod_string Tryd.underlying9 t0
      obtain ⟨s1, e1, d1, w1⟩ := DataW.trod_string Tryd.underlying9 t1
      simp only [List.cons.injEq, and_true] at e0 e1
      have hw : ∀ n ∈ (DataW.agg [D0 i, D1 i] : DataW H).weights Tryd.prog 28, n ≤ reachBytes := fun n hn => hwt n (by
        rw [DataW.weights, Tryd.underlying29]
        refine List.mem_cons_of_mem _ (List.mem_append_left _ (weightsAll_mem (d := .agg [D0 i, D1 i]) ?_ n hn))
        exact List.mem_map.2 ⟨i, List.mem_range.2 hi, rfl⟩)
      rw [DataW.weights, Tryd.underlying28] at hw
      have hd0 : D0 i = .lit (.string s0.data.toList) := congrArg Prod.fst d0
      have hd1 : D1 i = .lit (.string s1.data.toList) := congrArg Prod.fst d1
      rw [hd0, hd1] at hw
      have g0 := hw s0.data.toList.length (by simp [DataW.weightsEach, DataW.weights])
      have g1 := hw s1.data.toList.length (by simp [DataW.weightsEach, DataW.weights])
      have z0 : s0.data.toList.length = s0.size := by rw [Array.length_toList]; rfl
      have z1 : s1.data.toList.length = s1.size := by rw [Array.length_toList]; rfl
      simp only [reachBytes] at g0 g1
      exact ⟨(s0, s1), by rw [h0, e0], by rw [h1, e1], by show s0.size ≤ _; omega, by show s1.size ≤ _; omega⟩)
    refine ⟨L, fun q hq => ?_, ?_⟩
    · obtain ⟨i, hi, rfl⟩ := List.mem_iff_getElem.1 hq
      exact (hp i hi).2.2
    · by_cases h0 : len = 0
      · subst h0
        exact .inl ⟨List.eq_nil_of_length_eq_zero hL, _, _, rfl⟩
      · right
        obtain ⟨b, off, spot⟩ := x
        have hc0 := (hp 0 (by omega)).1
        have hspot : spot = none := by simpa [Addr.add] using World.cell?_spot hc0
        subst hspot
        refine ⟨b, off, cap, by rw [hL], ?_, by omega, fun i hi => ?_⟩
        · have := World.block_lt_of_cell? w _ hc0
          simpa [Addr.add] using this
        · obtain ⟨h1, h2, _, _⟩ := hp i hi
          rw [Addr.add_lit] at h1 h2
          exact ⟨h1, by rw [Nat.add_assoc]; exact h2⟩
end Go.Proofs.YtlfdcocaedeneaaDoor
