/-
  Arguments that are a slice of rows of bytes, or a slice of numbers, opened.
-/
import Derived.Test.YtgafalobbhoaoaaPlaysW
import Derived.Deep.SlicePairs
import Derived.SizedLaws
namespace Go.Proofs.Ytgafalobbhoaoaa
set_option linter.unusedVariables false
open Go.RowKit Go.ChangeShapes Go.WideShapes Go.Deep

theorem weightsAll_memR {H : Type} {P : Program} {e : TypeId} {d : DataW H} : ∀ {l : List (DataW H)}, d ∈ l → ∀ n ∈ d.weights P e, n ∈ DataW.weightsAll P e l := by
  intro l
  induction l with
  | nil => intro h; cases h
  | cons c r ih =>
    intro h n hn
    rw [DataW.weightsAll]
    rcases List.mem_cons.1 h with rfl | h
    · exact List.mem_append_left _ hn
    · exact List.mem_append_right _ (ih h n hn)

theorem list_ofR {α : Type} (P : Nat → α → Prop) (n : Nat) (h : ∀ i, i < n → ∃ x, P i x) : ∃ l : List α, l.length = n ∧ ∀ i (hi : i < l.length), P i l[i] := by
  induction n with
  | zero => exact ⟨[], rfl, fun i hi => by simp at hi⟩
  | succ n ih =>
    obtain ⟨l, hl, hp⟩ := ih fun i hi => h i (by omega)
    obtain ⟨x, hx⟩ := h n (by omega)
    refine ⟨l ++ [x], by simp [hl], fun i hi => ?_⟩
    by_cases e : i < l.length
    · rw [List.getElem_append_left e]; exact hp i e
    · have e2 : i = l.length := by simp at hi; omega
      subst e2
      simp only [List.getElem_concat_length]
      rw [hl]; exact hx

theorem open_row_rows {H : Type} {enc : TypeId × Value → H} {w : World} {a : Option Addr} {len cap : Nat} {d : DataW H} {p : List MemPlace}
    (h : DataW.Trod enc Try.prog w 0 (fun _ => true) true 22 (.slice a len cap) d p) (hwt : ∀ n ∈ d.weights Try.prog 22, n ≤ reachBytes) : ∃ L : List (Value × List Nat), RowsIn w (.slice a len cap) L := by
  obtain ⟨fuel, hf⟩ := h
  have ce : Try.prog.cellsOf 27 = 1 := by kernel_rfl
  have b5 : Try.prog.bytesOf 5 = 1 := by kernel_rfl
  rcases open_slice Try.underlying22 hf with ⟨hcs, _⟩ | ⟨x, l, c, m, n, D, Pl, hcs, _, hl, hm, hmm, hx, hcell⟩
  · simp [Value.cells] at hcs
    obtain ⟨rfl, rfl, rfl⟩ := hcs
    exact ⟨[], by simp, by simp, .inl ⟨rfl, _, _, rfl⟩⟩
  · simp [Value.cells] at hcs
    obtain ⟨rfl, rfl, rfl⟩ := hcs
    obtain ⟨rfl, -⟩ := Prod.mk.inj hx
    obtain ⟨L, hL, hp⟩ := list_ofR (fun i (q : Value × List Nat) => w.cell? (x.add i) = some q.1 ∧ RowB w q.1 q.2 ∧ q.2.length ≤ 140737488351232) len (fun i hi => by
      obtain ⟨cs', h1, h2⟩ := hcell i (by simp at hmm; omega)
      rw [ce] at h1
      obtain ⟨_, hlen, hc4⟩ := World.cells?_some h1
      obtain ⟨v0, rfl⟩ : ∃ v0, cs' = [v0] := by
        match cs', hlen with
        | [v0], _ => exact ⟨_, rfl⟩
      have e0 := hc4 0 (by omega)
      have hmem : ∀ n ∈ (D i).weights Try.prog 27, n ≤ reachBytes := fun n hn => by
        refine hwt n ?_
        rw [DataW.weights, Try.underlying22]
        refine List.mem_cons_of_mem _ (List.mem_append_left _ (weightsAll_memR ?_ n hn))
        exact List.mem_map.2 ⟨i, List.mem_range.2 hi, rfl⟩
      obtain ⟨lb, hb, hbl⟩ : ∃ lb, RowB w v0 lb ∧ lb.length ≤ 140737488351232 := by
        rcases open_ints Try.underlying27 Try.underlying5 (by kernel_rfl) h2 with ⟨hcs, _⟩ | ⟨xa, l', c', zs, hcs, _, hl', hm', hz, hx', hce, hwz⟩
        · simp at hcs
          subst hcs
          exact ⟨[], rowB_nil w, by simp⟩
        · simp at hcs
          subst hcs
          refine ⟨_, rowB_of_ints hl' hm' (by simpa using hz) hce hwz, ?_⟩
          have hD : D i = _ := (Prod.mk.inj hx').1
          rw [hD] at hmem
          have := hmem (((lits .u8 (zs.take l')).length + (lits .u8 (zs.drop l')).length) * Try.prog.bytesOf 5) (by rw [DataW.weights, Try.underlying27]; exact List.mem_cons_self)
          rw [b5] at this
          simp only [lits, List.length_map, List.length_take, List.length_drop, reachBytes] at this ⊢
          omega
      exact ⟨(v0, lb), by simpa [Addr.add] using e0, hb, hbl⟩)
    refine ⟨L, ?_, by omega, ?_⟩
    · intro q hq
      obtain ⟨i, hi, rfl⟩ := List.getElem_of_mem hq
      exact (hp i hi).2
    · by_cases h0 : len = 0
      · subst h0
        exact .inl ⟨List.eq_nil_of_length_eq_zero hL, _, _, rfl⟩
      · right
        obtain ⟨b, off, spot⟩ := x
        have hc0 := (hp 0 (by omega)).1
        have hspot : spot = none := by simpa [Addr.add] using World.cell?_spot hc0
        subst hspot
        refine ⟨b, off, cap, by rw [hL], ?_, by omega, fun i hi => ?_⟩
        · have := World.block_lt_of_cell? w _ hc0
          simpa [Addr.add] using this
        · have := (hp i hi).1
          rw [Addr.add_lit] at this
          exact this

theorem open_row_ints {H : Type} {enc : TypeId × Value → H} {w : World} {a : Option Addr} {len cap : Nat} {d : DataW H} {p : List MemPlace}
    (h : DataW.Trod enc Try.prog w 0 (fun _ => true) true 23 (.slice a len cap) d p) : ∃ A : List Int, IntsIn w (.slice a len cap) A := by
  obtain ⟨fuel, hf⟩ := h
  rcases open_ints Try.underlying23 Try.underlying3 (by kernel_rfl) hf with ⟨hcs, _⟩ | ⟨x, l, c, zs, hcs, _, hl, hm, hz, hx, hcell, hwz⟩
  · simp [Value.cells] at hcs
    obtain ⟨rfl, rfl, rfl⟩ := hcs
    exact ⟨[], by simp, .inl ⟨rfl, _, _, rfl⟩⟩
  · simp [Value.cells] at hcs
    obtain ⟨rfl, rfl, rfl⟩ := hcs
    have hz' : zs.length = cap := by simpa using hz
    have htl : (zs.take len).length = len := by simp; omega
    refine ⟨zs.take len, by omega, ?_⟩
    by_cases h0 : len = 0
    · subst h0
      exact .inl ⟨by simp, _, _, rfl⟩
    · right
      obtain ⟨b, off, spot⟩ := x
      have hc0 := hcell 0 (by omega)
      have hspot : spot = none := by simpa [Addr.add] using World.cell?_spot hc0
      subst hspot
      refine ⟨b, off, cap, by rw [htl], ?_, by omega, fun i hi => ?_⟩
      · have := World.block_lt_of_cell? w _ hc0
        simpa [Addr.add] using this
      · have hi' : i < len := by omega
        have := hcell i (by omega)
        rw [Addr.add_lit] at this
        rw [this]
        have : zs.getD i 0 = zs[i]'(by omega) := by simp [List.getD, show i < zs.length by omega]
        rw [this]
        simp
end Go.Proofs.Ytgafalobbhoaoaa
