/-
  An argument that is a slice of rows of bytes, opened.
-/
import Derived.Test.YtmkedanlpapndaaSameR
import Derived.Test.YtmkedanlpapndaaCrash
import Derived.Deep.SlicePairs
import Derived.SizedLaws
namespace Go.Proofs.Ytmkedanlpapndaa
set_option linter.unusedVariables false
open Go.RowKit Go.ChangeShapes Go.WideShapes Go.Deep

theorem list_ofR {α : Type} (P : Nat → α → Prop) (n : Nat) (h : ∀ i, i < n → ∃ x, P i x) : ∃ l : List α, l.length = n ∧ ∀ i (hi : i < l.length), P i l[i] := by
  induction n with
  | zero => exact ⟨[], rfl, fun i hi => by simp at hi⟩
  | succ n ih =>
    obtain ⟨l, hl, hp⟩ := ih fun i hi => h i (by omega)
    obtain ⟨x, hx⟩ := h n (by omega)
    refine ⟨l ++ [x], by simp [hl], fun i hi => ?_⟩
    by_cases e : i < l.length
    · rw [List.getElem_append_left e]; exact hp i e
    · have e2 : i = l.length := by simp at hi; omega
      subst e2
      simp only [List.getElem_concat_length]
      rw [hl]; exact hx

theorem open_row_rows {H : Type} {enc : TypeId × Value → H} {w : World} {a : Option Addr} {len cap : Nat} {d : DataW H} {p : List MemPlace}
    (h : DataW.Trod enc Try.prog w 0 (fun _ => true) true 29 (.slice a len cap) d p) : ∃ X : List (List Nat), RowsB w (.slice a len cap) X := by
  obtain ⟨fuel, hf⟩ := h
  have ce : Try.prog.cellsOf 34 = 1 := by kernel_rfl
  rcases open_slice Try.underlying29 hf with ⟨hcs, _⟩ | ⟨x, l, c, m, n, D, Pl, hcs, _, hl, hm, hmm, hx, hcell⟩
  · simp [Value.cells] at hcs
    obtain ⟨rfl, rfl, rfl⟩ := hcs
    exact ⟨[], none, 0, rfl, Nat.le_refl _, Nat.zero_le _, .inl rfl⟩
  · simp [Value.cells] at hcs
    obtain ⟨rfl, rfl, rfl⟩ := hcs
    obtain ⟨rfl, -⟩ := Prod.mk.inj hx
    obtain ⟨L, hL, hp⟩ := list_ofR (fun i (q : Value × List Nat) => w.cell? (x.add i) = some q.1 ∧ RowB w q.1 q.2) len (fun i hi => by
      obtain ⟨cs', h1, h2⟩ := hcell i (by simp at hmm; omega)
      rw [ce] at h1
      obtain ⟨_, hlen, hc4⟩ := World.cells?_some h1
      obtain ⟨v0, rfl⟩ : ∃ v0, cs' = [v0] := by
        match cs', hlen with
        | [v0], _ => exact ⟨_, rfl⟩
      have e0 := hc4 0 (by omega)
      obtain ⟨lb, hb⟩ : ∃ lb, RowB w v0 lb := by
        rcases open_ints Try.underlying34 Try.underlying5 (by kernel_rfl) h2 with ⟨hcs, _⟩ | ⟨xa, l', c', zs, hcs, _, hl', hm', hz, hx', hce, hwz⟩
        · simp at hcs
          subst hcs
          exact ⟨[], rowB_nil w⟩
        · simp at hcs
          subst hcs
          exact ⟨_, rowB_of_ints hl' hm' (by simpa using hz) hce hwz⟩
      exact ⟨(v0, lb), by simpa [Addr.add] using e0, hb⟩)
    refine ⟨L.map (·.2), some x, cap, by simp [hL], by simp; omega, by omega, ?_⟩
    by_cases h0 : len = 0
    · subst h0
      left
      rw [List.eq_nil_of_length_eq_zero hL]
      rfl
    · right
      obtain ⟨b, off, spot⟩ := x
      have hc0 := (hp 0 (by omega)).1
      have hspot : spot = none := by simpa [Addr.add] using World.cell?_spot hc0
      subst hspot
      refine ⟨b, off, rfl, fun i hi => ?_⟩
      have hi2 : i < L.length := by simpa using hi
      obtain ⟨h1, h2⟩ := hp i hi2
      rw [Addr.add_lit] at h1
      rw [List.getElem_map]
      obtain ⟨xx, ll, cc, e, _⟩ := id h2
      rw [e] at h1 h2
      exact ⟨xx, ll, cc, h1, h2⟩
/-- a slice of numbers among the arguments, opened -/
theorem open_row_nums {H : Type} {enc : TypeId × Value → H} {w : World} {a : Option Addr} {len cap : Nat} {d : DataW H} {p : List MemPlace}
    (h : DataW.Trod enc Try.prog w 0 (fun _ => true) true 35 (.slice a len cap) d p) : ∃ K, IntB w (.slice a len cap) K := by
  obtain ⟨fuel, hf⟩ := h
  rcases open_ints Try.underlying35 Try.underlying3 (by kernel_rfl) hf with ⟨hcs, _⟩ | ⟨x, l, c, zs, hcs, _, hl, hm, hz, hx, hcell, hwz⟩
  · simp [Value.cells] at hcs
    obtain ⟨rfl, rfl, rfl⟩ := hcs
    exact ⟨[], .inl ⟨⟨_, _, rfl⟩, rfl⟩⟩
  · simp [Value.cells] at hcs
    obtain ⟨rfl, rfl, rfl⟩ := hcs
    have hz' : zs.length = cap := by simpa using hz
    refine ⟨zs.take len, ?_⟩
    have hlen : (zs.take len).length = len := by simp; omega
    by_cases h0 : len = 0
    · subst h0
      exact .inl ⟨⟨_, _, rfl⟩, by simp⟩
    · right
      obtain ⟨b, off, spot⟩ := x
      have hc0 := hcell 0 (by omega)
      have hspot : spot = none := by simpa [Addr.add] using World.cell?_spot hc0
      subst hspot
      refine ⟨b, off, cap, by rw [hlen], by omega, by omega, fun i hi => ?_⟩
      have hi2 : i < zs.length := by rw [hlen] at hi; omega
      have h1 := hcell i hi2
      rw [Addr.add_lit] at h1
      rw [h1]
      have : zs.getD i 0 = zs[i] := by simp [List.getD, hi2]
      rw [this]
      simp
theorem IntB.low {w : World} {v : Value} {K : List Int} (h : IntB w v K) : ∀ k, v.ownBlock = some k → K ≠ [] → k < w.heap.size := by
  intro k hk hne
  rcases h with ⟨_, e⟩ | ⟨b, off, cap, rfl, h1, h2, h3⟩
  · exact absurd e hne
  · have h0 := h3 0 (by cases K with | nil => exact absurd rfl hne | cons => simp)
    have := World.block_lt_of_cell? w _ h0
    have hb : b = k := by simpa [Value.ownBlock] using hk
    have h4 : b < w.heap.size := this
    omega
end Go.Proofs.Ytmkedanlpapndaa
