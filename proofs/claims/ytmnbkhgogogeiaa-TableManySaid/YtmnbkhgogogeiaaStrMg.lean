/-
  The law's own rows of pairs of texts.
-/
import Derived.Test.YtmnbkhgogogeiaaMg24
import Derived.Test.YtmnbkhgogogeiaaMg25
namespace Go.Proofs.Ytmnbkhgogogeiaa
set_option linter.unusedVariables false
open Go.RowKit

theorem Try.info45 : (Try.prog.info? 45).map (fun i => (i.zero, i.size, i.bytes)) = some (some (.agg #[.string ⟨#[]⟩, .string ⟨#[]⟩]), 2, 32) := by kernel_rfl
def stC (M : List KV) : List Value := M.flatMap fun x => [.string (strN x.1), .string (strN x.2)]
theorem stC_cons (x : KV) (M : List KV) : stC (x :: M) = .string (strN x.1) :: .string (strN x.2) :: stC M := by simp [stC]
theorem stC_append (L M : List KV) : stC (L ++ M) = stC L ++ stC M := by simp [stC]
theorem stC_length (M : List KV) : (stC M).length = M.length * 2 := by
  induction M with
  | nil => rfl
  | cons x r ih => rw [stC_cons, List.length_cons, List.length_cons, ih, List.length_cons]; omega
theorem stC_take (L : List KV) (i : Nat) : (stC L).take (i * 2) = stC (L.take i) := by
  induction L generalizing i with
  | nil => simp [stC]
  | cons x r ih =>
    cases i with
    | zero => rfl
    | succ i => rw [stC_cons, show (i + 1) * 2 = i * 2 + 1 + 1 by omega, List.take_succ_cons, List.take_succ_cons, ih, List.take_succ_cons, stC_cons]
theorem stC_drop (L : List KV) (i : Nat) : (stC L).drop (i * 2) = stC (L.drop i) := by
  induction L generalizing i with
  | nil => simp [stC]
  | cons x r ih =>
    cases i with
    | zero => rfl
    | succ i => rw [stC_cons, show (i + 1) * 2 = i * 2 + 1 + 1 by omega, List.drop_succ_cons, List.drop_succ_cons, ih, List.drop_succ_cons]
theorem stC_get (M : List KV) (i : Nat) (h : i < M.length) : (stC M)[i * 2]? = some (.string (strN M[i].1)) ∧ (stC M)[i * 2 + 1]? = some (.string (strN M[i].2)) := by
  induction M generalizing i with
  | nil => simp at h
  | cons x r ih =>
    cases i with
    | zero => rw [stC_cons]; exact ⟨rfl, rfl⟩
    | succ i =>
      have := ih i (by simpa using h)
      rw [stC_cons, show (i + 1) * 2 = i * 2 + 1 + 1 by omega]
      simpa using this
theorem stC_one (M : List KV) : ∀ u ∈ stC M, u.oneCell' = true := by
  intro u hu
  obtain ⟨x, hx, h2⟩ := List.mem_flatMap.1 hu
  simp at h2
  rcases h2 with rfl | rfl <;> rfl
theorem stC_set (L : List KV) (i : Nat) (x : KV) (h : i < L.length) (hk : x.1 = L[i].1) : stC (L.set i x) = (stC L).set (i * 2 + 1) (.string (strN x.2)) := by
  induction L generalizing i with
  | nil => simp at h
  | cons y r ih =>
    cases i with
    | zero =>
      simp only [List.getElem_cons_zero] at hk
      rw [List.set_cons_zero, stC_cons, stC_cons, hk]
      rfl
    | succ i =>
      simp only [List.getElem_cons_succ] at hk
      rw [List.set_cons_succ, stC_cons, stC_cons, ih i (by simpa using h) hk, show (i + 1) * 2 + 1 = i * 2 + 1 + 1 + 1 by omega, List.set_cons_succ, List.set_cons_succ]
abbrev AllB (M : List KV) : Prop := ∀ x ∈ M, (∀ n ∈ x.1, n < 256) ∧ ∀ n ∈ x.2, n < 256

/-- a row of them; its block may hold more than its room -/
def RowS (w : World) (B : Nat) (v : Value) (M : List KV) : Prop :=
  (v = .slice none 0 0 ∧ M = []) ∨ ∃ g cap cur, v = .slice (some ⟨g, 0, none⟩) M.length cap ∧ B ≤ g ∧ w.heap[g]? = some (.cells cur 45 (0, 0)) ∧ M.length ≤ cap ∧ cap ≤ maxLen ∧ cap * 2 ≤ cur.size ∧ cur.toList.take (M.length * 2) = stC M
theorem RowS.shape {w : World} {B : Nat} {v : Value} {M : List KV} (h : RowS w B v M) : ∃ a cap, v = .slice a M.length cap ∧ M.length ≤ cap := by
  rcases h with ⟨rfl, rfl⟩ | ⟨g, cap, cur, rfl, -, -, h, -⟩
  · exact ⟨none, 0, rfl, Nat.le_refl _⟩
  · exact ⟨_, cap, rfl, h⟩
theorem RowS.mono {w : World} {B C : Nat} {v : Value} {M : List KV} (h : RowS w B v M) (hc : C ≤ B) : RowS w C v M := by
  rcases h with h | ⟨g, cap, cur, e, h1, r⟩
  · exact .inl h
  · exact .inr ⟨g, cap, cur, e, Nat.le_trans hc h1, r⟩
theorem RowS.below {w w' : World} {B : Nat} {v : Value} {M : List KV} (h : RowS w B v M) (hb : Below w.heap.size w w') : RowS w' B v M := by
  rcases h with h | ⟨g, cap, cur, e, h1, hh, r⟩
  · exact .inl h
  · exact .inr ⟨g, cap, cur, e, h1, (hb.block g (lt_of_block hh)).trans hh, r⟩
theorem RowS.lt' {w w' : World} {B : Nat} {v : Value} {M : List KV} (h : RowS w B v M) (hq : LT w w') : RowS w' B v M := by
  rcases h with h | ⟨g, cap, cur, e, h1, hh, r⟩
  · exact .inl h
  · exact .inr ⟨g, cap, cur, e, h1, hq.keep g _ _ _ hh (by decide) (by decide) (by decide) (by decide) (by decide) (by decide) (by decide), r⟩
theorem RowS.cells {w : World} {B : Nat} {v : Value} {M : List KV} (h : RowS w B v M) (hM : 0 < M.length) :
    ∃ g cap, v = .slice (some ⟨g, 0, none⟩) M.length cap ∧ M.length ≤ cap ∧ cap ≤ maxLen ∧ B ≤ g ∧ g < w.heap.size ∧ (∀ j u, (stC M)[j]? = some u → w.cell? ⟨g, j, none⟩ = some u) ∧ ∀ j, w.frozen? ⟨g, j, none⟩ = false := by
  rcases h with ⟨-, rfl⟩ | ⟨g, cap, cur, e, h1, hh, h2, h3, h4, h5⟩
  · simp at hM
  · refine ⟨g, cap, e, h2, h3, h1, lt_of_block hh, fun j u hj => ?_, fun j => by simp [World.frozen?, hh]⟩
    have hjl : j < M.length * 2 := by have := (List.getElem?_eq_some_iff.1 hj).1; rw [stC_length] at this; exact this
    rw [cell_of_row _ _ _ _ 45 (0, 0) hh]
    rw [← h5, List.getElem?_take_of_lt hjl] at hj
    simpa using hj
theorem RowS.at {w : World} {B : Nat} {v : Value} {M : List KV} (h : RowS w B v M) (i : Nat) (hi : i < M.length) :
    ∃ g cap, v = .slice (some ⟨g, 0, none⟩) M.length cap ∧ M.length ≤ cap ∧ w.cell? ⟨g, i * 2, none⟩ = some (.string (strN M[i].1)) ∧ w.cell? ⟨g, i * 2 + 1, none⟩ = some (.string (strN M[i].2)) ∧ ∀ j, w.frozen? ⟨g, j, none⟩ = false := by
  obtain ⟨g, cap, e, h1, -, -, -, hc, hf⟩ := h.cells (by omega)
  obtain ⟨g1, g2⟩ := stC_get M i hi
  exact ⟨g, cap, e, h1, hc _ _ g1, hc _ _ g2, hf⟩
theorem RowS.set {w : World} {B g n cap : Nat} {M : List KV} (h : RowS w B (.slice (some ⟨g, 0, none⟩) n cap) M) (i : Nat) (x : KV) (hi : i < M.length) (hk : x.1 = M[i].1) :
    RowS (w.setCell ⟨g, i * 2 + 1, none⟩ (.string (strN x.2))) B (.slice (some ⟨g, 0, none⟩) n cap) (M.set i x) := by
  rcases h with ⟨e, -⟩ | ⟨g2, cap2, cur, e, h1, hh, h2, h3, h4, h5⟩
  · cases e
  · obtain ⟨e1, rfl, rfl⟩ := Value.slice.inj e
    obtain rfl : g = g2 := by simpa using e1
    refine .inr ⟨g, cap, cur.setIfInBounds (i * 2 + 1) (.string (strN x.2)), by rw [List.length_set], h1, heap_setCell_same w g (i * 2 + 1) cur 45 _ hh, by rw [List.length_set]; exact h2, h3, by simpa using h4, ?_⟩
    rw [stC_set M i x hi hk, ← h5, List.length_set, Array.toList_setIfInBounds, List.take_set]
/-- a copy of the first few -/
theorem RowS.cut {w : World} {B n cap : Nat} {a : Option Addr} {M : List KV} (h : RowS w B (.slice a n cap) M) (i : Nat) (hi : i ≤ M.length) (hc : i = 0 → a ≠ none → 0 ≤ cap) : RowS w B (.slice a i i) (M.take i) := by
  rcases h with ⟨e, rfl⟩ | ⟨g, cap2, cur, e, h1, hh, h2, h3, h4, h5⟩
  · obtain ⟨rfl, -, -⟩ := Value.slice.inj e
    obtain rfl : i = 0 := by simpa using hi
    exact .inl ⟨rfl, rfl⟩
  · obtain ⟨rfl, -, rfl⟩ := Value.slice.inj e
    have hl : (M.take i).length = i := by rw [List.length_take]; omega
    refine .inr ⟨g, i, cur, by rw [hl], h1, hh, by omega, by omega, by omega, ?_⟩
    rw [hl, ← stC_take, ← h5, List.take_take, Nat.min_eq_left (by omega)]

/-- append onto a row that is full -/
theorem run_appS {w : World} {B : Nat} (ty : TypeId) {b0 : Option Addr} {i : Nat} {O N : List KV} (hO : RowS w B (.slice b0 i i) O) {a : Option Addr} {m c : Nat} (hm : N.length = m) (hN : m ≠ 0 → ∃ ad, a = some ad ∧ ∀ j u, (stC N)[j]? = some u → w.cell? (ad.add j) = some u) (hb : i + m ≤ 100000) (hB : B ≤ w.heap.size) :
    ∃ g cap' w', (Builtin.append_ #[38, 38] ty #[.slice b0 i i, .slice a m c]).run Try.prog w = .ok (.slice g (i + m) cap') w' ∧ RowS w' B (.slice g (i + m) cap') (O ++ N) ∧ Below w.heap.size w w' ∧ i + m ≤ cap' := by
  obtain ⟨i0, hi0, hz0, hz1, hz2⟩ := info_parts Try.info45
  have hOl : O.length = i := by
    obtain ⟨_, _, e, _⟩ := hO.shape
    obtain ⟨-, e, -⟩ := Value.slice.inj e
    exact e.symm
  by_cases h0 : m = 0
  · subst h0
    have hN0 : N = [] := List.eq_nil_of_length_eq_zero hm
    subst hN0
    refine ⟨b0, i, w, ?_, by rw [List.append_nil]; exact hO, Below.refl _ _, Nat.le_refl _⟩
    cases b0 <;> cases a <;> simp [Builtin.append_, run_underlying Try.underlying38, sizeOf, typeInfo, hi0, Builtin.lenOf, Builtin.firstCells, loadCells, loadCellsFrom, storeCells]
  · obtain ⟨ad, rfl, hc⟩ := hN h0
    have hlN : (stC N).length = m * i0.size := by rw [stC_length, hm, hz1]
    have hsrc : Src Try.prog i0.size 38 (.slice (some ad) m c) m (stC N) w := Src.ofSlice w Try.underlying38 ad m c (stC N) hlN hc (stC_one N)
    have hold : (Builtin.firstCells i0.size i (.slice b0 i i)).run Try.prog w.drew = .ok (stC O).toArray w.drew := by
      rcases hO with ⟨e, rfl⟩ | ⟨g, cap, cur, e, -, hh, h2, -, h4, h5⟩
      · obtain ⟨rfl, rfl, -⟩ := Value.slice.inj e
        exact run_firstCells_none w.drew i0.size 0 0 0
      · obtain ⟨rfl, -, rfl⟩ := Value.slice.inj e
        refine run_firstCells_some w.drew i0.size i ⟨g, 0, none⟩ i i (stC O) (by rw [stC_length, hz1, hOl]) (fun j v hj => ?_)
        have hjl : j < O.length * 2 := by have := (List.getElem?_eq_some_iff.1 hj).1; rw [stC_length] at this; exact this
        rw [Addr.add_lit, Nat.zero_add]
        show w.cell? _ = _
        rw [cell_of_row _ _ _ _ 45 (0, 0) hh]
        rw [← h5, List.getElem?_take_of_lt hjl] at hj
        simpa using hj
    have hcm : grownCap w (i + m) i 45 ≤ maxLen := grownCap_le_maxLen w (i + m) i 45 (by unfold maxLen; omega)
    refine ⟨_, _, _, run_append_grow_src w 38 38 ty 45 i0 _ Try.underlying38 hi0 hz0 b0 i i (stC O) hold _ m (stC N) hsrc (by omega) (by omega) (by rw [hz2]; exact growslice_fits (by omega) (by omega)), ?_, (Below.refl _ _).drew.alloc (Nat.le_refl _) _, grownCap_ge w (i + m) i 45⟩
    have hlen : (O ++ N).length = i + m := by rw [List.length_append, hOl, hm]
    refine .inr ⟨w.heap.size, _, _, by rw [hlen], hB, heap_alloc_new w.drew _, by rw [hlen]; exact grownCap_ge w (i + m) i 45, hcm, ?_, ?_⟩
    · have := grownCap_ge w (i + m) i 45
      have hz : (Value.agg #[.string ⟨#[]⟩, .string ⟨#[]⟩]).cells.size = 2 := rfl
      simp only [Array.size_append, List.size_toArray, List.length_append, size_zeroCells, hz, stC_length, hOl, hm]
      omega
    · rw [hlen, ← stC_append, Array.toList_append, List.toList_toArray, List.take_left' (by rw [stC_length, hlen])]

theorem bytesLess_strN (la lb : List Nat) (ha : ∀ n ∈ la, n < 256) (hb : ∀ n ∈ lb, n < 256) : Op.bytesLess (strN la).toList (strN lb).toList = decide (cmpL la lb < 0) := by
  rw [strN_toList, strN_toList]
  induction la generalizing lb with
  | nil => cases lb <;> rfl
  | cons a la ih =>
    cases lb with
    | nil => rfl
    | cons b lb =>
      have h1 := ha a (by simp)
      have h2 := hb b (by simp)
      have e1 : (UInt8.ofNat a < UInt8.ofNat b) = (a < b) := by
        simp only [UInt8.lt_iff_toNat_lt, UInt8.toNat_ofNat']
        rw [Nat.mod_eq_of_lt h1, Nat.mod_eq_of_lt h2]
      have e2 : (UInt8.ofNat a == UInt8.ofNat b) = decide (a = b) := by
        rw [Bool.eq_iff_iff, beq_iff_eq, decide_eq_true_eq]
        constructor
        · intro h
          have := congrArg UInt8.toNat h
          simp only [UInt8.toNat_ofNat'] at this
          rwa [Nat.mod_eq_of_lt h1, Nat.mod_eq_of_lt h2] at this
        · rintro rfl; rfl
      simp only [List.map_cons, Op.bytesLess]
      rw [ih lb (fun n hn => ha n (by simp [hn])) (fun n hn => hb n (by simp [hn])), e2]
      simp only [e1]
      by_cases c1 : a < b
      · have hx : cmpL (a :: la) (b :: lb) = -1 := by rw [cmpL, if_pos c1]
        simp [c1, hx]
      · by_cases c2 : b < a
        · have hx : cmpL (a :: la) (b :: lb) = 1 := by rw [cmpL, if_neg c1, if_pos c2]
          have c3 : ¬ a = b := by omega
          simp [c1, c3, hx]
        · have hx : cmpL (a :: la) (b :: lb) = cmpL la lb := by rw [cmpL, if_neg c1, if_neg c2]
          have c3 : a = b := by omega
          simp only [hx, decide_eq_true c3, decide_eq_false c1, Bool.true_and, Bool.false_or]
theorem beq_strN (la lb : List Nat) (ha : ∀ n ∈ la, n < 256) (hb : ∀ n ∈ lb, n < 256) : ((strN la).toList == (strN lb).toList) = decide (la = lb) := by
  rw [strN_toList, strN_toList, Bool.eq_iff_iff, beq_iff_eq, decide_eq_true_eq]
  exact ⟨strN_inj ha hb, fun h => by rw [h]⟩
end Go.Proofs.Ytmnbkhgogogeiaa
