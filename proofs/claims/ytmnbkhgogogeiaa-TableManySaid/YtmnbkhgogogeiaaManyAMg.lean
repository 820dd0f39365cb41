/-
  TableMany: the changes that are handed in, as the law lays them.
-/
import Derived.Test.YtmnbkhgogogeiaaToldMg
import Derived.Test.YtmnbkhgogogeiaaDoneMg
import Derived.Test.YtmnbkhgogogeiaaMg41
import Derived.Test.YtmnbkhgogogeiaaMg33
namespace Go.Proofs.Ytmnbkhgogogeiaa
set_option linter.unusedVariables false
open Go.RowKit

abbrev ff : List Nat := [71, 71, 71]
theorem OwnF.mono {w : World} {B C : Nat} {v : Value} {l more : List Nat} (h : OwnF w B v l more) (hc : C ≤ B) : OwnF w C v l more := by
  obtain ⟨g, rfl, ho, hB, hg, hm⟩ := h
  exact ⟨g, rfl, owns_mono ho hc, by omega, hg, hm⟩
theorem OwnF.lt' {w w' : World} {B : Nat} {v : Value} {l more : List Nat} (h : OwnF w B v l more) (hq : LT w w') : OwnF w' B v l more := by
  obtain ⟨g, rfl, ho, hB, hg, hm⟩ := h
  exact ⟨g, rfl, ho.lt hq, hB, Nat.lt_of_lt_of_le hg hq.size, hm⟩
theorem OwnF.shape {w : World} {B : Nat} {v : Value} {l more : List Nat} (h : OwnF w B v l more) : ∃ g, v = .slice (some ⟨g, 0, none⟩) l.length (l.length + more.length) := by
  obtain ⟨g, rfl, -⟩ := h
  exact ⟨g, rfl⟩
structure InF (w : World) (B : Nat) (v : Value) (K : List Ch) : Prop where
  row : w.ownsRow B 35 3 v K.length (chC K)
  own : ∀ x ∈ K, OwnF w B x.kv x.key ff ∧ OwnF w B x.vv x.val ff ∧ (∀ n ∈ x.key, n < 256) ∧ ∀ n ∈ x.val, n < 256
theorem InF.below {w w' : World} {B : Nat} {v : Value} {K : List Ch} (h : InF w B v K) (hb : Below w.heap.size w w') : InF w' B v K :=
  ⟨ownsRow_below h.row hb, fun x hx => ⟨(h.own x hx).1.below hb, (h.own x hx).2.1.below hb, (h.own x hx).2.2⟩⟩
theorem InF.lt {w w' : World} {B : Nat} {v : Value} {K : List Ch} (h : InF w B v K) (hq : LT w w') : InF w' B v K :=
  ⟨ownsRow_lt h.row hq (by decide) (by decide) (by decide) (by decide) (by decide) (by decide) (by decide), fun x hx => ⟨(h.own x hx).1.lt' hq, (h.own x hx).2.1.lt' hq, (h.own x hx).2.2⟩⟩
theorem InF.at {w : World} {B : Nat} {v : Value} {K : List Ch} (h : InF w B v K) (i : Nat) (hi : i < K.length) :
    ∃ g cap, v = .slice (some ⟨g, 0, none⟩) K.length cap ∧ K.length ≤ cap ∧ cap ≤ maxLen ∧ w.cell? ⟨g, i * 3, none⟩ = some K[i].kv ∧ w.cell? ⟨g, i * 3 + 1, none⟩ = some K[i].vv ∧ w.cell? ⟨g, i * 3 + 2, none⟩ = some (.bool K[i].drop) := by
  rcases h.row.2 with ⟨e, h1⟩ | ⟨g, cap, cur, e, hb, hh, hc, hmx, hs, ht⟩
  · omega
  · obtain ⟨g1, g2, g3⟩ := chC_get K i hi
    have hat : ∀ j v, j < K.length * 3 → (chC K)[j]? = some v → w.cell? ⟨g, j, none⟩ = some v := by
      intro j v hj hv
      rw [cell_of_row _ _ _ _ 35 (0, 0) hh]
      have : cur.toList[j]? = some v := by
        rw [← ht, List.getElem?_take_of_lt hj] at hv
        exact hv
      simpa using this
    exact ⟨g, cap, e, hc, hmx, hat _ _ (by omega) g1, hat _ _ (by omega) g2, hat _ _ (by omega) g3⟩
theorem InF.chgV {w : World} {B : Nat} {v : Value} {K : List Ch} (h : InF w B v K) : ChgV w v (K.map Ch.of) := by
  have hl : (K.map Ch.of).length = K.length := by simp
  by_cases h0 : K.length = 0
  · obtain rfl : K = [] := List.eq_nil_of_length_eq_zero h0
    obtain ⟨a, c, e⟩ := own_shape h.row
    have hc : c ≤ maxLen := by
      rcases h.row.2 with ⟨e2, _⟩ | ⟨g, cap, cur, e2, hb, hh, hc, hmx, hs, ht⟩
      · rw [e] at e2
        obtain ⟨-, -, rfl⟩ := Value.slice.inj e2
        exact Nat.zero_le _
      · rw [e] at e2
        obtain ⟨-, -, rfl⟩ := Value.slice.inj e2
        exact hmx
    exact ⟨a, c, e, Nat.zero_le _, hc, .inl rfl⟩
  · obtain ⟨g, cap, e, hc, hmx, -⟩ := h.at 0 (by omega)
    refine ⟨some ⟨g, 0, none⟩, cap, by rw [e, hl], by rw [hl]; exact hc, hmx, .inr ⟨g, 0, rfl, fun i hi => ?_⟩⟩
    rw [hl] at hi
    obtain ⟨g', cap', e', -, -, c0, c1, c2⟩ := h.at i hi
    rw [e] at e'
    obtain ⟨e1, -, -⟩ := Value.slice.inj e'
    obtain rfl : g = g' := by simpa using e1
    obtain ⟨o1, o2, o3, o4⟩ := h.own _ (List.getElem_mem hi)
    obtain ⟨g1, e3⟩ := o1.shape
    obtain ⟨g2, e4⟩ := o2.shape
    have r1 := o1.row o3
    have r2 := o2.row o4
    rw [e3] at c0 r1
    rw [e4] at c1 r2
    exact ⟨_, _, _, _, _, _, by rw [Nat.zero_add]; exact c0, by rw [Nat.zero_add]; exact c1, by rw [Nat.zero_add]; simpa [Ch.of] using c2, by simpa [Ch.of] using r1, by simpa [Ch.of] using r2⟩
theorem InF.grown {w w' : World} {B : Nat} {v o : Value} {K : List Ch} {x : Ch} (h : InF w B v K) (hx : OwnF w B x.kv x.key ff ∧ OwnF w B x.vv x.val ff ∧ (∀ n ∈ x.key, n < 256) ∧ ∀ n ∈ x.val, n < 256) (hg : w.grownBy w' v.ownBlock) {n : Nat} (hn : n = K.length) (ho : w'.ownsRow B 35 3 o (n + 1) (chC K ++ x.cells)) : InF w' B o (K ++ [x]) := by
  subst hn
  have hf : ∀ u l, OwnF w B u l ff → OwnF w' B u l ff := by
    rintro u l ⟨g, rfl, h1, h2, h3, h4⟩
    refine ⟨g, rfl, World.ownsRow.kept h1 hg (.inr fun e => ?_), h2, Nat.lt_of_lt_of_le h3 hg.size, h4⟩
    rcases h.row.2 with ⟨e2, _⟩ | ⟨g2, cap, cur, e2, hb, hh, hc, hmx, hs, ht⟩
    · rw [e2] at e; cases e
    · rw [e2] at e
      obtain rfl : g = g2 := by simpa [Value.ownBlock] using e
      exact ownsRow_ne h1 hh (by decide) g rfl rfl
  refine ⟨by simpa [chC] using ho, fun y hy => ?_⟩
  rcases List.mem_append.1 hy with hy | hy
  · obtain ⟨o1, o2, o3⟩ := h.own y hy
    exact ⟨hf _ _ o1, hf _ _ o2, o3⟩
  · obtain rfl := List.mem_singleton.1 hy
    exact ⟨hf _ _ hx.1, hf _ _ hx.2.1, hx.2.2⟩

/-- no key and no value is long -/
abbrev SizP (P : List KV) : Prop := ∀ x ∈ P, x.1.length ≤ 100000 ∧ x.2.length ≤ 100000
theorem doneP_siz (l : List Chg) {M : List KV} (h : SizP M) (hl : ∀ c ∈ l, c.key.length ≤ 100000 ∧ c.val.length ≤ 100000) : SizP (doneP M l) := by
  induction l generalizing M with
  | nil => exact h
  | cons c l ih =>
    refine ih (fun x hx => ?_) fun d hd => hl d (by simp [hd])
    have hc := hl c (by simp)
    unfold putP at hx
    split at hx
    · split at hx
      · rcases List.mem_append.1 hx with hx | hx
        · exact h x (List.mem_of_mem_take hx)
        · exact h x (List.mem_of_mem_drop hx)
      · rcases List.mem_or_eq_of_mem_set hx with hx | rfl
        · exact h x hx
        · exact hc
    · split at hx
      · exact h x hx
      · rcases List.mem_append.1 hx with hx | hx
        · exact h x (List.mem_of_mem_take hx)
        · rcases List.mem_cons.1 hx with rfl | hx
          · exact hc
          · exact h x (List.mem_of_mem_drop hx)
theorem told_tb {B : Nat} {w0 w : World} {pt pl pd : Nat} {kv : Value} {ring u sec : Nat} {P : List KV} (h : Tb B w0 w pt pl pd kv ring u sec P) {Bm : Nat} {vm : Value} (hm : RowS w Bm vm P) (hP : P.length ≤ 10000) (hs : SizP P) :
    Calls Try.prog 16 #[.pointer (some ⟨pt, 0, none⟩), vm, .slice none 0 0, .slice none 0 0] w fun e w' => e = .returned (.bool true) ∧ Below w.heap.size w w' := by
  obtain ⟨-, ⟨cost, pv, L, ht, -, hr, rfl⟩, -, -⟩ := h
  exact told_any ht hr hm (by simpa using hP) fun x hx => hs _ (List.mem_map_of_mem (f := Pr.of) hx)
/-- which place has a key -/
theorem find_at {P : List KV} (hs : SortP P) (key : List Nat) : ∃ idx, idx ≤ P.length ∧ (∀ i (h : i < P.length), i < idx → P[i].1 ≠ key) ∧ (∀ h : idx < P.length, P[idx].1 = key) ∧ (idx < P.length → scanL P key = idx) := by
  by_cases hz : P[scanL P key]?.map (·.1) = some key
  · obtain ⟨hl, he⟩ := there_lt hz
    refine ⟨scanL P key, scanL_le _ _, fun i h hi e => ?_, fun h => he, fun _ => rfl⟩
    have := scanL_before P key i h hi
    rw [e, cmpL_same] at this
    omega
  · refine ⟨P.length, Nat.le_refl _, fun i h hi e => hz ?_, fun h => absurd h (Nat.lt_irrefl _), fun h => absurd h (Nat.lt_irrefl _)⟩
    have h1 := hs.scan key i h
    rw [e, cmpL_same] at h1
    have h2 : scanL P key ≤ i := of_decide_eq_true (by rw [← h1]; rfl)
    have h3 : ¬ scanL P key < i := fun h3 => by
      have h4 : cmpL P[scanL P key].1 P[i].1 < 0 := List.pairwise_iff_getElem.1 hs _ _ _ _ h3
      rw [e] at h4
      exact scanL_at P key (by omega) h4
    obtain rfl : scanL P key = i := by omega
    rw [List.getElem?_eq_getElem h, Option.map_some, e]
theorem get_idx {B : Nat} {w0 w : World} {pt pl pd : Nat} {kv : Value} {ring u sec : Nat} {P : List KV} (h : Tb B w0 w pt pl pd kv ring u sec P) {vk : Value} {key : List Nat} (hk : RowB w vk key) (hP : P.length ≤ 10000) (hS : SortP P) (hs : SizP P) {idx : Nat} (h1 : idx ≤ P.length) (h2 : ∀ i (h : i < P.length), i < idx → P[i].1 ≠ key) (h3 : ∀ h : idx < P.length, P[idx].1 = key) (h4 : idx < P.length → scanL P key = idx) :
    Calls Try.prog 17 #[.pointer (some ⟨pt, 0, none⟩), vk] w fun e w' => ∃ oa oc val, e = .returned (.tuple #[.slice oa val.length oc, .bool (decide (idx < P.length))]) ∧ OwnB w' w.heap.size (.slice oa val.length oc) val ∧ val.length ≤ 1000000 ∧ (∀ n ∈ val, n < 256) ∧ (∀ h : idx < P.length, val = P[idx].2) ∧ (¬ idx < P.length → val = []) ∧ Below w.heap.size w w' := by
  have hab : AllB P := by
    obtain ⟨-, ⟨cost, pv, L, ht, -, hr, rfl⟩, -, -⟩ := id h
    exact hr.all
  by_cases hi : idx < P.length
  · refine (get_yes h hk hP idx (val := P[idx].2) (by rw [List.getElem?_eq_getElem hi, ← h3 hi]) (fun i hl => by rw [hS.scan key i hl, h4 hi]) (Nat.le_trans (hs _ (List.getElem_mem hi)).2 (by decide))).mono ?_
    rintro e w' ⟨o, rfl, ho, hb⟩
    obtain ⟨oa, oc, rfl⟩ := ho.shape
    exact ⟨oa, oc, _, by rw [decide_eq_true hi], ho, Nat.le_trans (hs _ (List.getElem_mem hi)).2 (by decide), (hab _ (List.getElem_mem hi)).2, fun _ => rfl, fun h => absurd hi h, hb⟩
  · have hz : ¬ P[scanL P key]?.map (·.1) = some key := fun hz => by
      obtain ⟨hl, he⟩ := there_lt hz
      exact h2 _ hl (by omega) he
    refine (get_no h hk hP (scanL P key) (scanL_le _ _) (fun i hl => hS.scan key i hl) (decide_eq_false hz)).mono ?_
    rintro e w' ⟨rfl, hb⟩
    exact ⟨none, 0, [], by rw [decide_eq_false hi]; rfl, World.ownsRow_nil _ _ _ _, by decide, by simp, fun h => absurd h hi, fun _ => rfl, hb⟩
end Go.Proofs.Ytmnbkhgogogeiaa
