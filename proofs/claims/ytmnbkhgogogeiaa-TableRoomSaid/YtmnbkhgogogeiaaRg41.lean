/-
  Several texts of one proof, each in a section of its own: ManyA, RmP.
-/
import Derived.Test.YtmnbkhgogogeiaaToldRg
import Derived.Test.YtmnbkhgogogeiaaRg40
import Derived.Test.YtmnbkhgogogeiaaRg23
import Derived.Test.YtmnbkhgogogeiaaRg31
namespace Go.Proofs.Ytmnbkhgogogeiaa
section
set_option linter.unusedVariables false
open Go.RowKit

abbrev ff : List Nat := [71, 71, 71]
theorem OwnF.mono {w : World} {B C : Nat} {v : Value} {l more : List Nat} (h : OwnF w B v l more) (hc : C ≤ B) : OwnF w C v l more := by
  obtain ⟨g, rfl, ho, hB, hg, hm⟩ := h
  exact ⟨g, rfl, owns_mono ho hc, by omega, hg, hm⟩
theorem OwnF.lt' {w w' : World} {B : Nat} {v : Value} {l more : List Nat} (h : OwnF w B v l more) (hq : LT w w') : OwnF w' B v l more := by
  obtain ⟨g, rfl, ho, hB, hg, hm⟩ := h
  exact ⟨g, rfl, ho.lt hq, hB, Nat.lt_of_lt_of_le hg hq.size, hm⟩
theorem OwnF.shape {w : World} {B : Nat} {v : Value} {l more : List Nat} (h : OwnF w B v l more) : ∃ g, v = .slice (some ⟨g, 0, none⟩) l.length (l.length + more.length) := by
  obtain ⟨g, rfl, -⟩ := h
  exact ⟨g, rfl⟩
structure InF (w : World) (B : Nat) (v : Value) (K : List Ch) : Prop where
  row : w.ownsRow B 35 3 v K.length (chC K)
  own : ∀ x ∈ K, OwnF w B x.kv x.key ff ∧ OwnF w B x.vv x.val ff ∧ (∀ n ∈ x.key, n < 256) ∧ ∀ n ∈ x.val, n < 256
theorem InF.below {w w' : World} {B : Nat} {v : Value} {K : List Ch} (h : InF w B v K) (hb : Below w.heap.size w w') : InF w' B v K :=
  ⟨ownsRow_below h.row hb, fun x hx => ⟨(h.own x hx).1.below hb, (h.own x hx).2.1.below hb, (h.own x hx).2.2⟩⟩
theorem InF.lt {w w' : World} {B : Nat} {v : Value} {K : List Ch} (h : InF w B v K) (hq : LT w w') : InF w' B v K :=
  ⟨ownsRow_lt h.row hq (by decide) (by decide) (by decide) (by decide) (by decide) (by decide) (by decide), fun x hx => ⟨(h.own x hx).1.lt' hq, (h.own x hx).2.1.lt' hq, (h.own x hx).2.2⟩⟩
theorem InF.at {w : World} {B : Nat} {v : Value} {K : List Ch} (h : InF w B v K) (i : Nat) (hi : i < K.length) :
    ∃ g cap, v = .slice (some ⟨g, 0, none⟩) K.length cap ∧ K.length ≤ cap ∧ cap ≤ maxLen ∧ w.cell? ⟨g, i * 3, none⟩ = some K[i].kv ∧ w.cell? ⟨g, i * 3 + 1, none⟩ = some K[i].vv ∧ w.cell? ⟨g, i * 3 + 2, none⟩ = some (.bool K[i].drop) := by
  rcases h.row.2 with ⟨e, h1⟩ | ⟨g, cap, cur, e, hb, hh, hc, hmx, hs, ht⟩
  · omega
  · obtain ⟨g1, g2, g3⟩ := chC_get K i hi
    have hat : ∀ j v, j < K.length * 3 → (chC K)[j]? = some v → w.cell? ⟨g, j, none⟩ = some v := by
      intro j v hj hv
      rw [cell_of_row _ _ _ _ 35 (0, 0) hh]
      have : cur.toList[j]? = some v := by
        rw [← ht, List.getElem?_take_of_lt hj] at hv
        exact hv
      simpa using this
    exact ⟨g, cap, e, hc, hmx, hat _ _ (by omega) g1, hat _ _ (by omega) g2, hat _ _ (by omega) g3⟩
theorem InF.chgV {w : World} {B : Nat} {v : Value} {K : List Ch} (h : InF w B v K) : ChgV w v (K.map Ch.of) := by
  have hl : (K.map Ch.of).length = K.length := by simp
  by_cases h0 : K.length = 0
  · obtain rfl : K = [] := List.eq_nil_of_length_eq_zero h0
    obtain ⟨a, c, e⟩ := own_shape h.row
    have hc : c ≤ maxLen := by
      rcases h.row.2 with ⟨e2, _⟩ | ⟨g, cap, cur, e2, hb, hh, hc, hmx, hs, ht⟩
      · rw [e] at e2
        obtain ⟨-, -, rfl⟩ := Value.slice.inj e2
        exact Nat.zero_le _
      · rw [e] at e2
        obtain ⟨-, -, rfl⟩ := Value.slice.inj e2
        exact hmx
    exact ⟨a, c, e, Nat.zero_le _, hc, .inl rfl⟩
  · obtain ⟨g, cap, e, hc, hmx, -⟩ := h.at 0 (by omega)
    refine ⟨some ⟨g, 0, none⟩, cap, by rw [e, hl], by rw [hl]; exact hc, hmx, .inr ⟨g, 0, rfl, fun i hi => ?_⟩⟩
    rw [hl] at hi
    obtain ⟨g', cap', e', -, -, c0, c1, c2⟩ := h.at i hi
    rw [e] at e'
    obtain ⟨e1, -, -⟩ := Value.slice.inj e'
    obtain rfl : g = g' := by simpa using e1
    obtain ⟨o1, o2, o3, o4⟩ := h.own _ (List.getElem_mem hi)
    obtain ⟨g1, e3⟩ := o1.shape
    obtain ⟨g2, e4⟩ := o2.shape
    have r1 := o1.row o3
    have r2 := o2.row o4
    rw [e3] at c0 r1
    rw [e4] at c1 r2
    exact ⟨_, _, _, _, _, _, by rw [Nat.zero_add]; exact c0, by rw [Nat.zero_add]; exact c1, by rw [Nat.zero_add]; simpa [Ch.of] using c2, by simpa [Ch.of] using r1, by simpa [Ch.of] using r2⟩
theorem InF.grown {w w' : World} {B : Nat} {v o : Value} {K : List Ch} {x : Ch} (h : InF w B v K) (hx : OwnF w B x.kv x.key ff ∧ OwnF w B x.vv x.val ff ∧ (∀ n ∈ x.key, n < 256) ∧ ∀ n ∈ x.val, n < 256) (hg : w.grownBy w' v.ownBlock) {n : Nat} (hn : n = K.length) (ho : w'.ownsRow B 35 3 o (n + 1) (chC K ++ x.cells)) : InF w' B o (K ++ [x]) := by
  subst hn
  have hf : ∀ u l, OwnF w B u l ff → OwnF w' B u l ff := by
    rintro u l ⟨g, rfl, h1, h2, h3, h4⟩
    refine ⟨g, rfl, World.ownsRow.kept h1 hg (.inr fun e => ?_), h2, Nat.lt_of_lt_of_le h3 hg.size, h4⟩
    rcases h.row.2 with ⟨e2, _⟩ | ⟨g2, cap, cur, e2, hb, hh, hc, hmx, hs, ht⟩
    · rw [e2] at e; cases e
    · rw [e2] at e
      obtain rfl : g = g2 := by simpa [Value.ownBlock] using e
      exact ownsRow_ne h1 hh (by decide) g rfl rfl
  refine ⟨by simpa [chC] using ho, fun y hy => ?_⟩
  rcases List.mem_append.1 hy with hy | hy
  · obtain ⟨o1, o2, o3⟩ := h.own y hy
    exact ⟨hf _ _ o1, hf _ _ o2, o3⟩
  · obtain rfl := List.mem_singleton.1 hy
    exact ⟨hf _ _ hx.1, hf _ _ hx.2.1, hx.2.2⟩

/-- no key and no value is long -/
abbrev SizP (P : List KV) : Prop := ∀ x ∈ P, x.1.length ≤ 100000 ∧ x.2.length ≤ 100000
theorem doneP_siz (l : List Chg) {M : List KV} (h : SizP M) (hl : ∀ c ∈ l, c.key.length ≤ 100000 ∧ c.val.length ≤ 100000) : SizP (doneP M l) := by
  induction l generalizing M with
  | nil => exact h
  | cons c l ih =>
    refine ih (fun x hx => ?_) fun d hd => hl d (by simp [hd])
    have hc := hl c (by simp)
    unfold putP at hx
    split at hx
    · split at hx
      · rcases List.mem_append.1 hx with hx | hx
        · exact h x (List.mem_of_mem_take hx)
        · exact h x (List.mem_of_mem_drop hx)
      · rcases List.mem_or_eq_of_mem_set hx with hx | rfl
        · exact h x hx
        · exact hc
    · split at hx
      · exact h x hx
      · rcases List.mem_append.1 hx with hx | hx
        · exact h x (List.mem_of_mem_take hx)
        · rcases List.mem_cons.1 hx with rfl | hx
          · exact hc
          · exact h x (List.mem_of_mem_drop hx)
theorem told_tb {B : Nat} {w0 w : World} {pt pl pd : Nat} {kv : Value} {ring u sec : Nat} {P : List KV} (h : Tb B w0 w pt pl pd kv ring u sec P) {Bm : Nat} {vm : Value} (hm : RowS w Bm vm P) (hP : P.length ≤ 10000) (hs : SizP P) :
    Calls Try.prog 16 #[.pointer (some ⟨pt, 0, none⟩), vm, .slice none 0 0, .slice none 0 0] w fun e w' => e = .returned (.bool true) ∧ Below w.heap.size w w' := by
  obtain ⟨-, ⟨cost, pv, L, ht, -, hr, rfl⟩, -, -⟩ := h
  exact told_any ht hr hm (by simpa using hP) fun x hx => hs _ (List.mem_map_of_mem (f := Pr.of) hx)
/-- which place has a key -/
theorem find_at {P : List KV} (hs : SortP P) (key : List Nat) : ∃ idx, idx ≤ P.length ∧ (∀ i (h : i < P.length), i < idx → P[i].1 ≠ key) ∧ (∀ h : idx < P.length, P[idx].1 = key) ∧ (idx < P.length → scanL P key = idx) := by
  by_cases hz : P[scanL P key]?.map (·.1) = some key
  · obtain ⟨hl, he⟩ := there_lt hz
    refine ⟨scanL P key, scanL_le _ _, fun i h hi e => ?_, fun h => he, fun _ => rfl⟩
    have := scanL_before P key i h hi
    rw [e, cmpL_same] at this
    omega
  · refine ⟨P.length, Nat.le_refl _, fun i h hi e => hz ?_, fun h => absurd h (Nat.lt_irrefl _), fun h => absurd h (Nat.lt_irrefl _)⟩
    have h1 := hs.scan key i h
    rw [e, cmpL_same] at h1
    have h2 : scanL P key ≤ i := of_decide_eq_true (by rw [← h1]; rfl)
    have h3 : ¬ scanL P key < i := fun h3 => by
      have h4 : cmpL P[scanL P key].1 P[i].1 < 0 := List.pairwise_iff_getElem.1 hs _ _ _ _ h3
      rw [e] at h4
      exact scanL_at P key (by omega) h4
    obtain rfl : scanL P key = i := by omega
    rw [List.getElem?_eq_getElem h, Option.map_some, e]
theorem get_idx {B : Nat} {w0 w : World} {pt pl pd : Nat} {kv : Value} {ring u sec : Nat} {P : List KV} (h : Tb B w0 w pt pl pd kv ring u sec P) {vk : Value} {key : List Nat} (hk : RowB w vk key) (hP : P.length ≤ 10000) (hS : SortP P) (hs : SizP P) {idx : Nat} (h1 : idx ≤ P.length) (h2 : ∀ i (h : i < P.length), i < idx → P[i].1 ≠ key) (h3 : ∀ h : idx < P.length, P[idx].1 = key) (h4 : idx < P.length → scanL P key = idx) :
    Calls Try.prog 17 #[.pointer (some ⟨pt, 0, none⟩), vk] w fun e w' => ∃ oa oc val, e = .returned (.tuple #[.slice oa val.length oc, .bool (decide (idx < P.length))]) ∧ OwnB w' w.heap.size (.slice oa val.length oc) val ∧ val.length ≤ 1000000 ∧ (∀ n ∈ val, n < 256) ∧ (∀ h : idx < P.length, val = P[idx].2) ∧ (¬ idx < P.length → val = []) ∧ Below w.heap.size w w' := by
  have hab : AllB P := by
    obtain ⟨-, ⟨cost, pv, L, ht, -, hr, rfl⟩, -, -⟩ := id h
    exact hr.all
  by_cases hi : idx < P.length
  · refine (get_yes h hk hP idx (val := P[idx].2) (by rw [List.getElem?_eq_getElem hi, ← h3 hi]) (fun i hl => by rw [hS.scan key i hl, h4 hi]) (Nat.le_trans (hs _ (List.getElem_mem hi)).2 (by decide))).mono ?_
    rintro e w' ⟨o, rfl, ho, hb⟩
    obtain ⟨oa, oc, rfl⟩ := ho.shape
    exact ⟨oa, oc, _, by rw [decide_eq_true hi], ho, Nat.le_trans (hs _ (List.getElem_mem hi)).2 (by decide), (hab _ (List.getElem_mem hi)).2, fun _ => rfl, fun h => absurd hi h, hb⟩
  · have hz : ¬ P[scanL P key]?.map (·.1) = some key := fun hz => by
      obtain ⟨hl, he⟩ := there_lt hz
      exact h2 _ hl (by omega) he
    refine (get_no h hk hP (scanL P key) (scanL_le _ _) (fun i hl => hS.scan key i hl) (decide_eq_false hz)).mono ?_
    rintro e w' ⟨rfl, hb⟩
    exact ⟨none, 0, [], by rw [decide_eq_false hi]; rfl, World.ownsRow_nil _ _ _ _, by decide, by simp, fun h => absurd h hi, fun _ => rfl, hb⟩
end
section
set_option linter.unusedVariables false
open Go.RowKit

theorem keys_apart {P : List KV} (hs : SortP P) (key : List Nat) :
    (∀ x ∈ P.take (scanL P key), x.1 ≠ key) ∧ (∀ x ∈ P.drop (scanL P key + 1), x.1 ≠ key) ∧ (¬ P[scanL P key]?.map (·.1) = some key → ∀ x ∈ P, x.1 ≠ key) := by
  have h1 : ∀ i (h : i < P.length), i < scanL P key → P[i].1 ≠ key := fun i h hi e => by
    have := scanL_before P key i h hi
    rw [e, cmpL_same] at this
    omega
  have h2 : ∀ i (h : i < P.length), scanL P key < i → P[i].1 ≠ key := fun i h hi e => by
    have h3 : cmpL P[scanL P key].1 P[i].1 < 0 := List.pairwise_iff_getElem.1 hs _ _ _ _ hi
    rw [e] at h3
    exact scanL_at P key (by omega) h3
  refine ⟨fun x hx => ?_, fun x hx => ?_, fun hn x hx => ?_⟩
  · obtain ⟨i, hi, rfl⟩ := List.getElem_of_mem hx
    rw [List.length_take] at hi
    rw [List.getElem_take]
    exact h1 i (by omega) (by omega)
  · obtain ⟨i, hi, rfl⟩ := List.getElem_of_mem hx
    rw [List.length_drop] at hi
    rw [List.getElem_drop]
    exact h2 _ (by omega) (by omega)
  · obtain ⟨i, hi, rfl⟩ := List.getElem_of_mem hx
    rcases Nat.lt_trichotomy i (scanL P key) with h | h | h
    · exact h1 i hi h
    · subst h
      intro e
      rw [List.getElem?_eq_getElem hi] at hn
      exact hn (by simp [e])
    · exact h2 i hi h
theorem cut_there {P : List KV} {key : List Nat} (hz : P[scanL P key]?.map (·.1) = some key) : ∃ u, P = P.take (scanL P key) ++ (key, u) :: P.drop (scanL P key + 1) := by
  obtain ⟨hl, he⟩ := there_lt hz
  refine ⟨P[scanL P key].2, ?_⟩
  have : (key, P[scanL P key].2) = P[scanL P key] := Prod.ext he.symm rfl
  rw [this, ← List.drop_eq_getElem_cons hl, List.take_append_drop]
theorem mem_put {P : List KV} (hs : SortP P) (c : Chg) (x : KV) : x ∈ putP P c ↔ if x.1 = c.key then c.drop = false ∧ x.2 = c.val else x ∈ P := by
  obtain ⟨k1, k2, k3⟩ := keys_apart hs c.key
  unfold putP
  by_cases hz : P[scanL P c.key]?.map (·.1) = some c.key
  · obtain ⟨u, hu⟩ := cut_there hz
    have hl := (there_lt hz).1
    rw [if_pos hz]
    have hm : x ∈ P ↔ x ∈ P.take (scanL P c.key) ∨ x = (c.key, u) ∨ x ∈ P.drop (scanL P c.key + 1) := by
      conv => lhs; rw [hu]
      simp
    cases hd : c.drop
    · rw [if_neg (by simp), List.set_eq_take_append_cons_drop, if_pos hl, List.mem_append, List.mem_cons]
      by_cases hx : x.1 = c.key
      · rw [if_pos hx]
        constructor
        · rintro (h | rfl | h)
          · exact absurd hx (k1 x h)
          · exact ⟨rfl, rfl⟩
          · exact absurd hx (k2 x h)
        · rintro ⟨-, h⟩
          exact .inr (.inl (by rw [← hx, ← h]))
      · rw [if_neg hx, hm]
        constructor
        · rintro (h | rfl | h)
          · exact .inl h
          · exact absurd rfl hx
          · exact .inr (.inr h)
        · rintro (h | rfl | h)
          · exact .inl h
          · exact absurd rfl hx
          · exact .inr (.inr h)
    · rw [if_pos rfl, List.mem_append]
      by_cases hx : x.1 = c.key
      · rw [if_pos hx]
        constructor
        · rintro (h | h)
          · exact absurd hx (k1 x h)
          · exact absurd hx (k2 x h)
        · rintro ⟨h, -⟩
          cases h
      · rw [if_neg hx, hm]
        constructor
        · rintro (h | h)
          · exact .inl h
          · exact .inr (.inr h)
        · rintro (h | rfl | h)
          · exact .inl h
          · exact absurd rfl hx
          · exact .inr h
  · rw [if_neg hz]
    have hk := k3 hz
    have hm : x ∈ P ↔ x ∈ P.take (scanL P c.key) ∨ x ∈ P.drop (scanL P c.key) := by
      conv => lhs; rw [← List.take_append_drop (scanL P c.key) P]
      rw [List.mem_append]
    cases hd : c.drop
    · rw [if_neg (by simp), List.mem_append, List.mem_cons]
      by_cases hx : x.1 = c.key
      · rw [if_pos hx]
        constructor
        · rintro (h | rfl | h)
          · exact absurd hx (hk x (List.mem_of_mem_take h))
          · exact ⟨rfl, rfl⟩
          · exact absurd hx (hk x (List.mem_of_mem_drop h))
        · rintro ⟨-, h⟩
          exact .inr (.inl (by rw [← hx, ← h]))
      · rw [if_neg hx, hm]
        constructor
        · rintro (h | rfl | h)
          · exact .inl h
          · exact absurd rfl hx
          · exact .inr h
        · rintro (h | h)
          · exact .inl h
          · exact .inr (.inr h)
    · rw [if_pos rfl]
      by_cases hx : x.1 = c.key
      · rw [if_pos hx]
        constructor
        · intro h
          exact absurd hx (hk x h)
        · rintro ⟨h, -⟩
          cases h
      · rw [if_neg hx]
/-- the last change of a key -/
def lastC : List Chg → List Nat → Option Chg
  | [], _ => none
  | c :: C, k => match lastC C k with
    | some d => some d
    | none => if k = c.key then some c else none
theorem mem_done (C : List Chg) : ∀ {P : List KV}, SortP P → ∀ x : KV, x ∈ doneP P C ↔ match lastC C x.1 with
    | some c => c.drop = false ∧ x.2 = c.val
    | none => x ∈ P := by
  induction C with
  | nil => intro P _ x; exact Iff.rfl
  | cons c C ih =>
    intro P hs x
    have h1 := ih (putP_sort hs c) x
    have h2 : doneP P (c :: C) = doneP (putP P c) C := rfl
    rw [h2, h1]
    have h3 : lastC (c :: C) x.1 = match lastC C x.1 with
      | some d => some d
      | none => if x.1 = c.key then some c else none := rfl
    rw [h3]
    cases hl : lastC C x.1 with
    | some d => exact Iff.rfl
    | none =>
      show x ∈ putP P c ↔ _
      rw [mem_put hs c x]
      by_cases hx : x.1 = c.key
      · simp only [if_pos hx]
      · simp only [if_neg hx]
theorem sort_same : ∀ {A B : List KV}, SortP A → SortP B → (∀ x, x ∈ A ↔ x ∈ B) → A = B
  | [], [], _, _, _ => rfl
  | [], b :: B, _, _, h => absurd ((h b).2 (by simp)) (by simp)
  | a :: A, [], _, _, h => absurd ((h a).1 (by simp)) (by simp)
  | a :: A, b :: B, hA, hB, h => by
    unfold SortP at hA hB
    rw [List.pairwise_cons] at hA hB
    have hab : a = b := by
      rcases List.mem_cons.1 ((h a).1 (by simp)) with h1 | h1
      · exact h1
      · rcases List.mem_cons.1 ((h b).2 (by simp)) with h2 | h2
        · exact h2.symm
        · have h3 := hB.1 a h1
          have h4 := hA.1 b h2
          exact absurd (cmpL_trans _ _ _ h3 h4) (cmpL_lt_irrefl _)
    subst hab
    refine congrArg _ (sort_same hA.2 hB.2 fun x => ?_)
    constructor
    · intro hx
      rcases List.mem_cons.1 ((h x).1 (List.mem_cons_of_mem _ hx)) with rfl | h1
      · exact absurd (hA.1 _ hx) (cmpL_lt_irrefl _)
      · exact h1
    · intro hx
      rcases List.mem_cons.1 ((h x).2 (List.mem_cons_of_mem _ hx)) with rfl | h1
      · exact absurd (hB.1 _ hx) (cmpL_lt_irrefl _)
      · exact h1
theorem done_twice {P : List KV} (hs : SortP P) (C : List Chg) : doneP (doneP P C) C = doneP P C := by
  refine sort_same (doneP_sort _ (doneP_sort _ hs)) (doneP_sort _ hs) fun x => ?_
  rw [mem_done C (doneP_sort _ hs) x, mem_done C hs x]
  cases lastC C x.1 with
  | some c => exact Iff.rfl
  | none => exact Iff.rfl
theorem weigh_parts (P : List KV) (i : Nat) : weigh ((P.take i).map kvChg) + weigh ((P.drop i).map kvChg) = weigh (P.map kvChg) := by
  rw [← weigh_append, ← List.map_append, List.take_append_drop]
theorem weigh_dropS (P : List KV) (i : Nat) : weigh ((P.drop (i + 1)).map kvChg) ≤ weigh ((P.drop i).map kvChg) := by
  rw [← List.drop_drop]
  have := weigh_parts (P.drop i) 1
  omega
theorem weigh_put (P : List KV) (c : Chg) : weigh ((putP P c).map kvChg) ≤ weigh (P.map kvChg) + (c.key.length + c.val.length) := by
  have hle := scanL_le P c.key
  have h1 := weigh_parts P (scanL P c.key)
  have h2 := weigh_dropS P (scanL P c.key)
  have h3 : ∀ l : List KV, weigh (((c.key, c.val) :: l).map kvChg) = c.key.length + c.val.length + weigh (l.map kvChg) := fun l => by simp [weigh, kvChg]
  unfold putP
  split
  · rename_i hz
    obtain ⟨hl, -⟩ := there_lt hz
    split
    · rw [List.map_append, weigh_append]; omega
    · rw [List.set_eq_take_append_cons_drop, if_pos hl, List.map_append, weigh_append, h3]; omega
  · split
    · omega
    · rw [List.map_append, weigh_append, h3]; omega
theorem weigh_done (C : List Chg) : ∀ P : List KV, weigh ((doneP P C).map kvChg) ≤ weigh (P.map kvChg) + weigh C := by
  induction C with
  | nil => intro P; exact Nat.le_refl _
  | cons c C ih =>
    intro P
    have h1 := ih (putP P c)
    have h2 := weigh_put P c
    have h3 : weigh (c :: C) = c.key.length + c.val.length + weigh C := by simp [weigh]
    have h4 : doneP P (c :: C) = doneP (putP P c) C := rfl
    rw [h4, h3]
    omega

/-- what a round leaves -/
structure Rnd (B : Nat) (w0 w : World) (pt pl pd : Nat) (kv : Value) (k : Nat) (C : List Chg) : Prop where
  tc : ∃ q P, q.K = 320 ∧ q.ring = 5998 ∧ q.nb ≤ 641 * k ∧ q.ne ≤ 2 ∧ (P = [] ∨ 0 < q.lo) ∧ (P = if k = 0 then [] else doneP [] C) ∧ Tc B w0 w pt pl pd kv q P
/-- what Compact leaves of it -/
structure Cpd (B : Nat) (w0 w : World) (pt pl pd : Nat) (kv : Value) (k : Nat) (C : List Chg) : Prop where
  tc : ∃ q P, q.K = 320 ∧ q.ring = 5998 ∧ q.nb ≤ 641 * k + 321 ∧ q.ne = 1 ∧ (P = if k = 0 then [] else doneP [] C) ∧ Tc B w0 w pt pl pd kv q P
theorem rnd_compact {B : Nat} {w0 w : World} {pt pl pd : Nat} {kv : Value} {k : Nat} {C : List Chg} (h : Rnd B w0 w pt pl pd kv k C) (hk : k < 80) (hC : C.length ≤ 20) (hw : weigh C ≤ 12000) (hB : B ≤ w.heap.size) :
    Calls Try.prog 23 #[.pointer (some ⟨pt, 0, none⟩)] w fun e w' => e = .returned (.int .i64 0) ∧ Cpd B w0 w' pt pl pd kv k C ∧ LT w w' := by
  obtain ⟨q, P, hK, hr, hnb, hne, hlo, hP, ht⟩ := h.tc
  by_cases h0 : P = []
  · subst h0
    refine (compact_none ht hB (by omega) (by omega)).mono ?_
    rintro e w' ⟨rfl, ⟨nb, nx, hn, ht'⟩, hl⟩
    exact ⟨rfl, ⟨⟨⟨q.K, nb, q.ring, 0, 1, q.sec, nx⟩, [], hK, hr, show nb ≤ _ by omega, rfl, hP, ht'⟩⟩, hl⟩
  · have hlp : P.length ≤ 20 ∧ weigh (P.map kvChg) ≤ 12000 := by
      rw [hP]
      split
      · exact ⟨by simp, by simp [weigh]⟩
      · have h1 := doneP_length C []
        have h2 := weigh_done C []
        simp [weigh] at h1 h2
        constructor
        · omega
        · have : weigh ((doneP [] C).map kvChg) ≤ weigh C := by simpa [weigh] using h2
          omega
    have hc : cellsN (16 + 27 * P.length + weigh (P.map kvChg)) ≤ 320 := by unfold cellsN; omega
    have hm := Nat.mul_le_mul_right q.K (show q.ne + 1 ≤ 3 by omega)
    refine (compact_some ht h0 (hlo.resolve_left h0) (by omega) (by omega) hB _ rfl (by omega) (by rw [hK] at hm ⊢; omega) (by omega)).mono ?_
    rintro e w' ⟨rfl, ⟨nb, nx, hn, ht'⟩, hl⟩
    exact ⟨rfl, ⟨⟨⟨q.K, nb, q.ring, 1, 1, q.sec, nx⟩, P, hK, hr, show nb ≤ _ by omega, rfl, hP, ht'⟩⟩, hl⟩
theorem cpd_do {B : Nat} {w0 w : World} {pt pl pd : Nat} {kv : Value} {k : Nat} {C : List Chg} (h : Cpd B w0 w pt pl pd kv k C) (hk : k < 80) {v : Value} (hv : ChgV w v C) (hC0 : 0 < C.length) (hC : C.length ≤ 20) (hw : weigh C ≤ 12000) (hkey : ∀ c ∈ C, 0 < c.key.length ∧ c.key.length ≤ 64) (hB : B ≤ w.heap.size) :
    Calls Try.prog 12 #[.pointer (some ⟨pt, 0, none⟩), v] w fun e w' => e = .returned (.int .i64 0) ∧ Rnd B w0 w' pt pl pd kv (k + 1) C ∧ LT w w' := by
  obtain ⟨q, P, hK, hr, hnb, hne, hP, ht⟩ := h.tc
  have hc : cellsN (16 + 27 * C.length + weigh C) ≤ 320 := by unfold cellsN; omega
  have hs : SortP P := by
    rw [hP]
    split
    · exact List.Pairwise.nil
    · exact doneP_sort _ List.Pairwise.nil
  have hl : P.length ≤ 20 := by
    rw [hP]
    split
    · simp
    · have h1 := doneP_length C []
      simp at h1
      omega
  have hm := Nat.mul_le_mul_right q.K (show q.ne + 1 ≤ 3 by omega)
  refine (do_c ht hv hC0 (by omega) (by omega) hkey hB _ rfl (by omega) (by rw [hK] at hm ⊢; omega) (by omega) (by omega) hs).mono ?_
  rintro e w' ⟨rfl, ht', hl'⟩
  refine ⟨rfl, ⟨⟨q.wrote, _, hK, hr, ?_, ?_, .inr ?_, ?_, ht'⟩⟩, hl'⟩
  · show q.nb + q.K ≤ _; omega
  · show q.ne + 1 ≤ _; omega
  · show 0 < q.lo + 1; omega
  · rw [if_neg (by omega), hP]
    split
    · rfl
    · exact done_twice List.Pairwise.nil C
theorem rnd_told {B : Nat} {w0 w : World} {pt pl pd : Nat} {kv : Value} {k : Nat} {C : List Chg} (h : Rnd B w0 w pt pl pd kv k C) (hk : 0 < k) (hC : C.length ≤ 20) (hs : ∀ c ∈ C, c.key.length ≤ 100000 ∧ c.val.length ≤ 100000) {Bm : Nat} {vm : Value} (hm : RowS w Bm vm (doneP [] C)) :
    Calls Try.prog 16 #[.pointer (some ⟨pt, 0, none⟩), vm, .slice none 0 0, .slice none 0 0] w fun e w' => e = .returned (.bool true) ∧ Below w.heap.size w w' := by
  obtain ⟨q, P, hK, hr, hnb, hne, hlo, hP, ht⟩ := h.tc
  rw [if_neg (by omega)] at hP
  subst hP
  obtain ⟨-, ⟨cost, pv, L, ht, -, hr, he⟩, -, -⟩ := ht
  rw [← he] at hm
  have hl : L.length ≤ 20 := by
    have h1 := doneP_length C []
    rw [← he] at h1
    simp at h1
    omega
  refine told_any ht hr hm (by omega) fun x hx => ?_
  have h2 := doneP_siz C (M := []) (fun x hx => by cases hx) hs (Pr.of x) (by rw [← he]; exact List.mem_map_of_mem hx)
  exact h2
end
end Go.Proofs.Ytmnbkhgogogeiaa
