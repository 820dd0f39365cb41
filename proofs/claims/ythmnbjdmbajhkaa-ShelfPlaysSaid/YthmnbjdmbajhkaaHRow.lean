/-
  The law's own row, whatever room it has: read, written, grown, cut.
-/
import Derived.Test.YthmnbjdmbajhkaaRelM
import Derived.Test.YthmnbjdmbajhkaaSh
import Derived.ArgAppend
import Derived.Laws.AppendOwnNone
namespace Go.Proofs.Ythmnbjdmbajhkaa
set_option linter.unusedVariables false
open Go.RowKit
attribute [local go_sem] Oper.semAt_some

def HRow (w : World) (B : Nat) (v : Value) (H : List (Th × Bool)) : Prop :=
  (v = .slice none 0 0 ∧ H = []) ∨ ∃ g cap cur, v = .slice (some ⟨g, 0, none⟩) H.length cap ∧ B ≤ g ∧ At w g (.cells cur 37 (0, 0)) ∧ H.length ≤ cap ∧ cap ≤ maxLen ∧ cap * 5 ≤ cur.size ∧ ∀ (j : Nat) (u : Value), (oneC H)[j]? = some u → cur[j]? = some u
theorem HRow.nil (w : World) (B : Nat) : HRow w B (.slice none 0 0) [] := .inl ⟨rfl, rfl⟩
theorem HRow.of_owns {w : World} {B : Nat} {v : Value} {H : List (Th × Bool)} (h : w.ownsRow B 37 5 v H.length (oneC H)) : HRow w B v H := by
  rcases h.2 with ⟨rfl, h0⟩ | ⟨g, cap, cur, rfl, hb, hh, hn, hm, hs, ht⟩
  · exact .inl ⟨rfl, List.length_eq_zero_iff.1 h0⟩
  · refine .inr ⟨g, cap, cur, rfl, hb, hh, hn, hm, by omega, fun j u hj => ?_⟩
    rw [← ht] at hj
    have hlt : j < H.length * 5 := by
      have := (List.getElem?_eq_some_iff.1 hj).1
      simp at this
      omega
    rw [List.getElem?_take_of_lt hlt, Array.getElem?_toList] at hj
    exact hj
theorem HRow.shape {w : World} {B : Nat} {v : Value} {H : List (Th × Bool)} (h : HRow w B v H) : ∃ a cap, v = .slice a H.length cap ∧ H.length ≤ cap ∧ cap ≤ maxLen ∧ (0 < H.length → ∃ g, a = some ⟨g, 0, none⟩) := by
  rcases h with ⟨rfl, rfl⟩ | ⟨g, cap, cur, rfl, _, _, hn, hm, _⟩
  · exact ⟨none, 0, rfl, Nat.le_refl _, by decide, fun h => by simp at h⟩
  · exact ⟨_, cap, rfl, hn, hm, fun _ => ⟨g, rfl⟩⟩
theorem HRow.at {w : World} {B g n cap : Nat} {H : List (Th × Bool)} (h : HRow w B (.slice (some ⟨g, 0, none⟩) n cap) H) : n = H.length ∧ ∃ cur, At w g (.cells cur 37 (0, 0)) ∧ B ≤ g ∧ H.length ≤ cap ∧ cap ≤ maxLen ∧ cap * 5 ≤ cur.size ∧ ∀ (j : Nat) (u : Value), (oneC H)[j]? = some u → cur[j]? = some u := by
  rcases h with ⟨h, _⟩ | ⟨g', cap', cur, e, hb, ha, hn, hm, hs, hc⟩
  · cases h
  · cases e
    exact ⟨rfl, cur, ha, hb, hn, hm, hs, hc⟩
theorem HRow.cell {w : World} {B g n cap : Nat} {H : List (Th × Bool)} (h : HRow w B (.slice (some ⟨g, 0, none⟩) n cap) H) {j : Nat} {u : Value} (hj : (oneC H)[j]? = some u) : w.cell? ⟨g, j, none⟩ = some u := by
  obtain ⟨-, cur, ha, -, -, -, -, hc⟩ := h.at
  exact ha.cell j u (hc j u hj)
theorem HRow.froz {w : World} {B g n cap : Nat} {H : List (Th × Bool)} (h : HRow w B (.slice (some ⟨g, 0, none⟩) n cap) H) (j : Nat) : w.frozen? ⟨g, j, none⟩ = false := by
  obtain ⟨-, cur, ha, -⟩ := h.at
  exact ha.froz j
theorem HRow.block {w : World} {B : Nat} {v : Value} {H : List (Th × Bool)} (h : HRow w B v H) {k : Nat} (hk : v.ownBlock = some k) : B ≤ k ∧ k < w.heap.size ∧ ∃ cur, w.heap[k]? = some (.cells cur 37 (0, 0)) := by
  rcases h with ⟨rfl, _⟩ | ⟨g, cap, cur, rfl, hb, ha, _⟩
  · cases hk
  · simp only [Value.ownBlock, Option.some.injEq] at hk
    subst hk
    exact ⟨hb, At.lt ha, cur, ha⟩
theorem HRow.beside {w w' : World} {B : Nat} {v : Value} {H : List (Th × Bool)} (h : HRow w B v H) {own : Nat → Prop} (hb : Beside own w w') (ho : ∀ k, own k → v.ownBlock ≠ some k) : HRow w' B v H := by
  rcases h with h | ⟨g, cap, cur, rfl, hB, ha, r⟩
  · exact .inl h
  · exact .inr ⟨g, cap, cur, rfl, hB, At.beside ha hb (fun k => ho g k rfl), r⟩
theorem HRow.below {w w' : World} {B : Nat} {v : Value} {H : List (Th × Bool)} (h : HRow w B v H) (hb : Below w.heap.size w w') : HRow w' B v H := h.beside (own := fun _ => False) (Below.beside hb) (fun _ h => h.elim)
theorem HRow.mono {w : World} {B C : Nat} {v : Value} {H : List (Th × Bool)} (h : HRow w B v H) (hc : C ≤ B) : HRow w C v H := by
  rcases h with h | ⟨g, cap, cur, e, hB, r⟩
  · exact .inl h
  · exact .inr ⟨g, cap, cur, e, by omega, r⟩
theorem Sh.apartH {w : World} {p m c : Nat} {b : Int} {r : Option Addr} {cap : Nat} {E : List (Th × Nat)} {L : List Th} {H : List (Th × Bool)} (h : Sh w p m c b r cap E L H) {B : Nat} {v : Value} {K : List (Th × Bool)} (ho : HRow w B v K) : ∀ k, shOwn p m r E k → v.ownBlock ≠ some k := by
  intro k hk hv
  obtain ⟨-, -, cur, hc⟩ := ho.block hv
  rcases h.type hk hc with h | h | h <;> cases h
theorem oneC_set (H : List (Th × Bool)) (i : Nat) (hi : i < H.length) (x : Th × Bool) (j : Nat) : (oneC (H.set i x))[j]? = if 5 * i ≤ j ∧ j < 5 * i + 5 then ([.int .u32 x.1.v, .int .u32 x.1.u, .int .i64 x.1.size, .int .i64 x.1.used, .bool x.2] : List Value)[j - 5 * i]? else (oneC H)[j]? := by
  induction H generalizing i j with
  | nil => simp at hi
  | cons y r ih =>
    cases i with
    | zero =>
      simp only [List.set_cons_zero, oneC, List.flatMap_cons, Nat.mul_zero, Nat.zero_le, true_and, Nat.zero_add, Nat.sub_zero]
      rw [List.getElem?_append, List.getElem?_append]
      simp only [List.length_cons, List.length_nil]
      split <;> rfl
    | succ i =>
      have ih := ih i (by simpa using hi) (j - 5)
      simp only [List.set_cons_succ, oneC, List.flatMap_cons] at ih ⊢
      rw [List.getElem?_append, List.getElem?_append]
      simp only [List.length_cons, List.length_nil]
      split
      · rw [if_neg (by omega)]
      · rw [ih, show j - 5 - 5 * i = j - 5 * (i + 1) by omega]
        by_cases h : 5 * i ≤ j - 5 ∧ j - 5 < 5 * i + 5
        · rw [if_pos h, if_pos (by omega)]
        · rw [if_neg h, if_neg (by omega)]
/-- one cell of it written -/
theorem HRow.set {w : World} {B g n cap : Nat} {H : List (Th × Bool)} (h : HRow w B (.slice (some ⟨g, 0, none⟩) n cap) H) {i d : Nat} (hi : i < H.length) (hd : d < 5) (x : Th × Bool) (u : Value)
    (hu : ([.int .u32 x.1.v, .int .u32 x.1.u, .int .i64 x.1.size, .int .i64 x.1.used, .bool x.2] : List Value)[d]? = some u)
    (hs : ∀ e, e ≠ d → ([.int .u32 x.1.v, .int .u32 x.1.u, .int .i64 x.1.size, .int .i64 x.1.used, .bool x.2] : List Value)[e]? = ([.int .u32 H[i].1.v, .int .u32 H[i].1.u, .int .i64 H[i].1.size, .int .i64 H[i].1.used, .bool H[i].2] : List Value)[e]?) :
    HRow (w.setCell ⟨g, i * 5 + d, none⟩ u) B (.slice (some ⟨g, 0, none⟩) n cap) (H.set i x) := by
  obtain ⟨hn, cur, ha, hB, hl, hm, hsz, hc⟩ := h.at
  refine .inr ⟨g, cap, cur.setIfInBounds (i * 5 + d) u, by simp [hn], hB, ha.set _ u, by simpa using hl, hm, by simpa using hsz, fun j z hj => ?_⟩
  rw [oneC_set H i hi x j] at hj
  have hsame : (oneC (H.set i H[i]))[j]? = (oneC H)[j]? := by rw [set_same]
  rw [oneC_set H i hi H[i] j] at hsame
  rw [Array.getElem?_setIfInBounds]
  by_cases hjd : i * 5 + d = j
  · subst hjd
    rw [if_pos (by omega), show i * 5 + d - 5 * i = d by omega, hu] at hj
    rw [if_pos rfl, if_pos (by omega)]
    exact hj
  · rw [if_neg hjd]
    apply hc
    by_cases hin : 5 * i ≤ j ∧ j < 5 * i + 5
    · rw [if_pos hin] at hj hsame
      rw [← hsame, ← hs _ (by omega)]
      exact hj
    · rw [if_neg hin] at hj
      exact hj
theorem oneC_app (H K : List (Th × Bool)) : oneC (H ++ K) = oneC H ++ oneC K := by simp [oneC]
theorem oneC_cells (H : List (Th × Bool)) : ∀ u ∈ oneC H, u.oneCell' = true := by
  intro u hu
  obtain ⟨x, -, hx⟩ := List.mem_flatMap.1 hu
  simp only [List.mem_cons, List.not_mem_nil, or_false] at hx
  rcases hx with rfl | rfl | rfl | rfl | rfl <;> rfl
/-- 'append', in place or not -/
theorem run_appH {w : World} {B : Nat} {v : Value} {H K : List (Th × Bool)} (h : HRow w B v H) (ty : TypeId) (ad : Addr) (c : Nat) (hnews : ∀ j u, (oneC K)[j]? = some u → w.cell? (ad.add j) = some u) (hn : H.length + K.length ≤ 1000000) (hB : B ≤ w.heap.size) :
    ∃ v' w', (Builtin.append_ #[28, 28] ty #[v, .slice (some ad) K.length c]).run Try.prog w = .ok v' w' ∧ HRow w' B v' (H ++ K) ∧ Beside (fun k => v.ownBlock = some k) w w' ∧ (v'.ownBlock = v.ownBlock ∨ ∀ k, v'.ownBlock = some k → w.heap.size ≤ k) := by
  obtain ⟨i0, hi, hz0, hz1, hz2⟩ := info_parts Try.info37
  have hKl : (oneC K).length = K.length * 5 := by rw [oneC_len]; omega
  rcases h with ⟨rfl, rfl⟩ | ⟨g, cap, cur, rfl, hb, ha, hl, hm, hs, hc⟩
  · obtain ⟨v', w', hr, ho, hg, -⟩ := run_append_own (P := Try.prog) w B 28 ty 37 i0 _ 5 32 Try.underlying28 hi hz0 hz1 hz2 rfl (by decide) (.slice none 0 0) 0 [] (World.ownsRow_nil _ _ _ _) ad K.length c (oneC K) hKl hnews (oneC_cells K) (by simp at hn; unfold maxLen; omega) (by simp at hn; omega) hB
    refine ⟨v', w', hr, HRow.of_owns (by simpa using ho), (Beside.refl _ w).grown hg (fun k hk => .inl hk), ?_⟩
    rcases ho.2 with ⟨rfl, _⟩ | ⟨g', c', cur', rfl, _, hh, _⟩
    · exact .inl rfl
    · right
      intro k hk
      simp only [Value.ownBlock, Option.some.injEq] at hk
      subst hk
      obtain ⟨v2, w2, hr2, ho2, hg2⟩ := run_append_own_at (P := Try.prog) w B 28 ty 37 i0 _ 5 32 Try.underlying28 hi hz0 hz1 hz2 rfl (by decide) (.slice none 0 0) 0 [] (World.ownsRow_nil _ _ _ _) ad K.length c (oneC K) hKl hnews (oneC_cells K) (by simp at hn; unfold maxLen; omega) (by simp at hn; omega) hB
      rw [hr] at hr2
      cases hr2
      rcases hg2.2.2 with h | h
      · cases h
      · simp only [Value.ownBlock, Option.some.injEq] at h
        omega
  · by_cases hroom : H.length + K.length ≤ cap
    · have hz := hz1
      have hfit : H.length * i0.size + (oneC K).length ≤ cur.size := by rw [hz1, hKl]; omega
      have hr := run_append_room (P := Try.prog) w 28 ty 37 i0 Try.underlying28 hi g H.length cap cur ha ad K.length c (oneC K) (by rw [hz1]; exact hKl) hnews (oneC_cells K) hroom hfit
      refine ⟨_, _, hr, .inr ⟨g, cap, _, by rw [List.length_append], hb, setRow_heap w g cur _ 37 _ ha, by rw [List.length_append]; exact hroom, hm, ?_, fun j u hj => ?_⟩, ⟨rfl, rfl, rfl, by simp, fun k _ hk => setRow_other w g k _ (fun e => hk (by simp [Value.ownBlock, e]))⟩, .inl rfl⟩
      · simp only [List.size_toArray, List.length_append, List.length_take, List.length_drop, Array.length_toList]
        omega
      · rw [hz1]
        have htl : (cur.toList.take (H.length * 5)).length = H.length * 5 := by simp; omega
        rw [oneC_app] at hj
        simp only [List.getElem?_toArray]
        rw [List.append_assoc, List.getElem?_append, htl]
        rw [List.getElem?_append, oneC_len] at hj
        by_cases h1 : j < H.length * 5
        · rw [if_pos (by omega)] at hj
          rw [if_pos h1, List.getElem?_take_of_lt h1, Array.getElem?_toList]
          exact hc j u hj
        · rw [if_neg (by omega)] at hj
          rw [if_neg h1, List.getElem?_append_left (by rw [show H.length * 5 = 5 * H.length by omega]; exact (List.getElem?_eq_some_iff.1 hj).1), show H.length * 5 = 5 * H.length by omega]
          exact hj
    · have hrow : HRow w B (.slice (some ⟨g, 0, none⟩) H.length cap) H := .inr ⟨g, cap, cur, rfl, hb, ha, hl, hm, hs, hc⟩
      obtain ⟨v', w', hr, ho, hg⟩ := run_append_arg_grows (P := Try.prog) w 28 ty 37 i0 _ 5 32 Try.underlying28 hi hz0 hz1 hz2 rfl (by decide) ⟨g, 0, none⟩ H.length cap (oneC H) (by rw [oneC_len]; omega) (fun j u hj => by rw [Addr.add_lit, Nat.zero_add]; exact hrow.cell hj) ad K.length c (oneC K) hKl hnews (by omega) (by unfold maxLen; omega) (by omega)
      have ho' : w'.ownsRow w.heap.size 37 5 v' (H ++ K).length (oneC (H ++ K)) := by rw [oneC_app, List.length_append]; exact ho
      exact ⟨v', w', hr, (HRow.of_owns ho').mono hB, (Beside.refl _ w).grown hg (fun k hk => by cases hk), .inr (fun k hk => (World.ownsRow.lt ho k hk).1)⟩
/-- a first part of it, with less room -/
theorem HRow.part {w : World} {B g n cap : Nat} {H : List (Th × Bool)} (h : HRow w B (.slice (some ⟨g, 0, none⟩) n cap) H) (k c1 : Nat) (hk : k ≤ H.length) (h1 : k ≤ c1) (h2 : c1 ≤ cap) : HRow w B (.slice (some ⟨g, 0, none⟩) k c1) (H.take k) := by
  obtain ⟨hn, cur, ha, hB, hl, hm, hsz, hc⟩ := h.at
  have htl : (H.take k).length = k := by simp; omega
  refine .inr ⟨g, c1, cur, by rw [htl], hB, ha, by rw [htl]; exact h1, by omega, by omega, fun j u hj => hc j u ?_⟩
  have e : oneC H = oneC (H.take k) ++ oneC (H.drop k) := by rw [← oneC_app, List.take_append_drop]
  rw [e, List.getElem?_append_left (List.getElem?_eq_some_iff.1 hj).1]
  exact hj
/-- one cut out -/
theorem run_cutH {w : World} {B g n cap : Nat} {H : List (Th × Bool)} (h : HRow w B (.slice (some ⟨g, 0, none⟩) n cap) H) (ty : TypeId) (k c1 c2 : Nat) (ad : Addr) (had : ad = ⟨g, (k + 1) * 5, none⟩ ∨ H.length = k + 1) (hk : k < H.length) (h1 : k ≤ c1) (h2 : c1 ≤ cap) (hn : H.length ≤ 1000000) (hB : B ≤ w.heap.size) :
    ∃ v' w', (Builtin.append_ #[28, 28] ty #[.slice (some ⟨g, 0, none⟩) k c1, .slice (some ad) (H.length - (k + 1)) c2]).run Try.prog w = .ok v' w' ∧ HRow w' B v' (H.eraseIdx k) ∧ Beside (fun k => k = g) w w' := by
  have hd : (H.drop (k + 1)).length = H.length - (k + 1) := by simp
  obtain ⟨v', w', hr, ho, hb, -⟩ := run_appH (K := H.drop (k + 1)) (h.part k c1 (by omega) h1 h2) ty ad c2 (fun j u hj => by
    rcases had with rfl | he
    case inr =>
      rw [List.drop_eq_nil_of_le (by omega)] at hj
      simp [oneC] at hj
    rw [Addr.add_lit]
    refine h.cell ?_
    have e : oneC H = oneC (H.take (k + 1)) ++ oneC (H.drop (k + 1)) := by rw [← oneC_app, List.take_append_drop]
    have hl : (oneC (H.take (k + 1))).length = (k + 1) * 5 := by rw [oneC_len]; simp; omega
    rw [e, List.getElem?_append_right (by omega), hl, Nat.add_sub_cancel_left]
    exact hj) (by simp; omega) hB
  rw [hd] at hr
  refine ⟨v', w', hr, ?_, hb.mono (fun k _ hk => by simpa [Value.ownBlock] using hk.symm)⟩
  rw [List.eraseIdx_eq_take_drop_succ]
  exact ho
/-- a copy of it -/
theorem run_copyH {w : World} {B : Nat} {v : Value} {H : List (Th × Bool)} (h : HRow w B v H) (ty : TypeId) (hn : H.length ≤ 1000000) :
    ∃ v' w', (Builtin.append_ #[28, 28] ty #[.slice none 0 0, v]).run Try.prog w = .ok v' w' ∧ HRow w' w.heap.size v' H ∧ Below w.heap.size w w' := by
  rcases h with ⟨rfl, rfl⟩ | ⟨g, cap, cur, rfl, hb, ha, hl, hm, hs, hc⟩
  · obtain ⟨i0, hi, hz0, hz1, hz2⟩ := info_parts Try.info37
    have hr := run_append_owned_none (P := Try.prog) (w := w) w.heap.size 28 ty 37 i0 5 Try.underlying28 hi (.slice none 0 0) 0 [] (World.ownsRow_nil _ _ _ _)
    exact ⟨_, w, hr, HRow.nil _ _, Below.refl _ _⟩
  · have hrow : HRow w B (.slice (some ⟨g, 0, none⟩) H.length cap) H := .inr ⟨g, cap, cur, rfl, hb, ha, hl, hm, hs, hc⟩
    obtain ⟨v', w', hr, ho, hb, -⟩ := run_appH (K := H) (HRow.nil w w.heap.size) ty ⟨g, 0, none⟩ cap (fun j u hj => by rw [Addr.add_lit, Nat.zero_add]; exact hrow.cell hj) (by simpa using hn) (Nat.le_refl _)
    exact ⟨v', w', hr, by simpa using ho, hb.below (fun k hk => by cases hk) (Nat.le_refl _)⟩
/-- at the operation -/
theorem wpList_appH {ops : Array Oper} {rest : List Oper} {o : Oper} {a : Act} {Q : Exit → Act → World → Prop} {w : World} (hgd : o.guard = none) (s x : Operand)
    (ho : o.op = .call { callee := .builtin .append, args := #[s, x], argTypes := #[28, 28] }) {v y : Value} (hs : a.eval s = v) (hx : a.eval x = y) {R : Value → World → Prop}
    (hr : ∃ v' w', (Builtin.append_ #[28, 28] o.type #[v, y]).run Try.prog w = .ok v' w' ∧ R v' w') (h : ∀ v' w', R v' w' → wpList Try.prog ops Q rest (a.put o.dst v') w') : wpList Try.prog ops Q (o :: rest) a w := by
  refine wpList_plain hgd fun K hK => ?_
  obtain ⟨v', w', hr, hR⟩ := hr
  unfold Oper.wp
  simp [execOp, ho, resolve, invoke, builtin, hs, hx, hr, Result.andThen]
  exact hK _ _ (h v' w' hR)
end Go.Proofs.Ythmnbjdmbajhkaa
