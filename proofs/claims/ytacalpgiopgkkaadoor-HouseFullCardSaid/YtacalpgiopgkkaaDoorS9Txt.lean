/-
  Rows of texts: those that a call owns, appends to them, and what Sort and Compact make of them.
-/
import Derived.Test.YtacalpgiopgkkaaDoorS9Fold
import Derived.Laws.AppendOwnNone
namespace Go.Proofs.YtacalpgiopgkkaaDoor
namespace S9
set_option linter.unusedVariables false
open Go.RowKit Go.Sort

/-- what is known of a row that a call owns -/
theorem owns_shape {w : World} {B e size n : Nat} {v : Value} {xs : List Value} (h : w.ownsRow B e size v n xs) :
    ∃ a cap, v = .slice a n cap ∧ n ≤ cap ∧ cap ≤ maxLen ∧ (a = none → n = 0 ∧ cap = 0) ∧ ∀ x, a = some x → x.off = 0 ∧ x.spot = none ∧ B ≤ x.block ∧ x.block < w.heap.size := by
  rcases h.2 with ⟨hv, h0⟩ | ⟨g, cap, cur, hv, hb, hh, hn, hm, _⟩
  · exact ⟨none, 0, by rw [hv, h0], by omega, by decide, fun _ => ⟨h0, rfl⟩, by simp⟩
  · refine ⟨_, cap, hv, hn, hm, by simp, fun x hx => ?_⟩
    obtain rfl := Option.some.inj hx
    exact ⟨rfl, rfl, hb, (Array.getElem?_eq_some_iff.1 hh).1⟩
theorem owns_len {w : World} {B e size n : Nat} {v : Value} {xs : List Value} (h : w.ownsRow B e size v n xs) : xs.length = n * size := h.1
theorem owns_row {w : World} {B e size n : Nat} {v : Value} {xs : List Value} (h : w.ownsRow B e size v n xs) : RowV w size v n xs := by
  obtain ⟨a, cap, rfl, hn, hm, ha, hx⟩ := owns_shape h
  refine ⟨a, cap, rfl, hn, hm, h.1, ha, fun x hxx j hj => ?_⟩
  obtain ⟨b, off, spot⟩ := x
  obtain ⟨h1, h2, h3, h4⟩ := hx _ hxx
  simp only at h1 h2
  subst h1 h2
  subst hxx
  rw [Addr.add_lit, Nat.zero_add, World.ownsRow.cellAt h j (by have := h.1; omega)]
  exact List.getElem?_eq_getElem hj
theorem owns_le {w : World} {B e size n : Nat} {v : Value} {xs : List Value} (h : w.ownsRow B e size v n xs) : ∀ k, v.ownBlock = some k → B ≤ k := fun k hk => (World.ownsRow.lt h k hk).1
theorem owns_keep {w w' : World} {B e size n S : Nat} {v : Value} {xs : List Value} (h : w.ownsRow B e size v n xs) (hb : Below S w w') (hs : ∀ k, v.ownBlock = some k → k < S) : w'.ownsRow B e size v n xs := by
  refine ⟨h.1, ?_⟩
  rcases h.2 with h2 | ⟨g, cap, cur, rfl, hg, hh, r⟩
  · exact .inl h2
  · exact .inr ⟨g, cap, cur, rfl, hg, by rw [hb.block g (hs g rfl)]; exact hh, r⟩
theorem owns_lt {w : World} {B e size n : Nat} {v : Value} {xs : List Value} (h : w.ownsRow B e size v n xs) : ∀ k, v.ownBlock = some k → k < w.heap.size := fun k hk => (World.ownsRow.lt h k hk).2
theorem owns_nil (w : World) (B e size : Nat) : w.ownsRow B e size (.slice none 0 0) 0 [] := ⟨by simp, .inl ⟨rfl, rfl⟩⟩

theorem one_new (w : World) (a : Value) (t : TypeId) : ∀ j u, [a][j]? = some u → (w.alloc (.cells #[a] t)).cell? ((⟨w.heap.size, 0, none⟩ : Addr).add j) = some u := by
  intro j u hj
  match j, hj with
  | 0, hj => simp at hj; subst hj; simp [Addr.add]

/-- at the operation -/
theorem wpList_run {ops : Array Oper} {rest : List Oper} {o : Oper} {a : Act} {Q : Exit → Act → World → Prop} {w : World} (hgd : o.guard = none) (s x : Operand) (t : TypeId)
    (ho : o.op = .call { callee := .builtin .append, args := #[s, x], argTypes := #[t, t] }) {v y : Value} (hs : a.eval s = v) (hx : a.eval x = y) {R : Value → World → Prop}
    (hr : ∃ v' w', (Builtin.append_ #[t, t] o.type #[v, y]).run Tryd.prog w = .ok v' w' ∧ R v' w') (h : ∀ v' w', R v' w' → wpList Tryd.prog ops Q rest (a.put o.dst v') w') : wpList Tryd.prog ops Q (o :: rest) a w := by
  refine wpList_plain hgd fun K hK => ?_
  obtain ⟨v', w', hr, hR⟩ := hr
  unfold Oper.wp
  simp [execOp, ho, resolve, invoke, builtin, hs, hx, hr, Result.andThen]
  exact hK _ _ (h v' w' hR)

def txV (T : List Tx) : List Value := T.map fun t => Value.string (strL t)
@[simp] theorem txV_length (T : List Tx) : (txV T).length = T.length := by simp [txV]
theorem txV_append (S T : List Tx) : txV (S ++ T) = txV S ++ txV T := by simp [txV]
theorem txV_at (T : List Tx) (i : Nat) (h : i < T.length) : (txV T)[i]'(by simpa using h) = .string (strL T[i]) := by simp [txV]
theorem txV_cells (T : List Tx) : ∀ u ∈ txV T, u.oneCell' = true := by
  intro u hu
  obtain ⟨s, _, rfl⟩ := List.mem_map.1 hu
  rfl
/-- a row of texts, wherever it lies; one of a call's own -/
def RowT (w : World) (v : Value) (T : List Tx) : Prop := RowV w 1 v T.length (txV T)
def OwnT (w : World) (B : Nat) (v : Value) (T : List Tx) : Prop := w.ownsRow B 9 1 v T.length (txV T)
theorem OwnT.row {w : World} {B : Nat} {v : Value} {T : List Tx} (h : OwnT w B v T) : RowT w v T := owns_row h
theorem RowT.below {w w' : World} {v : Value} {T : List Tx} (h : RowT w v T) (hb : Below w.heap.size w w') : RowT w' v T := RowV.below h hb
theorem OwnT.below {w w' : World} {B : Nat} {v : Value} {T : List Tx} (h : OwnT w B v T) (hb : Below w.heap.size w w') : OwnT w' B v T := owns_keep h hb (owns_lt h)
theorem OwnT.mono {w : World} {B C : Nat} {v : Value} {T : List Tx} (h : OwnT w B v T) (hc : C ≤ B) : OwnT w C v T := by
  refine ⟨h.1, ?_⟩
  rcases h.2 with h2 | ⟨g, cap, cur, hv, hb, r⟩
  · exact .inl h2
  · exact .inr ⟨g, cap, cur, hv, by omega, r⟩
theorem ownT_nil (w : World) (B : Nat) : OwnT w B (.slice none 0 0) [] := owns_nil w B 9 1
theorem RowT.shape {w : World} {v : Value} {T : List Tx} (h : RowT w v T) :
    ∃ b off a cap, v = .slice a T.length cap ∧ T.length ≤ cap ∧ cap ≤ maxLen ∧ (0 < T.length → a = some ⟨b, off, none⟩ ∧ b < w.heap.size) ∧ ∀ i, (h : i < T.length) → w.cell? ⟨b, off + i, none⟩ = some (.string (strL T[i])) := by
  obtain ⟨b, off, a, cap, e, hc, hm, hl, ha, hcell⟩ := RowV.shape h
  refine ⟨b, off, a, cap, e, hc, hm, fun h0 => ha (by simpa using h0), fun i hi => ?_⟩
  rw [hcell i (by simpa using hi), txV_at T i hi]
theorem Tryd.info9 : (Tryd.prog.info? 9).map (fun i => (i.zero, i.size, i.bytes)) = some (some (.string ⟨#[]⟩), 1, 16) := by kernel_rfl

/-- 'append(out, x)' of one text -/
theorem appT {ops : Array Oper} {rest : List Oper} {o : Oper} {a : Act} {Q : Exit → Act → World → Prop} (hgd : o.guard = none) (s x : Operand)
    (ho : o.op = .call { callee := .builtin .append, args := #[s, x], argTypes := #[33, 33] })
    {w wr : World} {B : Nat} {v : Value} {T : List Tx} {t : Tx} {S : ByteArray} (hown : OwnT wr B v T) (hbel : Below B w wr) (hB : B ≤ wr.heap.size)
    (hs : a.eval s = v) (hx : a.eval x = .slice (some ⟨wr.heap.size, 0, none⟩) 1 1) (hS : S = strL t) (hlen : T.length + 1 ≤ 1000000)
    (h : ∀ o' w2, OwnT w2 B o' (T ++ [t]) → Below B w w2 → wpList Tryd.prog ops Q rest (a.put o.dst o') w2) :
    wpList Tryd.prog ops Q (o :: rest) a (wr.alloc (.cells #[.string S] 9)) := by
  subst hS
  obtain ⟨i0, hi, hz0, hz1, hz2⟩ := info_parts Tryd.info9
  refine wpList_append_own _ hgd s x 33 ho B 9 i0 _ 1 16 Tryd.underlying33 hi hz0 hz1 hz2 rfl (by decide) v T.length (txV T) hs (World.ownsRow.alloc hown _) ⟨wr.heap.size, 0, none⟩ 1 1 [.string (strL t)] hx rfl (one_new _ _ _) (by simp [Value.oneCell']) (by simp [maxLen]; omega) (by omega) (by simp; omega) ?_
  intro o' w2 ho' hgr _
  refine h o' w2 ?_ ((hbel.alloc hB _).grown hgr (by simp; omega) (owns_le hown))
  unfold OwnT
  rw [txV_append, List.length_append]
  exact ho'
/-- 'append(out, l...)' of a row -/
theorem run_appT {w : World} {v s : Value} {S T : List Tx} {B : Nat} (ty : TypeId) (hs : OwnT w B s S) (hB : B ≤ w.heap.size) (h : RowT w v T) (hn : S.length + T.length ≤ 1000000) :
    ∃ v' w', (Builtin.append_ #[33, 33] ty #[s, v]).run Tryd.prog w = .ok v' w' ∧ OwnT w' B v' (S ++ T) ∧ Below B w w' := by
  obtain ⟨i0, hi, hz0, hz1, hz2⟩ := info_parts Tryd.info9
  obtain ⟨a, cap, rfl, hc, hm, hl, ha, hcell⟩ := h
  cases a with
  | none =>
    obtain ⟨h0, rfl⟩ := ha rfl
    have hx : T = [] := List.length_eq_zero_iff.1 h0
    subst hx
    exact ⟨s, w, run_append_owned_none (P := Tryd.prog) (w := w) B 33 ty 9 i0 1 Tryd.underlying33 hi s S.length (txV S) hs, by simpa using hs, Below.refl _ _⟩
  | some x =>
    obtain ⟨v', w', hr, ho, hg, -⟩ := run_append_own (P := Tryd.prog) w B 33 ty 9 i0 _ 1 16 Tryd.underlying33 hi hz0 hz1 hz2 rfl (by decide) s S.length (txV S) hs x T.length cap (txV T) hl (fun j u hj => by
      obtain ⟨hlt, rfl⟩ := List.getElem?_eq_some_iff.1 hj
      exact hcell x rfl j hlt) (txV_cells T) (by simp only [maxLen]; omega) (by omega) hB
    refine ⟨v', w', hr, by unfold OwnT; rw [txV_append, List.length_append]; exact ho, ?_⟩
    exact ⟨hg.os, hg.tape, hg.output, hg.size, fun k hk => hg.block k (by omega) (fun e => by
      have := (World.ownsRow.lt hs k (by rw [e])).1
      omega)⟩

/-- a row of the call's own, with its block -/
theorem OwnT.block {w : World} {B : Nat} {v : Value} {T : List Tx} (h : OwnT w B v T) (h0 : T ≠ []) :
    ∃ g cap cur, v = .slice (some ⟨g, 0, none⟩) T.length cap ∧ B ≤ g ∧ w.heap[g]? = some (.cells cur 9 (0, 0)) ∧ T.length ≤ cap ∧ cap ≤ maxLen ∧ cur.size = cap ∧ cur.toList.take T.length = txV T := by
  rcases h.2 with ⟨_, hz⟩ | ⟨g, cap, cur, hv, hb, hh, hn, hm, hs, ht⟩
  · exact absurd (List.length_eq_zero_iff.1 hz) h0
  · exact ⟨g, cap, cur, hv, hb, hh, hn, hm, by simpa using hs, by simpa using ht⟩
theorem heap_putRow {w : World} {g : Nat} {cur : Array Value} {e : TypeId} {fr : Nat × Nat} (hh : w.heap[g]? = some (.cells cur e fr)) (d : Array Tx) :
    (putRow encStr w g 0 d).heap[g]? = some (.cells (putCells encStr 0 d cur) e fr) := by
  unfold putRow mapBlock
  simp only [Array.getElem?_modify, if_true, hh]
  rfl
theorem heap_putRow_other {w : World} {g k : Nat} (hk : k ≠ g) (d : Array Tx) : (putRow encStr w g 0 d).heap[k]? = w.heap[k]? := by
  unfold putRow mapBlock
  simp only [Array.getElem?_modify]
  rw [if_neg (by omega)]
theorem putCells_take (d : List Tx) (cur : Array Value) (k : Nat) (hk : k ≤ d.length) (hc : d.length ≤ cur.size) : (putCells encStr 0 d.toArray cur).toList.take k = txV (d.take k) := by
  apply List.ext_getElem
  · simp [putCells, txV]; omega
  · intro i h1 h2
    have h3 : i < k := by simp at h1; omega
    have h4 : i < d.length := by omega
    simp only [putCells, List.getElem_take, Array.getElem_toList, Array.getElem_mapIdx]
    rw [if_pos (by simp; omega)]
    simp [txV, strL, List.getElem_take, h4]
theorem holds_own {w : World} {g : Nat} {cur : Array Value} {T : List Tx} (hh : w.heap[g]? = some (.cells cur 9 (0, 0))) (hc : T.length ≤ cur.size) (ht : cur.toList.take T.length = txV T) : Holds encStr w g 0 T.toArray := by
  intro j hj
  have hj' : j < T.length := by simpa using hj
  refine ⟨?_, frozen_of_row _ _ _ _ _ hh⟩
  rw [Nat.zero_add, cell_of_row _ _ j _ 9 (0, 0) hh]
  have h1 : (cur.toList.take T.length)[j]? = (txV T)[j]? := by rw [ht]
  rw [List.getElem?_take_of_lt hj', Array.getElem?_toList] at h1
  rw [h1, List.getElem?_eq_getElem (by simpa using hj'), txV_at T j hj', getElem!_pos _ j hj]
  rfl
/-- behind a row that was put anew -/
theorem own_put {w w' : World} {B g cap k : Nat} {cur : Array Value} {d : List Tx} (hB : B ≤ g) (hh : w.heap[g]? = some (.cells cur 9 (0, 0))) (hk : k ≤ d.length) (hcap : d.length ≤ cap) (hm : cap ≤ maxLen) (hs : cur.size = cap)
    (n : Nat) (os : Array Obj) (he : w' = grow (putRow encStr (Sort.ahead w n) g 0 d.toArray) os) : OwnT w' B (.slice (some ⟨g, 0, none⟩) k cap) (d.take k) ∧ Below B w w' := by
  subst he
  have hlt : g < w.heap.size := (Array.getElem?_eq_some_iff.1 hh).1
  have hps : (putRow encStr (Sort.ahead w n) g 0 d.toArray).heap.size = w.heap.size := by rw [size_putRow]; rfl
  constructor
  · refine ⟨by simp [Nat.min_eq_left hk], .inr ⟨g, cap, putCells encStr 0 d.toArray cur, by simp [Nat.min_eq_left hk], hB, ?_, by simp; omega, hm, by simp [putCells, hs], ?_⟩⟩
    · unfold grow
      simp only
      rw [Array.getElem?_append_left (by rw [hps]; exact hlt)]
      exact heap_putRow (w := Sort.ahead w n) hh _
    · rw [List.length_take, Nat.min_eq_left hk, Nat.mul_one]
      exact putCells_take d cur k hk (by omega)
  · refine ⟨rfl, rfl, rfl, by unfold grow; simp [hps], fun k2 hk2 => ?_⟩
    unfold grow
    simp only
    rw [Array.getElem?_append_left (by rw [hps]; omega), heap_putRow_other (by omega)]
    rfl
theorem sort_own {w : World} {B : Nat} {v : Value} {T : List Tx} (h : OwnT w B v T) (h0 : T ≠ []) (hn : T.length ≤ 1000000) :
    Calls Tryd.prog 26 #[v] w fun e w' => e = .returned (.tuple #[]) ∧ OwnT w' B v (sortT T) ∧ Below B w w' := by
  obtain ⟨g, cap, cur, rfl, hB, hh, hc, hm, hs, ht⟩ := h.block h0
  refine (Tryd.slices_Sort_string g 0 cap T w (holds_own hh (by omega) ht) (Array.getElem?_eq_some_iff.1 hh).1 (by omega)).mono ?_
  rintro e w' ⟨rfl, n, os, he⟩
  have hl : (T.mergeSort fun x y => decide (x ≤ y)).length = T.length := List.length_mergeSort ..
  have := own_put (k := T.length) (d := T.mergeSort fun x y => decide (x ≤ y)) hB hh (by omega) (by omega) hm hs n os he
  rw [← hl, List.take_length, hl] at this
  exact ⟨rfl, this.1, this.2⟩
theorem compact_le (T : List Tx) : (Lib.compact T).length ≤ T.length := by
  unfold Lib.compact Lib.compactUpTo
  rw [List.length_map]
  exact Nat.le_trans (List.length_filter_le _ _) (by simp)
theorem compact_own {w : World} {B : Nat} {v : Value} {T : List Tx} (h : OwnT w B v T) (h0 : T ≠ []) (hn : T.length ≤ 1000000) :
    Calls Tryd.prog 34 #[v] w fun e w' => ∃ v', e = .returned v' ∧ OwnT w' B v' (Lib.compact T) ∧ Below B w w' := by
  obtain ⟨g, cap, cur, rfl, hB, hh, hc, hm, hs, ht⟩ := h.block h0
  refine (Tryd.slices_Compact_string g 0 cap T w (holds_own hh (by omega) ht) (by omega) hc).mono ?_
  rintro e w' ⟨rfl, q, he⟩
  have hle := compact_le T
  have hk := own_put (w' := w') (k := (Lib.compact T).length) (d := Lib.compact T ++ List.replicate (T.length - (Lib.compact T).length) []) hB hh (by simp) (by simp; omega) hm hs q #[] (by rw [grow_empty]; exact he)
  rw [List.take_left] at hk
  exact ⟨_, rfl, hk.1, hk.2⟩
end S9
end Go.Proofs.YtacalpgiopgkkaaDoor
