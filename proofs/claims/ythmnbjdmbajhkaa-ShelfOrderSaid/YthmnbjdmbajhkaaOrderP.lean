/-
  ShelfOrder: the same things in another order; its own row of what was put.
-/
import Derived.Test.YthmnbjdmbajhkaaSh
namespace Go.Proofs.Ythmnbjdmbajhkaa
set_option linter.unusedVariables false
open Go.RowKit
attribute [local go_sem] Oper.semAt_some

def rotI (s n j : Nat) : Nat := if j + s < n then j + s else j + s - n
theorem rotI_mod {s n j : Nat} (hj : j < n) (hs : s < n) : (j + s) % n = rotI s n j := by
  unfold rotI
  split
  · exact Nat.mod_eq_of_lt (by assumption)
  · rw [Nat.mod_eq_sub_mod (by omega), Nat.mod_eq_of_lt (by omega)]
theorem rotI_lt {s n j : Nat} (hj : j < n) (hs : s < n) : rotI s n j < n := by unfold rotI; split <;> omega
def rotL {α : Type} (s : Nat) (X : List α) : List α := X.drop s ++ X.take s
theorem rotL_perm {α : Type} (s : Nat) (X : List α) : (rotL s X).Perm X := by
  have := List.perm_append_comm (l₁ := X.drop s) (l₂ := X.take s)
  rwa [List.take_append_drop] at this
theorem rotL_get {α : Type} {s : Nat} {X : List α} {j : Nat} (hj : j < X.length) (hs : s < X.length) : (rotL s X)[j]? = X[rotI s X.length j]? := by
  unfold rotL rotI
  rw [List.getElem?_append, List.length_drop, List.getElem?_drop]
  split
  · rw [if_pos (by omega), Nat.add_comm]
  · rw [if_neg (by omega), List.getElem?_take_of_lt (by omega)]
    congr 1
    omega
/-- what comes next is not there yet -/
theorem order_new {E F : List (Th × Nat)} {L M : List Th} {H K : List (Th × Bool)} (h : Rel E L H) (k : Rel F M K) {s j : Nat} (hj : j < H.length) (hs : s < H.length) (hK : K.map keyH = (rotL s (H.map keyH)).take j) :
    at? F (H[rotI s H.length j]'(rotI_lt hj hs)).1.v (H[rotI s H.length j]'(rotI_lt hj hs)).1.u = none := by
  rw [at_none]
  intro y hy hvu
  obtain ⟨i, hi, rfl⟩ := List.mem_iff_getElem.1 hy
  have hkl := k.len
  have hiK : i < K.length := by omega
  have hKl : K.length ≤ j := by
    have := congrArg List.length hK
    simp only [List.length_map, List.length_take] at this
    omega
  have e1 : (K.map keyH)[i]? = (H.map keyH)[rotI s H.length i]? := by
    rw [hK, List.getElem?_take_of_lt (by omega), rotL_get (by simp; omega) (by simpa using hs)]
    simp
  have hri : rotI s H.length i < H.length := rotI_lt (by omega) hs
  rw [List.getElem?_map, List.getElem?_map, List.getElem?_eq_getElem hiK, List.getElem?_eq_getElem hri] at e1
  simp only [Option.map_some, Option.some.injEq, keyH, keyT, Prod.mk.injEq] at e1
  rw [k.at i hiK hi] at hvu
  have hl := h.len
  have hij := ids_inj h.good.ids (i := rotI s H.length i) (j := rotI s H.length j) (by omega) (by have := rotI_lt hj hs; omega)
    (by rw [h.at _ hri, h.at _ (rotI_lt hj hs)]; omega) (by rw [h.at _ hri, h.at _ (rotI_lt hj hs)]; omega)
  unfold rotI at hij
  split at hij <;> split at hij <;> omega
theorem order_step {H K : List (Th × Bool)} {s j : Nat} (hj : j < H.length) (hs : s < H.length) (hK : K.map keyH = (rotL s (H.map keyH)).take j) {x : Th × Bool} (hx : keyH x = keyH (H[rotI s H.length j]'(rotI_lt hj hs))) :
    (K ++ [x]).map keyH = (rotL s (H.map keyH)).take (j + 1) := by
  have hl : j < (rotL s (H.map keyH)).length := by rw [(rotL_perm _ _).length_eq]; simpa using hj
  rw [List.take_succ_eq_append_getElem hl, List.map_append, hK]
  congr 1
  have := rotL_get (s := s) (X := H.map keyH) (j := j) (by simpa using hj) (by simpa using hs)
  rw [List.getElem?_eq_getElem hl, List.getElem?_map] at this
  simp only [List.length_map] at this
  rw [List.getElem?_eq_getElem (rotI_lt hj hs)] at this
  simp only [Option.map_some, Option.some.injEq] at this
  simp [this, hx]
theorem idC_key {G K : List Th} (h : G.map keyT = K.map keyT) : idC G = idC K ∧ G.length = K.length := by
  have e : ∀ G : List Th, idC G = (G.map keyT).flatMap (fun k => [.int .u32 k.1, .int .u32 k.2.1]) := by
    intro G
    simp [idC, keyT, List.flatMap_map]
  rw [e, e, h]
  exact ⟨rfl, by simpa using congrArg List.length h⟩

/-- the law's own row of what was put, as cells -/
def opC (R : List (Int × (Th × Bool))) : List Value := R.flatMap fun x => [.int .i64 x.1, .int .u32 x.2.1.v, .int .u32 x.2.1.u, .int .i64 x.2.1.size, .int .i64 x.2.1.used, .bool x.2.2]
theorem opC_snoc (R : List (Int × (Th × Bool))) (x : Int × (Th × Bool)) : opC (R ++ [x]) = opC R ++ [.int .i64 x.1, .int .u32 x.2.1.v, .int .u32 x.2.1.u, .int .i64 x.2.1.size, .int .i64 x.2.1.used, .bool x.2.2] := by simp [opC]
theorem opC_at (R : List (Int × (Th × Bool))) (i : Nat) (hi : i < R.length) : (opC R)[6 * i]? = some (.int .i64 R[i].1) ∧ (opC R)[6 * i + 1]? = some (.int .u32 R[i].2.1.v) ∧ (opC R)[6 * i + 2]? = some (.int .u32 R[i].2.1.u) ∧
    (opC R)[6 * i + 3]? = some (.int .i64 R[i].2.1.size) ∧ (opC R)[6 * i + 4]? = some (.int .i64 R[i].2.1.used) ∧ (opC R)[6 * i + 5]? = some (.bool R[i].2.2) := by
  induction R generalizing i with
  | nil => simp at hi
  | cons x r ih =>
    cases i with
    | zero => simp [opC]
    | succ i =>
      have := ih i (by simpa using hi)
      rw [show 6 * (i + 1) = 6 * i + 1 + 1 + 1 + 1 + 1 + 1 by omega]
      simpa [opC] using this
theorem cell_six_new (w : World) (a b c d e f : Value) (t : TypeId) : ∀ j u, [a, b, c, d, e, f][j]? = some u → (w.alloc (.cells #[a, b, c, d, e, f] t)).cell? ((⟨w.heap.size, 0, none⟩ : Addr).add j) = some u := by
  intro j u hj
  match j, hj with
  | 0, hj => simp at hj; subst hj; simp [Addr.add]
  | 1, hj => simp at hj; subst hj; simp [Addr.add]
  | 2, hj => simp at hj; subst hj; simp [Addr.add]
  | 3, hj => simp at hj; subst hj; simp [Addr.add]
  | 4, hj => simp at hj; subst hj; simp [Addr.add]
  | 5, hj => simp at hj; subst hj; simp [Addr.add]
  | j + 6, hj => simp at hj
theorem Try.info33 : (Try.prog.info? 33).map (fun i => (i.zero, i.size, i.bytes)) = some (some (.agg #[.int .i64 0, .int .u32 0, .int .u32 0, .int .i64 0, .int .i64 0, .bool false]), 6, 40) := by kernel_rfl
/-- 'append' of one call to the law's own row -/
theorem appM {ops : Array Oper} {rest : List Oper} {o : Oper} {a : Act} {Q : Exit → Act → World → Prop} (hgd : o.guard = none) (s x : Operand)
    (ho : o.op = .call { callee := .builtin .append, args := #[s, x], argTypes := #[22, 22] }) {wr : World} {z b c d f : Int} {q : Bool} {B n : Nat} {v : Value} {xs : List Value}
    {g : Nat} (hs : a.eval s = v) (hx : a.eval x = .slice (some ⟨g, 0, none⟩) 1 1) (hg : g = wr.heap.size) (hown : wr.ownsRow B 33 6 v n xs) (hB : B ≤ wr.heap.size) (hn : n ≤ 1000000)
    (h : ∀ v' w2, w2.ownsRow B 33 6 v' (n + 1) (xs ++ [.int .i64 z, .int .u32 b, .int .u32 c, .int .i64 d, .int .i64 f, .bool q]) → Beside (fun k => v.ownBlock = some k) wr w2 → wpList Try.prog ops Q rest (a.put o.dst v') w2) :
    wpList Try.prog ops Q (o :: rest) a (wr.alloc (.cells #[.int .i64 z, .int .u32 b, .int .u32 c, .int .i64 d, .int .i64 f, .bool q] 33)) := by
  subst hg
  obtain ⟨i0, hi, hz0, hz1, hz2⟩ := info_parts Try.info33
  have hown2 : (wr.alloc (.cells #[.int .i64 z, .int .u32 b, .int .u32 c, .int .i64 d, .int .i64 f, .bool q] 33)).ownsRow B 33 6 v n xs := by
    refine ⟨hown.1, ?_⟩
    rcases hown.2 with h | ⟨g, c, cur, e, h0, hh, h1⟩
    · exact .inl h
    · exact .inr ⟨g, c, cur, e, h0, (Below.heap_alloc _ _ _ (Array.getElem?_eq_some_iff.1 hh).1).trans hh, h1⟩
  refine wpList_append_own_at _ hgd s x 22 ho B 33 i0 _ 6 40 Try.underlying22 hi hz0 hz1 hz2 rfl (by decide) v n xs hs hown2 ⟨wr.heap.size, 0, none⟩ 1 1 [.int .i64 z, .int .u32 b, .int .u32 c, .int .i64 d, .int .i64 f, .bool q] hx rfl (cell_six_new wr _ _ _ _ _ _ 33) (by simp [Value.oneCell']) (by simp [maxLen]; omega) (by omega) (by simp; omega) ?_
  intro v' w2 ho' hgr _ hat
  exact h v' w2 ho' (((Beside.refl _ wr).alloc _).grown hgr (fun k hk => .inl hk))
end Go.Proofs.Ythmnbjdmbajhkaa
