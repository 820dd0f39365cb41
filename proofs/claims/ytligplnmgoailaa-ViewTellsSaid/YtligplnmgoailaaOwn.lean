/-
  Rows of numbers, and of ranges, that a call owns; appends to them.
-/
import Derived.Test.YtligplnmgoailaaMem
namespace Go.Proofs.Ytligplnmgoailaa
set_option linter.unusedVariables false
open Go.RowKit

theorem Try.info22 : (Try.prog.info? 22).map (fun i => (i.zero, i.size, i.bytes)) = some (some (.int .u32 0), 1, 4) := by kernel_rfl
theorem Try.info43 : (Try.prog.info? 43).map (fun i => (i.zero, i.size, i.bytes)) = some (some (.agg #[.int .u32 0, .int .u32 0]), 2, 8) := by kernel_rfl

def OwnN (w : World) (B : Nat) (v : Value) (l : List Int) : Prop := w.ownsRow B 22 1 v l.length (u32s l)
def OwnR (w : World) (B : Nat) (v : Value) (l : List (Int × Int)) : Prop := w.ownsRow B 43 2 v l.length (rngs l)

/-- what is known of a row that a call owns -/
theorem owns_shape {w : World} {B e size n : Nat} {v : Value} {xs : List Value} (h : w.ownsRow B e size v n xs) :
    ∃ a cap, v = .slice a n cap ∧ n ≤ cap ∧ cap ≤ maxLen ∧ (a = none → n = 0 ∧ cap = 0) ∧ ∀ x, a = some x → x.off = 0 ∧ x.spot = none ∧ B ≤ x.block ∧ x.block < w.heap.size := by
  rcases h.2 with ⟨hv, h0⟩ | ⟨g, cap, cur, hv, hb, hh, hn, hm, _⟩
  · exact ⟨none, 0, by rw [hv, h0], by omega, by decide, fun _ => ⟨h0, rfl⟩, by simp⟩
  · refine ⟨_, cap, hv, hn, hm, by simp, fun x hx => ?_⟩
    obtain rfl := Option.some.inj hx
    exact ⟨rfl, rfl, hb, (Array.getElem?_eq_some_iff.1 hh).1⟩
theorem owns_len {w : World} {B e size n : Nat} {v : Value} {xs : List Value} (h : w.ownsRow B e size v n xs) : xs.length = n * size := h.1
theorem owns_row {w : World} {B e size n : Nat} {v : Value} {xs : List Value} (h : w.ownsRow B e size v n xs) : RowV w size v n xs := by
  obtain ⟨a, cap, rfl, hn, hm, ha, hx⟩ := owns_shape h
  refine ⟨a, cap, rfl, hn, hm, h.1, ha, fun x hxx j hj => ?_⟩
  obtain ⟨b, off, spot⟩ := x
  obtain ⟨h1, h2, h3, h4⟩ := hx _ hxx
  simp only at h1 h2
  subst h1 h2
  subst hxx
  rw [Addr.add_lit, Nat.zero_add, World.ownsRow.cellAt h j (by have := h.1; omega)]
  exact List.getElem?_eq_getElem hj
theorem OwnN.row {w : World} {B : Nat} {v : Value} {l : List Int} (h : OwnN w B v l) (hl : ∀ n ∈ l, 0 ≤ n ∧ n < 4294967296) : RowN w v l := ⟨owns_row h, hl⟩
theorem OwnR.row {w : World} {B : Nat} {v : Value} {l : List (Int × Int)} (h : OwnR w B v l) (hl : ∀ p ∈ l, (0 ≤ p.1 ∧ p.1 < 4294967296) ∧ (0 ≤ p.2 ∧ p.2 < 4294967296)) : RowR w v l := ⟨owns_row h, hl⟩
theorem owns_le {w : World} {B e size n : Nat} {v : Value} {xs : List Value} (h : w.ownsRow B e size v n xs) : ∀ k, v.ownBlock = some k → B ≤ k := fun k hk => (World.ownsRow.lt h k hk).1
theorem owns_keep {w w' : World} {B e size n S : Nat} {v : Value} {xs : List Value} (h : w.ownsRow B e size v n xs) (hb : Below S w w') (hs : ∀ k, v.ownBlock = some k → k < S) : w'.ownsRow B e size v n xs := by
  refine ⟨h.1, ?_⟩
  rcases h.2 with h2 | ⟨g, cap, cur, rfl, hg, hh, r⟩
  · exact .inl h2
  · exact .inr ⟨g, cap, cur, rfl, hg, by rw [hb.block g (hs g rfl)]; exact hh, r⟩
theorem owns_lt {w : World} {B e size n : Nat} {v : Value} {xs : List Value} (h : w.ownsRow B e size v n xs) : ∀ k, v.ownBlock = some k → k < w.heap.size := fun k hk => (World.ownsRow.lt h k hk).2
theorem owns_nil (w : World) (B e size : Nat) : w.ownsRow B e size (.slice none 0 0) 0 [] := ⟨by simp, .inl ⟨rfl, rfl⟩⟩

theorem one_new (w : World) (a : Value) (t : TypeId) : ∀ j u, [a][j]? = some u → (w.alloc (.cells #[a] t)).cell? ((⟨w.heap.size, 0, none⟩ : Addr).add j) = some u := by
  intro j u hj
  match j, hj with
  | 0, hj => simp at hj; subst hj; simp [Addr.add]

/-- 'append(out, x)' of one number to a row of the call's own -/
theorem appN {ops : Array Oper} {rest : List Oper} {o : Oper} {a : Act} {Q : Exit → Act → World → Prop} (hgd : o.guard = none) (s x : Operand)
    (ho : o.op = .call { callee := .builtin .append, args := #[s, x], argTypes := #[26, 26] })
    {w wr : World} {B : Nat} {v : Value} {l : List Int} {z : Int} (hown : OwnN wr B v l) (hbel : Below B w wr) (hB : B ≤ wr.heap.size)
    (hs : a.eval s = v) (hx : a.eval x = .slice (some ⟨wr.heap.size, 0, none⟩) 1 1) (hlen : l.length + 1 ≤ 1000000)
    (h : ∀ o' w2, OwnN w2 B o' (l ++ [z]) → Below B w w2 → wpList Try.prog ops Q rest (a.put o.dst o') w2) :
    wpList Try.prog ops Q (o :: rest) a (wr.alloc (.cells #[.int .u32 z] 22)) := by
  obtain ⟨i0, hi, hz0, hz1, hz2⟩ := info_parts Try.info22
  refine wpList_append_own _ hgd s x 26 ho B 22 i0 (.int .u32 0) 1 4 Try.underlying26 hi hz0 hz1 hz2 rfl (by decide) v l.length (u32s l) hs (World.ownsRow.alloc hown _) ⟨wr.heap.size, 0, none⟩ 1 1 [.int .u32 z] hx rfl (one_new _ _ _) (by simp [Value.oneCell']) (by simp [maxLen]; omega) (by omega) (by simp; omega) ?_
  intro o' w2 ho' hgr _
  refine h o' w2 ?_ ((hbel.alloc hB _).grown hgr (by simp; omega) (owns_le hown))
  unfold OwnN
  rw [u32s_append, List.length_append]
  exact ho'

theorem two_new (w : World) (a b : Value) (t : TypeId) : ∀ j u, [a, b][j]? = some u → (w.alloc (.cells #[a, b] t)).cell? ((⟨w.heap.size, 0, none⟩ : Addr).add j) = some u := cell_two_new w a b t

/-- 'append(out, x)' of one range to a row of the call's own: at the operation -/
theorem wp_appR {o : Oper} {a : Act} {K : Act → World → Prop} {Q : Exit → Act → World → Prop} (s x : Operand)
    (ho : o.op = .call { callee := .builtin .append, args := #[s, x], argTypes := #[30, 30] })
    {w wr : World} {B : Nat} {v : Value} {l : List (Int × Int)} {z y : Int} (hown : OwnR wr B v l) (hbel : Below B w wr) (hB : B ≤ wr.heap.size)
    (hs : a.eval s = v) (hx : a.eval x = .slice (some ⟨wr.heap.size, 0, none⟩) 1 1) (hlen : l.length + 1 ≤ 1000000)
    (h : ∀ o' w2, OwnR w2 B o' (l ++ [(z, y)]) → Below B w w2 → K (a.put o.dst o') w2) :
    o.wp Try.prog a (wr.alloc (.cells #[.int .u32 z, .int .u32 y] 43)) K Q := by
  obtain ⟨i0, hi, hz0, hz1, hz2⟩ := info_parts Try.info43
  refine wp_append_own _ s x 30 ho B 43 i0 _ 2 8 Try.underlying30 hi hz0 hz1 hz2 rfl (by decide) v l.length (rngs l) hs (World.ownsRow.alloc hown _) ⟨wr.heap.size, 0, none⟩ 1 1 [.int .u32 z, .int .u32 y] hx rfl (two_new _ _ _ _) (by simp [Value.oneCell']) (by simp [maxLen]; omega) (by omega) (by simp; omega) ?_
  intro o' w2 ho' hgr _
  refine h o' w2 ?_ ((hbel.alloc hB _).grown hgr (by simp; omega) (owns_le hown))
  unfold OwnR
  rw [rngs_append, List.length_append]
  exact ho'
theorem appR {ops : Array Oper} {rest : List Oper} {o : Oper} {a : Act} {Q : Exit → Act → World → Prop} (hgd : o.guard = none) (s x : Operand)
    (ho : o.op = .call { callee := .builtin .append, args := #[s, x], argTypes := #[30, 30] })
    {w wr : World} {B : Nat} {v : Value} {l : List (Int × Int)} {z y : Int} (hown : OwnR wr B v l) (hbel : Below B w wr) (hB : B ≤ wr.heap.size)
    (hs : a.eval s = v) (hx : a.eval x = .slice (some ⟨wr.heap.size, 0, none⟩) 1 1) (hlen : l.length + 1 ≤ 1000000)
    (h : ∀ o' w2, OwnR w2 B o' (l ++ [(z, y)]) → Below B w w2 → wpList Try.prog ops Q rest (a.put o.dst o') w2) :
    wpList Try.prog ops Q (o :: rest) a (wr.alloc (.cells #[.int .u32 z, .int .u32 y] 43)) :=
  wpList_plain hgd fun K hK => wp_appR s x ho hown hbel hB hs hx hlen fun o' w2 h1 h2 => hK _ _ (h o' w2 h1 h2)
theorem step_appR {ops : Array Oper} {o : Oper} {a : Act} {K : Act → World → Prop} {Q : Exit → Act → World → Prop} {E : Prop} (hgd : o.guard = none) (s x : Operand)
    (ho : o.op = .call { callee := .builtin .append, args := #[s, x], argTypes := #[30, 30] })
    {w wr : World} {B : Nat} {v : Value} {l : List (Int × Int)} {z y : Int} (hown : OwnR wr B v l) (hbel : Below B w wr) (hB : B ≤ wr.heap.size)
    (hs : a.eval s = v) (hx : a.eval x = .slice (some ⟨wr.heap.size, 0, none⟩) 1 1) (hlen : l.length + 1 ≤ 1000000)
    (h : ∀ o' w2, OwnR w2 B o' (l ++ [(z, y)]) → Below B w w2 → K (a.put o.dst o') w2) :
    if Region.wanted o (yielded ops a.tmps) = true then Oper.wp Try.prog o a (wr.alloc (.cells #[.int .u32 z, .int .u32 y] 43)) K Q else E := by
  have hw : Region.wanted o (yielded ops a.tmps) = true := by simp [Region.wanted, hgd]
  rw [if_pos hw]
  exact wp_appR s x ho hown hbel hB hs hx hlen h
end Go.Proofs.Ytligplnmgoailaa
