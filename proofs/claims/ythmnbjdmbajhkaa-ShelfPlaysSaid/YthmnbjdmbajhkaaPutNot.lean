/-
  Put's refusals; append of one ID, whatever the row holds.
-/
import Derived.Test.YthmnbjdmbajhkaaPutAny
namespace Go.Proofs.Ythmnbjdmbajhkaa
set_option linter.unusedVariables false
open Go.RowKit
attribute [local go_sem] Oper.semAt_some

theorem neq_thing_some (a : Addr) (w : World) : (binOp .neq 57 (.pointer (some a)) (.pointer none)).run Try.prog w = .ok (.bool true) w := by kernel_rfl
theorem ptr_some {E : List (Th × Nat)} {v u : Int} {i : Nat} {y : Th} (h : at? E v u = some (i, y)) : ptrOf E v u = .pointer (some ⟨y.blk, 0, none⟩) := by unfold ptrOf; rw [h]; rfl

set_option maxRecDepth 100000 in
set_option maxHeartbeats 4000000 in
theorem put_twice (p m c i : Nat) (cs : Array Value) (v u size used : Int) (clean : Bool) (E : List (Th × Nat)) (y : Th) (w : World)
    (hr : At w p (.cells cs 56 (0, 0))) (h2 : cs[2]? = some (.map (some m))) (hm : TMap w m E c) (hq : at? E v u = some (i, y)) (h0 : ¬ size < 0) (h1 : ¬ size > 1048576) :
    Calls Try.prog 16 #[.pointer (some ⟨p, 0, none⟩), key v u, .int .i64 size, .int .i64 used, .bool clean] w fun e w' => e = .returned (.int .i64 6) ∧ Below w.heap.size w w' := by
  have hp := hr.lt
  have hml : m < w.heap.size := At.lt hm
  have HR := Lib.hid hr
  have HM := Lib.hid hm
  have H2 := Lib.hid h2
  have he2 := neq_thing_some ⟨y.blk, 0, none⟩
  have hpn := ptr_some hq
  clear hr hm hq h2
  unfold key
  go_enter Try.func16, Try.ntmps16
  go_wp2_with fail
  have hb0 := (Below.refl w.heap.size w).alloc (Nat.le_refl _) (.cells #[.int .u32 v, .int .u32 u] 31)
  have HR0 := HR.out.below hb0 hp
  have HM0 : TMap _ m E c := At.below HM.out hb0 hml
  refine (thing_any p m c E _ v u _ HR0 H2.out HM0).mono ?_
  rintro e w1 ⟨rfl, hb1⟩
  rw [hpn]
  have HB := Lib.hid (hb0.trans (hb1.mono (by simp)))
  clear HR0 HM0 hb0 hb1
  go_wp2_with fail
  go_ret
  exact ⟨rfl, HB.out⟩
set_option maxRecDepth 100000 in
set_option maxHeartbeats 4000000 in
theorem put_arg (p : Nat) (v u size used : Int) (clean : Bool) (w : World) (h : size < 0 ∨ size > 1048576) :
    Calls Try.prog 16 #[.pointer (some ⟨p, 0, none⟩), key v u, .int .i64 size, .int .i64 used, .bool clean] w fun e w' => e = .returned (.int .i64 1) ∧ Below w.heap.size w w' := by
  unfold key
  by_cases h0 : size < 0
  · clear h
    go_enter Try.func16, Try.ntmps16
    go_wp2_with fail
    go_ret
    exact ⟨rfl, (Below.refl _ _).alloc (Nat.le_refl _) _⟩
  · have h1 : size > 1048576 := h.resolve_left h0
    clear h
    go_enter Try.func16, Try.ntmps16
    go_wp2_with fail
    go_ret
    exact ⟨rfl, (Below.refl _ _).alloc (Nat.le_refl _) _⟩

/-- 'append' of one ID -/
theorem appJ {ops : Array Oper} {rest : List Oper} {o : Oper} {a : Act} {Q : Exit → Act → World → Prop} (hgd : o.guard = none) (s x : Operand)
    (ho : o.op = .call { callee := .builtin .append, args := #[s, x], argTypes := #[39, 39] }) {wr : World} {b c : Int} {B n : Nat} {v : Value} {xs : List Value}
    {g : Nat} (hs : a.eval s = v) (hx : a.eval x = .slice (some ⟨g, 0, none⟩) 1 1) (hg : g = wr.heap.size) (hown : wr.ownsRow B 31 2 v n xs) (hB : B ≤ wr.heap.size) (hn : n ≤ 1000000)
    (h : ∀ v' w2, w2.ownsRow B 31 2 v' (n + 1) (xs ++ [.int .u32 b, .int .u32 c]) → Beside (fun k => v.ownBlock = some k) wr w2 → (v'.ownBlock = v.ownBlock ∨ ∃ k, v'.ownBlock = some k ∧ wr.heap.size ≤ k) → wpList Try.prog ops Q rest (a.put o.dst v') w2) :
    wpList Try.prog ops Q (o :: rest) a (wr.alloc (.cells #[.int .u32 b, .int .u32 c] 31)) := by
  subst hg
  obtain ⟨i0, hi, hz0, hz1, hz2⟩ := info_parts Try.info31
  have hown2 : (wr.alloc (.cells #[.int .u32 b, .int .u32 c] 31)).ownsRow B 31 2 v n xs := by
    refine ⟨hown.1, ?_⟩
    rcases hown.2 with h | ⟨g, c, cur, e, h0, hh, h1⟩
    · exact .inl h
    · exact .inr ⟨g, c, cur, e, h0, (Below.heap_alloc _ _ _ (Array.getElem?_eq_some_iff.1 hh).1).trans hh, h1⟩
  refine wpList_append_own_at _ hgd s x 39 ho B 31 i0 _ 2 8 Try.underlying39 hi hz0 hz1 hz2 rfl (by decide) v n xs hs hown2 ⟨wr.heap.size, 0, none⟩ 1 1 [.int .u32 b, .int .u32 c] hx rfl (cell_two_new wr _ _ 31) (by simp [Value.oneCell']) (by simp [maxLen]; omega) (by omega) (by simp; omega) ?_
  intro v' w2 ho' hgr _ hat
  refine h v' w2 ho' (((Beside.refl _ wr).alloc _).grown hgr (fun k hk => .inl hk)) ?_
  rcases hat with e | e
  · exact .inl e
  · exact .inr ⟨_, e, by simp⟩
end Go.Proofs.Ythmnbjdmbajhkaa
