/-
  Rows of numbers that a call owns.
-/
import Derived.Test.YtacalpgiopgkkaaDoorS8Number
namespace Go.Proofs.YtacalpgiopgkkaaDoor
namespace S8
set_option linter.unusedVariables false
open Go.RowKit

theorem Tryd.info3 : (Tryd.prog.info? 3).map (fun i => (i.zero, i.size, i.bytes)) = some (some (.int .i64 0), 1, 8) := by kernel_rfl

def i64s (l : List Int) : List Value := l.map (fun (n : Int) => Value.int .i64 n)
@[simp] theorem i64s_length (l : List Int) : (i64s l).length = l.length := by simp [i64s]
theorem i64s_append (l m : List Int) : i64s (l ++ m) = i64s l ++ i64s m := by simp [i64s]
theorem i64s_get (l : List Int) (j : Nat) (h : j < l.length) : (i64s l)[j]? = some (.int .i64 l[j]) := by simp [i64s, h]

def OwnI (w : World) (B : Nat) (v : Value) (l : List Int) : Prop := w.ownsRow B 3 1 v l.length (i64s l)

theorem OwnI.some {w : World} {B : Nat} {v : Value} {l : List Int} (h : OwnI w B v l) (hn : 0 < l.length) :
    ∃ g cap, v = .slice (some ⟨g, 0, none⟩) l.length cap ∧ B ≤ g ∧ g < w.heap.size := by
  rcases h.2 with ⟨_, h0⟩ | ⟨g, cap, cur, hv, hb, hh, _⟩
  · omega
  · exact ⟨g, cap, hv, hb, (Array.getElem?_eq_some_iff.1 hh).1⟩

theorem OwnI.snoc {w : World} {B : Nat} {v : Value} {l : List Int} {n : Int} {k : Nat} (h : w.ownsRow B 3 1 v (k + 1) (i64s l ++ [.int .i64 n])) (hk : k = l.length) : OwnI w B v (l ++ [n]) := by
  subst hk
  unfold OwnI
  rw [i64s_append, List.length_append]
  exact h

theorem OwnI.cell {w : World} {B g n cap : Nat} {l : List Int} (h : OwnI w B (.slice (Option.some ⟨g, 0, none⟩) n cap) l) (hn : n = l.length) (j : Nat) (hj : j < l.length) : w.cell? ⟨g, j, none⟩ = Option.some (.int .i64 l[j]) := by
  subst hn
  rw [World.ownsRow.cellAt h j (by simpa using hj), i64s_get _ _ hj]

theorem OwnI.ownLe {w : World} {B : Nat} {v : Value} {l : List Int} (h : OwnI w B v l) : ∀ k, v.ownBlock = Option.some k → B ≤ k := by
  intro k hk
  exact (World.ownsRow.lt h k hk).1

theorem one_new (w : World) (a : Value) (t : TypeId) : ∀ j u, [a][j]? = some u → (w.alloc (.cells #[a] t)).cell? ((⟨w.heap.size, 0, none⟩ : Addr).add j) = some u := by
  intro j u hj
  match j, hj with
  | 0, hj => simp at hj; subst hj; simp [Addr.add]

/-- 'append(out, x)' of one number to a row of the call's own -/
theorem appI {ops : Array Oper} {rest : List Oper} {o : Oper} {a : Act} {Q : Exit → Act → World → Prop} (hgd : o.guard = none) (s x : Operand)
    (ho : o.op = .call { callee := .builtin .append, args := #[s, x], argTypes := #[91, 91] })
    {w wr : World} {B : Nat} {v : Value} {l : List Int} {z : Int} (hown : OwnI wr B v l) (hbel : Below B w wr) (hB : B ≤ wr.heap.size)
    (hs : a.eval s = v) (hx : a.eval x = .slice (some ⟨wr.heap.size, 0, none⟩) 1 1) (hlen : l.length + 1 ≤ 1000000)
    (h : ∀ o' w2, OwnI w2 B o' (l ++ [z]) → Below B w w2 → wpList Tryd.prog ops Q rest (a.put o.dst o') w2) :
    wpList Tryd.prog ops Q (o :: rest) a (wr.alloc (.cells #[.int .i64 z] 3)) := by
  obtain ⟨i0, hi, hz0, hz1, hz2⟩ := info_parts Tryd.info3
  refine wpList_append_own _ hgd s x 91 ho B 3 i0 (.int .i64 0) 1 8 Tryd.underlying91 hi hz0 hz1 hz2 rfl (by decide) v l.length (i64s l) hs (World.ownsRow.alloc hown _) ⟨wr.heap.size, 0, none⟩ 1 1 [.int .i64 z] hx rfl (one_new _ _ _) (by simp [Value.oneCell']) (by simp [maxLen]; omega) (by omega) (by simp; omega) ?_
  intro o' w2 ho' hgr _
  exact h o' w2 (OwnI.snoc ho' rfl) ((hbel.alloc hB _).grown hgr (by simp; omega) hown.ownLe)
end S8
end Go.Proofs.YtacalpgiopgkkaaDoor
