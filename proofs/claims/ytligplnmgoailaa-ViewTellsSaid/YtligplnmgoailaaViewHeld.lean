/-
  The contracts of Held at a message without flags and bytes, and of See at a folder of that one.
-/
import Derived.Test.YtligplnmgoailaaViewA
import Derived.WalkSpells
import Derived.Laws.ResultCell
namespace Go.Proofs.Ytligplnmgoailaa
set_option linter.unusedVariables false
open Go.RowKit

def hv : Array Value := #[.int .u32 3, .int .u32 0, .slice none 0 0, .string ⟨#[]⟩, .int .i64 0, .bool false, .slice none 0 0, .bool false, .int .i64 0]

theorem cloneS_nil (w : World) : Calls Try.prog 40 #[.slice none 0 0] w fun e w' => e = .returned (.slice none 0 0) ∧ w = w' := by
  have he := Lib.run_eql_slice_nil (P := Try.prog)
  go_enter Try.func40, Try.ntmps40
  go_wp2_with fail
  go_ret
  exact ⟨rfl, rfl⟩
theorem cloneB_nil (w : World) : Calls Try.prog 41 #[.slice none 0 0] w fun e w' => e = .returned (.slice none 0 0) ∧ w = w' := by
  have he := Lib.run_eql_slice_nil (P := Try.prog)
  go_enter Try.func41, Try.ntmps41
  go_wp2_with fail
  go_ret
  exact ⟨rfl, rfl⟩

theorem two_row (w : World) (a b : Obj) : ((w.alloc a).alloc b).heap[w.heap.size + 1]? = some b := by
  have := heap_alloc_new (w.alloc a) b
  rwa [World.size_alloc] at this

set_option maxRecDepth 8000 in
set_option maxHeartbeats 1000000 in
theorem held_nil (w : World) : Calls Try.prog 38 #[.agg hv] w fun e w' => e = .returned (.agg hv) ∧ Below w.heap.size w w' := by
  unfold hv
  go_enter Try.func38, Try.ntmps38
  go_wp2_with fail
  refine (cloneS_nil _).mono ?_
  rintro e w1 ⟨rfl, rfl⟩
  go_wp2_with fail
  refine (cloneB_nil _).mono ?_
  rintro e w1 ⟨rfl, rfl⟩
  go_wp2_with fail
  exact bodyPost_ret (v := .agg hv) (results_cell_row rfl _ _ (w.heap.size + 1) 49 hv (0, 0) _ rfl (two_row w _ _) Try.underlying49 rfl (by kernel_rfl)) rfl ⟨rfl, ((Below.refl _ _).alloc (Nat.le_refl _) _).alloc (by simp) _⟩

def fv (L : Nat) : Array Value := #[.string ⟨#[97]⟩, .int .u32 2, .int .u32 4, .int .u32 0, .bool false, .slice (some ⟨L, 0, none⟩) 1 1]

theorem Try.info49 : (Try.prog.info? 49).map (fun i => (i.zero, i.size, i.bytes)) = some (some (.agg #[.int .u32 0, .int .u32 0, .slice none 0 0, .string ⟨#[]⟩, .int .i64 0, .bool false, .slice none 0 0, .bool false, .int .i64 0]), 9, 104) := by kernel_rfl
theorem row_new (w : World) (cs : Array Value) (t : TypeId) (fr : Nat × Nat) : ∀ j u, cs.toList[j]? = some u → (w.alloc (.cells cs t fr)).cell? ((⟨w.heap.size, 0, none⟩ : Addr).add j) = some u := by
  intro j u hj
  rw [Addr.add_lit, Nat.zero_add, cell_of_row _ _ j _ t fr (heap_alloc_new w _)]
  simpa using hj

/-- 'append(nil, x)' of one message -/
theorem appH {ops : Array Oper} {rest : List Oper} {o : Oper} {a : Act} {Q : Exit → Act → World → Prop} (hgd : o.guard = none) (s x : Operand)
    (ho : o.op = .call { callee := .builtin .append, args := #[s, x], argTypes := #[23, 23] })
    {w wr : World} {B : Nat} (hbel : Below B w wr) (hB : B ≤ wr.heap.size)
    (hs : a.eval s = .slice none 0 0) (hx : a.eval x = .slice (some ⟨wr.heap.size, 0, none⟩) 1 1)
    (h : ∀ o' w2, w2.ownsRow B 49 9 o' 1 hv.toList → Below B w w2 → wpList Try.prog ops Q rest (a.put o.dst o') w2) :
    wpList Try.prog ops Q (o :: rest) a (wr.alloc (.cells hv 49)) := by
  obtain ⟨i0, hi, hz0, hz1, hz2⟩ := info_parts Try.info49
  refine wpList_append_own _ hgd s x 23 ho B 49 i0 _ 9 104 Try.underlying23 hi hz0 hz1 hz2 rfl (by decide) (.slice none 0 0) 0 [] hs (owns_nil _ _ _ _) ⟨wr.heap.size, 0, none⟩ 1 1 hv.toList hx rfl (row_new _ _ _ _) (by simp [Value.oneCell', hv]) (by simp [maxLen]) (by omega) (by simp; omega) ?_
  intro o' w2 ho' hgr _
  exact h o' w2 ho' ((hbel.alloc hB _).grown hgr (by simp; omega) (by simp [Value.ownBlock]))

set_option maxRecDepth 8000 in
set_option maxHeartbeats 1000000 in
theorem see_one (L : Nat) (w : World) (hr : w.heap[L]? = some (.cells hv 49 (0, 0))) : Calls Try.prog 23 #[.agg (fv L)] w fun e w' => ∃ o, e = .returned o ∧ w'.ownsRow w.heap.size 49 9 o 1 hv.toList ∧ Below w.heap.size w w' := by
  have hL : L < w.heap.size := (Array.getElem?_eq_some_iff.1 hr).1
  have c : ∀ j, w.cell? ⟨L, j, none⟩ = hv[j]? := fun j => cell_of_row _ _ j _ _ _ hr
  have c0 : w.cell? ⟨L, 0, none⟩ = some (.int .u32 3) := c 0
  have c1 : w.cell? ⟨L, 1, none⟩ = some (.int .u32 0) := c 1
  have c2 : w.cell? ⟨L, 2, none⟩ = some (.slice none 0 0) := c 2
  have c3 : w.cell? ⟨L, 3, none⟩ = some (.string ⟨#[]⟩) := c 3
  have c4 : w.cell? ⟨L, 4, none⟩ = some (.int .i64 0) := c 4
  have c5 : w.cell? ⟨L, 5, none⟩ = some (.bool false) := c 5
  have c6 : w.cell? ⟨L, 6, none⟩ = some (.slice none 0 0) := c 6
  have c7 : w.cell? ⟨L, 7, none⟩ = some (.bool false) := c 7
  have c8 : w.cell? ⟨L, 8, none⟩ = some (.int .i64 0) := c 8
  have hne : L ≠ w.heap.size := by omega
  clear c hr
  unfold fv
  go_enter Try.func23, Try.ntmps23
  go_wp2_with fail
  refine wp_loop_rounds 2 ?_
  rw [rounds_succ]
  go_wp2_with fail
  refine (held_nil _).mono ?_
  rintro e w1 ⟨rfl, hb1⟩
  have hs1 := hb1.size
  simp only [World.size_alloc] at hs1
  have HB1 := Lib.hid ((((Below.refl w.heap.size w).alloc (Nat.le_refl _) (.cells (fv L) 25)).alloc (by simp) (.cells hv 49)).trans (hb1.mono (by simp; omega)))
  clear hb1
  unfold hv
  go_wp2_with (at_builtin; go_loud (refine appH rfl (.tmp 16) (.tmp 19) rfl HB1.out (by omega) rfl rfl ?_); intro o' w2 ho' hb2)
  have HO := Lib.hid ho'
  have HB2 := Lib.hid hb2
  obtain ⟨oa, oc, rfl, _⟩ := owns_shape ho'
  clear ho' hb2
  rw [rounds_succ]
  go_wp2_with fail
  go_ret
  exact ⟨_, rfl, HO.out, HB2.out⟩
end Go.Proofs.Ytligplnmgoailaa
