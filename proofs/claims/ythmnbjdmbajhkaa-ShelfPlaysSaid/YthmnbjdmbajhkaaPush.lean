/-
  The contracts of the heap's Push at an empty order.
-/
import Derived.Test.YthmnbjdmbajhkaaInv
namespace Go.Proofs.Ythmnbjdmbajhkaa
set_option linter.unusedVariables false
open Go.RowKit

theorem assert57 (a : Addr) (w : World) : (Instr.typeAssert (.iface 57 (.pointer (some a))) 20 57 true).run Try.prog w = .ok (.tuple #[.pointer (some a), .bool true]) w := by kernel_rfl
theorem Try.info57 : (Try.prog.info? 57).map (fun i => (i.zero, i.size, i.bytes)) = some (some (.pointer none), 1, 8) := by kernel_rfl
theorem owns_nil (w : World) (B e size : Nat) : w.ownsRow B e size (.slice none 0 0) 0 [] := ⟨by simp, .inl ⟨rfl, rfl⟩⟩
theorem owns_one {w : World} {B e : Nat} {v x : Value} (h : w.ownsRow B e 1 v 1 [x]) : ∃ g cap, v = .slice (some ⟨g, 0, none⟩) 1 cap ∧ B ≤ g ∧ g < w.heap.size ∧ w.cell? ⟨g, 0, none⟩ = some x ∧ w.frozen? ⟨g, 0, none⟩ = false ∧ 1 ≤ cap := by
  obtain ⟨g, cap, cur, rfl, hg, hh, hn, hm, hx⟩ := h.2.resolve_left (by rintro ⟨_, h⟩; cases h)
  exact ⟨g, cap, rfl, hg, (Array.getElem?_eq_some_iff.1 hh).1, World.ownsRow.cellAt h 0 (by decide), frozen_of_row _ _ _ _ _ hh, hn⟩

/-- 'append(nil, x)' of one thing -/
theorem appT {ops : Array Oper} {rest : List Oper} {o : Oper} {a : Act} {Q : Exit → Act → World → Prop} (hgd : o.guard = none) (s x : Operand)
    (ho : o.op = .call { callee := .builtin .append, args := #[s, x], argTypes := #[54, 54] }) {wr : World} {u : Value}
    {g : Nat} (hs : a.eval s = .slice none 0 0) (hx : a.eval x = .slice (some ⟨g, 0, none⟩) 1 1) (hg : g = wr.heap.size) (hu : u.oneCell' = true)
    (h : ∀ o' w2, w2.ownsRow wr.heap.size 57 1 o' 1 [u] → Below wr.heap.size wr w2 → wpList Try.prog ops Q rest (a.put o.dst o') w2) :
    wpList Try.prog ops Q (o :: rest) a (wr.alloc (.cells #[u] 57)) := by
  subst hg
  obtain ⟨i0, hi, hz0, hz1, hz2⟩ := info_parts Try.info57
  have hn : ∀ j v, [u][j]? = some v → (wr.alloc (.cells #[u] 57)).cell? ((⟨wr.heap.size, 0, none⟩ : Addr).add j) = some v := by
    intro j v hj
    match j, hj with
    | 0, hj => simp at hj; subst hj; simp [Addr.add]
  refine wpList_append_own _ hgd s x 54 ho wr.heap.size 57 i0 _ 1 8 Try.underlying54 hi hz0 hz1 hz2 rfl (by decide) (.slice none 0 0) 0 [] hs (owns_nil _ _ _ _) ⟨wr.heap.size, 0, none⟩ 1 1 [u] hx rfl hn (by intro v hv; simp at hv; subst hv; exact hu) (by simp [maxLen]) (by omega) (by simp) ?_
  intro o' w2 ho' hgr _
  exact h o' w2 ho' (((Below.refl _ _).alloc (Nat.le_refl _) _).grown hgr (by simp) (by simp [Value.ownBlock]))

/-- what Push has made of the world -/
def Pushed (p t : Nat) (w : World) (w' : World) : Prop := ∃ g cap w2, w2.ownsRow w.heap.size 57 1 (.slice (some ⟨g, 0, none⟩) 1 cap) 1 [.pointer (some ⟨t, 0, none⟩)] ∧ Below w.heap.size (w.setCell ⟨t, 4, none⟩ (.int .i64 0)) w2 ∧ w' = w2.setCell ⟨p, 3, none⟩ (.slice (some ⟨g, 0, none⟩) 1 cap)

set_option maxHeartbeats 1000000 in
theorem push57 (p t : Nat) (w : World) (x : Int) (hc : w.cell? ⟨p, 3, none⟩ = some (.slice none 0 0)) (hf : w.frozen? ⟨p, 3, none⟩ = false) (tc : w.cell? ⟨t, 4, none⟩ = some (.int .i64 x)) (tf : w.frozen? ⟨t, 4, none⟩ = false) (hne : p ≠ t) (hp : p < w.heap.size) (ht : t < w.heap.size) :
    Calls Try.prog 57 #[.pointer (some ⟨p, 3, none⟩), .iface 57 (.pointer (some ⟨t, 0, none⟩))] w fun e w' => e = .returned (.tuple #[]) ∧ Pushed p t w w' := by
  have ha := assert57
  go_enter Try.func57, Try.ntmps57
  go_wp2_with (at_builtin
               refine appT rfl (.tmp 22) (.tmp 24) rfl rfl rfl (by simp) rfl ?_
               intro o' w2 ho' hb2
               obtain ⟨g, cap, rfl, hg, hgs, hgc, hgf, hcap⟩ := owns_one ho'
               have HO := Lib.hid ho'
               have hc2 : w2.cell? ⟨p, 3, none⟩ = some (.slice none 0 0) := (hb2.cell (p := ⟨p, 3, none⟩) (by simpa using hp)).trans (by rw [World.cell?_setCell_other]; exact hc; simp)
               have hf2 : w2.frozen? ⟨p, 3, none⟩ = false := (hb2.frozen (p := ⟨p, 3, none⟩) (by simpa using hp)).trans (by simpa using hf)
               have HB2 := Lib.hid hb2
               clear hgc hgf ho' hb2)
  exact bodyPost_end (v := .tuple #[]) (by simp [results, Try.results57, go_sem]) rfl ⟨rfl, g, cap, w2, by simpa using HO.out, by simpa using HB2.out, rfl⟩
end Go.Proofs.Ythmnbjdmbajhkaa
