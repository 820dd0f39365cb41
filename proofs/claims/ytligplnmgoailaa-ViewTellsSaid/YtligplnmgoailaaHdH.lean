/-
  Open, of any folder.
-/
import Derived.Test.YtligplnmgoailaaHdG
namespace Go.Proofs.Ytligplnmgoailaa
set_option linter.unusedVariables false
open Go.RowKit
attribute [local go_sem] Oper.semAt_some

/-- all blocks below C but P are as they were -/
structure Kp (P C : Nat) (a b : World) : Prop where
  os : b.os = a.os
  tape : b.tape = a.tape
  output : b.output = a.output
  size : a.heap.size ≤ b.heap.size
  block : ∀ k, k < C → k ≠ P → b.heap[k]? = a.heap[k]?
theorem Kp.refl (P C : Nat) (a : World) : Kp P C a a := ⟨rfl, rfl, rfl, Nat.le_refl _, fun _ _ _ => rfl⟩
theorem Kp.below {P C : Nat} {a b c : World} (h : Kp P C a b) (k : Below C b c) : Kp P C a c :=
  ⟨k.os.trans h.os, k.tape.trans h.tape, k.output.trans h.output, Nat.le_trans h.size k.size, fun i hi hn => (k.block i hi).trans (h.block i hi hn)⟩
theorem Kp.set {P C : Nat} {a b : World} (h : Kp P C a b) (j : Nat) (v : Value) : Kp P C a (b.setCell ⟨P, j, none⟩ v) :=
  ⟨h.os, h.tape, h.output, by simpa [World.setCell] using h.size, fun i hi hn => (Below.heap_setCell _ _ _ _ (by rintro rfl; exact hn rfl)).trans (h.block i hi hn)⟩
theorem Kp.rw {P C p : Nat} {a b : World} {cs : Array Value} {t : TypeId} (h : Kp P C a b) (r : Rw a p cs t) (hp : p < C) (hn : p ≠ P) : Rw b p cs t := (h.block p hp hn).trans r
theorem Kp.to_below {P C B : Nat} {a b w : World} (h : Kp P C a b) (hb : Below B w a) (hP : B ≤ P) (hC : B ≤ C) : Below B w b :=
  hb.trans ⟨h.os, h.tape, h.output, h.size, fun k hk => h.block k (by omega) (by omega)⟩
theorem RowV.kp {P C : Nat} {a b : World} {size n : Nat} {v : Value} {xs : List Value} (h : RowV a size v n xs) (k : Kp P C a b) (hC : a.heap.size ≤ C) (hv : v.ownBlock ≠ some P) : RowV b size v n xs := by
  obtain ⟨ad, cap, rfl, hc, hm, hl, hn, hcell⟩ := h
  refine ⟨ad, cap, rfl, hc, hm, hl, hn, fun x hx i hi => ?_⟩
  have h1 := hcell x hx i hi
  subst hx
  rw [← h1]
  have hlt := World.block_lt_of_cell? a _ h1
  have hb : (x.add i).block = x.block := by unfold Addr.add; split <;> rfl
  rw [hb] at hlt
  refine World.cell?_of_block ?_
  rw [hb]
  exact k.block _ (by omega) (fun e => hv (by simp [Value.ownBlock, e]))
theorem HeldOk.kp {P C : Nat} {a b : World} {h : HeldD} (k : HeldOk a h) (kp : Kp P C a b) (hC : a.heap.size ≤ C) (hf : h.fv.ownBlock ≠ some P ∧ h.bv.ownBlock ≠ some P) : HeldOk b h :=
  ⟨⟨k.rf.1.kp kp hC hf.1, k.rf.2⟩, ⟨k.rb.1.kp kp hC hf.2, k.rb.2⟩⟩

def OwnF (w : World) (C : Nat) (v : Value) (vs : List Value) : Prop := w.ownsRow C 46 1 v vs.length vs
/-- 'append' of one slice of texts -/
theorem appSl {ops : Array Oper} {rest : List Oper} {o : Oper} {a : Act} {Q : Exit → Act → World → Prop} (hgd : o.guard = none) (s x : Operand)
    (ho : o.op = .call { callee := .builtin .append, args := #[s, x], argTypes := #[27, 27] }) {wr : World} {C : Nat} {v : Value} {vs : List Value} {fa : Option Addr} {n c : Nat}
    {g : Nat} (hs : a.eval s = v) (hx : a.eval x = .slice (some ⟨g, 0, none⟩) 1 1) (hg : g = wr.heap.size) (hown : OwnF wr C v vs) (hC : C ≤ wr.heap.size) (hn : vs.length ≤ 1000000)
    (h : ∀ v' w2, OwnF w2 C v' (vs ++ [.slice fa n c]) → Below C wr w2 → (∀ k, v.ownBlock ≠ some k → k < wr.heap.size → w2.heap[k]? = wr.heap[k]?) → wpList Try.prog ops Q rest (a.put o.dst v') w2) :
    wpList Try.prog ops Q (o :: rest) a (wr.alloc (.cells #[.slice fa n c] 46)) := by
  subst hg
  obtain ⟨i0, hi, hz0, hz1, hz2⟩ := info_parts Try.info46
  refine wpList_append_own _ hgd s x 27 ho C 46 i0 _ 1 24 Try.underlying27 hi hz0 hz1 hz2 rfl (by decide) v vs.length vs hs (World.ownsRow.alloc hown _) ⟨wr.heap.size, 0, none⟩ 1 1 [.slice fa n c] hx rfl (row_new wr #[.slice fa n c] 46 (0, 0)) (by simp [Value.oneCell']) (by simp [maxLen]; omega) (by omega) (by simp; omega) ?_
  intro v' w2 ho' hgr _
  refine h v' w2 (by unfold OwnF; rw [List.length_append]; exact ho') (((Below.refl _ _).alloc hC _).grown hgr (by simp; omega) (owns_le hown)) (fun k hk hlt => ?_)
  exact (hgr.block k (by simp; omega) (fun e => hk e.symm)).trans (Below.heap_alloc _ _ _ hlt)
/-- 'append' of one number, and what else is as it was -/
theorem appU {ops : Array Oper} {rest : List Oper} {o : Oper} {a : Act} {Q : Exit → Act → World → Prop} (hgd : o.guard = none) (s x : Operand)
    (ho : o.op = .call { callee := .builtin .append, args := #[s, x], argTypes := #[26, 26] }) {wr : World} {C : Nat} {v : Value} {l : List Int} {z : Int}
    {g : Nat} (hs : a.eval s = v) (hx : a.eval x = .slice (some ⟨g, 0, none⟩) 1 1) (hg : g = wr.heap.size) (hown : OwnN wr C v l) (hC : C ≤ wr.heap.size) (hn : l.length + 1 ≤ 1000000)
    (h : ∀ v' w2, OwnN w2 C v' (l ++ [z]) → Below C wr w2 → (∀ k, v.ownBlock ≠ some k → k < wr.heap.size → w2.heap[k]? = wr.heap[k]?) → wpList Try.prog ops Q rest (a.put o.dst v') w2) :
    wpList Try.prog ops Q (o :: rest) a (wr.alloc (.cells #[.int .u32 z] 22)) := by
  subst hg
  obtain ⟨i0, hi, hz0, hz1, hz2⟩ := info_parts Try.info22
  refine wpList_append_own _ hgd s x 26 ho C 22 i0 (.int .u32 0) 1 4 Try.underlying26 hi hz0 hz1 hz2 rfl (by decide) v l.length (u32s l) hs (World.ownsRow.alloc hown _) ⟨wr.heap.size, 0, none⟩ 1 1 [.int .u32 z] hx rfl (one_new _ _ _) (by simp [Value.oneCell']) (by simp [maxLen]; omega) (by omega) (by simp; omega) ?_
  intro o' w2 ho' hgr _
  refine h o' w2 ?_ (((Below.refl _ _).alloc hC _).grown hgr (by simp; omega) (owns_le hown)) (fun k hk hlt => (hgr.block k (by simp; omega) (fun e => hk e.symm)).trans (Below.heap_alloc _ _ _ hlt))
  unfold OwnN
  rw [u32s_append, List.length_append]
  exact ho'
/-- a row of numbers and one of slices do not meet -/
theorem own_apart {w : World} {C : Nat} {u f : Value} {l : List Int} {vs : List Value} (h1 : OwnN w C u l) (h2 : OwnF w C f vs) : ∀ k, u.ownBlock = some k → f.ownBlock ≠ some k := by
  intro k hu hf
  rcases h1.2 with ⟨rfl, _⟩ | ⟨g, c, cur, rfl, _, hh, _⟩
  · cases hu
  · rcases h2.2 with ⟨rfl, _⟩ | ⟨g', c', cur', rfl, _, hh', _⟩
    · cases hf
    · simp only [Value.ownBlock, Option.some.injEq] at hu hf
      subst hu hf
      have := hh.symm.trans hh'
      cases this
theorem owns_same {w w' : World} {B e size n : Nat} {v : Value} {xs : List Value} (h : w.ownsRow B e size v n xs) (hb : ∀ k, v.ownBlock = some k → w'.heap[k]? = w.heap[k]?) : w'.ownsRow B e size v n xs := by
  refine ⟨h.1, ?_⟩
  rcases h.2 with h2 | ⟨g, cap, cur, rfl, hg, hh, r⟩
  · exact .inl h2
  · exact .inr ⟨g, cap, cur, rfl, hg, (hb g rfl).trans hh, r⟩
end Go.Proofs.Ytligplnmgoailaa
