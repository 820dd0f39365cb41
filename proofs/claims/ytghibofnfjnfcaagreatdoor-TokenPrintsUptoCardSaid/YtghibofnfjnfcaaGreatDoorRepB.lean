/-
  (*strings.Replacer).build at the four texts: the algorithm's block of 257 cells.
-/
import Derived.Test.YtghibofnfjnfcaaGreatDoorRepA
import Derived.Lib.ConvBytes
import Derived.Laws.IdiomStrings
namespace Go.Proofs.YtghibofnfjnfcaaGreatDoor
set_option linter.unusedVariables false
open Go.RowKit

def nils (n : Nat) : List Value := List.replicate n (.slice none 0 0)
theorem nils_len (n : Nat) : (nils n).length = n := List.length_replicate
theorem nils_at (n i : Nat) (h : i < n) : (nils n)[i]? = some (.slice none 0 0) := by unfold nils; rw [List.getElem?_replicate, if_pos h]
theorem nils_one (n : Nat) : ∀ v ∈ nils n, v.oneCell' = true := by
  intro v hv
  obtain ⟨_, rfl⟩ := List.mem_replicate.1 hv
  rfl
/-- the algorithm's cells: what stands for a quote, for a backslash; the list of both -/
def rcells (q s t : Value) : List Value := nils 34 ++ (q :: (nils 57 ++ (s :: (nils 163 ++ [t]))))
theorem rcells_len (q s t : Value) : (rcells q s t).length = 257 := by
  simp only [rcells, List.length_append, List.length_cons, List.length_nil, nils_len]
def BsR (w : World) (B : Nat) (q s t : Value) : Prop := w.heap[B]? = some (.cells (rcells q s t).toArray 100 (0, 0))
theorem BsR.lt {w : World} {B : Nat} {q s t : Value} (h : BsR w B q s t) : B < w.heap.size := (Array.getElem?_eq_some_iff.1 h).1
theorem BsR.at {w : World} {B : Nat} {q s t : Value} (h : BsR w B q s t) (j : Nat) : w.cell? ⟨B, j, none⟩ = (rcells q s t)[j]? := by
  rw [cell_of_row w B j _ _ _ h]; simp
set_option maxRecDepth 100000 in
theorem BsR.q {w : World} {B : Nat} {q s t : Value} (h : BsR w B q s t) : w.cell? ⟨B, 34, none⟩ = some q := by rw [h.at]; rfl
set_option maxRecDepth 100000 in
theorem BsR.s {w : World} {B : Nat} {q s t : Value} (h : BsR w B q s t) : w.cell? ⟨B, 92, none⟩ = some s := by rw [h.at]; rfl
set_option maxRecDepth 100000 in
theorem BsR.t {w : World} {B : Nat} {q s t : Value} (h : BsR w B q s t) : w.cell? ⟨B, 256, none⟩ = some t := by rw [h.at]; rfl
theorem BsR.no {w : World} {B : Nat} {q s t : Value} (h : BsR w B q s t) (c : Nat) (hc : c < 256) (h1 : c ≠ 34) (h2 : c ≠ 92) : w.cell? ⟨B, c, none⟩ = some (.slice none 0 0) := by
  rw [h.at, rcells]
  by_cases a : c < 34
  · rw [List.getElem?_append_left (by rw [nils_len]; exact a)]
    exact nils_at 34 c a
  · rw [List.getElem?_append_right (by rw [nils_len]; omega), nils_len]
    obtain ⟨d, rfl⟩ : ∃ d, c = 34 + (d + 1) := ⟨c - 35, by omega⟩
    rw [show 34 + (d + 1) - 34 = d + 1 by omega, List.getElem?_cons_succ]
    by_cases b : d < 57
    · rw [List.getElem?_append_left (by rw [nils_len]; exact b)]
      exact nils_at 57 d b
    · rw [List.getElem?_append_right (by rw [nils_len]; omega), nils_len]
      obtain ⟨e, rfl⟩ : ∃ e, d = 57 + (e + 1) := ⟨d - 58, by omega⟩
      rw [show 57 + (e + 1) - 57 = e + 1 by omega, List.getElem?_cons_succ, List.getElem?_append_left (by rw [nils_len]; omega)]
      exact nils_at 163 e (by omega)
theorem BsR.froz {w : World} {B : Nat} {q s t : Value} (h : BsR w B q s t) (j : Nat) : w.frozen? ⟨B, j, none⟩ = false := frozen_of_row _ _ _ _ _ h
theorem BsR.below {w w' : World} {B S : Nat} {q s t : Value} (h : BsR w B q s t) (hb : Below S w w') (hp : B < S) : BsR w' B q s t := by unfold BsR; rw [hb.block _ hp]; exact h
set_option maxRecDepth 100000 in
theorem BsR.setQ {w : World} {B : Nat} {q s t : Value} (h : BsR w B q s t) (x : Value) : BsR (w.setCell ⟨B, 34, none⟩ x) B x s t := by
  have := heap_setCell_same w B 34 _ _ x h
  rw [show (rcells q s t).toArray.setIfInBounds 34 x = (rcells x s t).toArray from rfl] at this
  exact this
set_option maxRecDepth 100000 in
theorem BsR.setS {w : World} {B : Nat} {q s t : Value} (h : BsR w B q s t) (x : Value) : BsR (w.setCell ⟨B, 92, none⟩ x) B q x t := by
  have := heap_setCell_same w B 92 _ _ x h
  rw [show (rcells q s t).toArray.setIfInBounds 92 x = (rcells q x t).toArray from rfl] at this
  exact this
set_option maxRecDepth 100000 in
theorem BsR.setT {w : World} {B : Nat} {q s t : Value} (h : BsR w B q s t) (x : Value) : BsR (w.setCell ⟨B, 256, none⟩ x) B q s x := by
  have := heap_setCell_same w B 256 _ _ x h
  rw [show (rcells q s t).toArray.setIfInBounds 256 x = (rcells q s x).toArray from rfl] at this
  exact this
set_option maxRecDepth 100000 in
theorem zero100 (w : World) : (zeroValue 100).run Tryz.prog w = .ok (.agg (rcells (.slice none 0 0) (.slice none 0 0) (.slice none 0 0)).toArray) w := by kernel_rfl
set_option maxRecDepth 100000 in
theorem load100 : (Tryz.prog.info? 100).map (·.size) = some 257 := by kernel_rfl
set_option maxRecDepth 100000 in
theorem run_build100 (t : Value) (ht : ∃ g n c, t = .slice g n c) (w : World) : (Instr.build 100 #[(1, t)]).run Tryz.prog w = .ok (.agg (rcells (.slice none 0 0) (.slice none 0 0) t).toArray) w := by
  obtain ⟨g, n, c, rfl⟩ := ht
  kernel_rfl
theorem rcells_one {q s t : Value} (hq : q.oneCell' = true) (hs : s.oneCell' = true) (ht : t.oneCell' = true) : ∀ v ∈ rcells q s t, v.oneCell' = true := by
  intro v hv
  simp only [rcells, List.mem_append, List.mem_cons, List.not_mem_nil, or_false] at hv
  rcases hv with hv | rfl | hv | rfl | hv | rfl
  · exact nils_one _ _ hv
  · exact hq
  · exact nils_one _ _ hv
  · exact hs
  · exact nils_one _ _ hv
  · exact ht
theorem all_oneCellZ {X : List Value} (h : ∀ v ∈ X, v.oneCell' = true) : X.toArray.all (·.oneCell') = true := by
  rw [Array.all_eq_true]
  intro i hi
  exact h _ (by simp)
/-- the algorithm's value is built -/
theorem build_bs {w : World} {ops : Array Oper} {rest : List Oper} {op : Oper} {a : Act} {Q : Exit → Act → World → Prop} (hgd : op.guard = none) (x : Operand) (ho : op.op = .build 100 #[(1, x)]) {t : Value} (hx : a.eval x = t) (ht : ∃ g n c, t = .slice g n c)
    (h : wpList Tryz.prog ops Q rest (a.put op.dst (.agg (rcells (.slice none 0 0) (.slice none 0 0) t).toArray)) w) : wpList Tryz.prog ops Q (op :: rest) a w := by
  refine wpList_plain hgd fun K hK => ?_
  unfold Oper.wp
  simp [execOp, ho, hx, run_build100 t ht w, Result.andThen]
  exact hK _ _ h
theorem alloc_bs {w : World} {ops : Array Oper} {rest : List Oper} {op : Oper} {a : Act} {Q : Exit → Act → World → Prop} (hgd : op.guard = none) (ho : op.op = .alloc 100)
    (h : wpList Tryz.prog ops Q rest (a.put op.dst (.pointer (some ⟨w.heap.size, 0, none⟩))) (w.alloc (.cells (rcells (.slice none 0 0) (.slice none 0 0) (.slice none 0 0)).toArray 100))) : wpList Tryz.prog ops Q (op :: rest) a w := by
  refine wpList_plain hgd fun K hK => ?_
  have hz := zero100 w
  unfold Oper.wp
  simp [execOp, ho, hz, Sem.run_bind, Result.andThen, go_sem]
  exact hK _ _ h
theorem store_bs {w : World} {ops : Array Oper} {rest : List Oper} {op : Oper} {a : Act} {Q : Exit → Act → World → Prop} (hgd : op.guard = none) (x y : Operand) (ho : op.op = .store 100 x y) {Z X : List Value}
    (hx : a.eval x = .pointer (some ⟨w.heap.size, 0, none⟩)) (hy : a.eval y = .agg X.toArray) (hZ : Z.length = 257) (hX : X.length = 257) (h1 : ∀ v ∈ X, v.oneCell' = true)
    (h : wpList Tryz.prog ops Q rest (a.put op.dst undef) (w.alloc (.cells X.toArray 100))) : wpList Tryz.prog ops Q (op :: rest) a (w.alloc (.cells Z.toArray 100)) := by
  refine wpList_store_row hgd 100 x y ho w.heap.size _ hx hy 100 Z.toArray (heap_alloc_new w _) (by rw [load100]; simp [hX]) (by simp [hX, hZ]) (all_oneCellZ h1) ?_
  rw [World.setRow_alloc_new]
  exact h

theorem BsR.grown {w w' : World} {B : Nat} {q s t : Value} (h : BsR w B q s t) {row : Option Nat} (hg : w.grownBy w' row) (hn : row ≠ some B) : BsR w' B q s t := by unfold BsR; rw [hg.block B h.lt (fun e => hn e.symm)]; exact h
/-- bytes at a block's beginning -/
def CellB (w : World) (g : Nat) (l : List Nat) : Prop := ∀ j (h : j < l.length), w.cell? ⟨g, j, none⟩ = some (.int .u8 (l[j] : Nat))
theorem CellB.below {w w' : World} {g S : Nat} {l : List Nat} (h : CellB w g l) (hb : Below S w w') (hg : g < S) : CellB w' g l := fun j hj => (hb.cell (p := ⟨g, j, none⟩) hg).trans (h j hj)
theorem run_one (c : UInt8) (W : World) : (convert 27 9 (.slice (some ⟨W.heap.size, 0, none⟩) 1 1)).run Tryz.prog (W.alloc (.cells #[.int .u8 (c.toNat : Int)] 5)) = .ok (.string ⟨#[c]⟩) (W.alloc (.cells #[.int .u8 (c.toNat : Int)] 5)) :=
  run_convert_bytes_back _ 27 9 5 ⟨W.heap.size, 0, none⟩ 1 [c] Tryz.underlying27 Tryz.underlying5 Tryz.underlying9 (fun j hj => by
    have : j = 0 := by simpa using hj
    subst this
    rw [Addr.add_lit, Nat.zero_add, cell_of_row _ _ 0 _ _ _ (heap_alloc_new W _)]
    rfl)
theorem run_34 (W : World) : (convert 27 9 (.slice (some ⟨W.heap.size, 0, none⟩) 1 1)).run Tryz.prog (W.alloc (.cells #[.int .u8 34] 5)) = .ok (.string ⟨#[34]⟩) (W.alloc (.cells #[.int .u8 34] 5)) := run_one 34 W
theorem run_92 (W : World) : (convert 27 9 (.slice (some ⟨W.heap.size, 0, none⟩) 1 1)).run Tryz.prog (W.alloc (.cells #[.int .u8 92] 5)) = .ok (.string ⟨#[92]⟩) (W.alloc (.cells #[.int .u8 92] 5)) := run_one 92 W
open Go.Lib in
theorem run_txt2 (s : ByteArray) (hs : s.size = 2) (W : World) : ∃ cq w', (convert 9 27 (.string s)).run Tryz.prog W = .ok (.slice (some ⟨W.heap.size, 0, none⟩) 2 cq) w' ∧ Below W.heap.size W w' ∧ W.heap.size < w'.heap.size ∧ CellB w' W.heap.size (s.data.toList.map UInt8.toNat) := by
  refine ⟨grownCap W s.size 0 5, bytesWorld W 5 s, ?_, ⟨rfl, rfl, rfl, by rw [bytesWorld_size]; omega, fun i hi => bytesWorld_at_old W 5 s i hi⟩, by rw [bytesWorld_size]; omega, fun j h => ?_⟩
  · have := Lib.run_convert_string_bytes W 9 27 5 s Tryz.underlying9 Tryz.underlying27 Tryz.underlying5
    rw [hs] at this ⊢
    exact this
  · have hj : j < s.size := by
      have : (s.data.toList.map UInt8.toNat).length = s.size := by rw [List.length_map]; rfl
      omega
    rw [bytesWorld_cell W 5 s j hj]
    have hl : j < s.data.toList.length := by simpa using h
    simp [List.getD, List.getElem?_eq_getElem hl]
theorem cell_lit (W : World) (a : Value) (t : TypeId) : (W.alloc (.cells #[a] t)).cell? ⟨W.heap.size, 0, none⟩ = some a := cell_of_row _ _ 0 _ _ _ (heap_alloc_new W _)
theorem owns_setZ {w : World} {C : Nat} {e : TypeId} {size n : Nat} {u : Value} {xs : List Value} (h : w.ownsRow C e size u n xs) {B j : Nat} (hn : u.ownBlock ≠ some B) {v : Value} : (w.setCell ⟨B, j, none⟩ v).ownsRow C e size u n xs := by
  refine ⟨h.1, ?_⟩
  rcases h.2 with h2 | ⟨g, cap, cur, rfl, hg, hh, r⟩
  · exact .inl h2
  · exact .inr ⟨g, cap, cur, rfl, hg, by rw [Below.heap_setCell _ _ _ _ (fun e => hn (by simp [Value.ownBlock]; exact e))]; exact hh, r⟩
theorem lit_cells (W : World) (A : Obj) (x : ByteArray) : ∀ j (h : j < [x].length), ((W.alloc A).alloc (.cells #[.string x] 9)).cell? ⟨W.heap.size + 1, j, none⟩ = some (.string [x][j]) := by
  intro j h
  have : j = 0 := by simpa using h
  subst this
  have e := heap_alloc_new (W.alloc A) (.cells #[.string x] 9)
  rw [World.size_alloc] at e
  exact cell_of_row _ _ 0 _ _ _ e

end Go.Proofs.YtghibofnfjnfcaaGreatDoor
