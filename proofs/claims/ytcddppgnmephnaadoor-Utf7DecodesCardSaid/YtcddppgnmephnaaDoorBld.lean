/-
  The program's writer in its block (a strings.Builder is its first field): copyCheck, WriteByte, String.
-/
import Derived.Test.YtcddppgnmephnaaDoorRows
import Derived.Test.YtcddppgnmephnaaDoorWr
import Derived.WalkKit
import Derived.ProofKit
import Derived.OpenShut
import Derived.ShutString
import Derived.ChangeOld
import Derived.Below
import Derived.Lib.Hide
import Derived.Outline
import Derived.WalkSmall
import Derived.BigQuiet
import Derived.Deep.QuietTactic
import Derived.Deep.RegionHeld3
import Derived.Laws.EntriesVeiled
import Derived.WalkSpells
import Derived.IntWalk
import Derived.Lib.Builder
import Derived.Lib.FrozenHead2
import Derived.Lib.OthersKept
namespace Go.Proofs.YtcddppgnmephnaaDoor
set_option linter.unusedVariables false
open Go.RowKit Go.Lib

theorem info5 : (Tryd.prog.info? 5).map (fun i => (i.zero, i.size, i.bytes)) = some (some (.int .u8 0), 1, 1) := by kernel_rfl
theorem info33 : (Tryd.prog.info? 33).map (·.size) = some 2 := by kernel_rfl
theorem lies33 : liesAt Tryd.prog Tryd.prog.depth 36 (5 / Tryd.prog.cellsOf 36) 0 33 1 = true := by kernel_rfl
theorem cells5 : Tryd.prog.cellsOf 5 = 1 := by kernel_rfl

/-- what turns while a writer in block p is written: nothing below B, no block but p and rows of bytes -/
def Fr (B p : Nat) (w w' : World) : Prop := Below B w w' ∧ OthersKept 5 (some p) w w'
theorem Fr.refl (B p : Nat) (w : World) : Fr B p w w := ⟨Below.refl _ _, OthersKept.refl _ _ _⟩
theorem Fr.trans {B p : Nat} {a b c : World} (h : Fr B p a b) (k : Fr B p b c) : Fr B p a c := ⟨h.1.trans k.1, h.2.trans k.2⟩
theorem Fr.set {B p j : Nat} {a w : World} (h : Fr B p a w) (hB : B ≤ p) (v : Value) : Fr B p a (w.setCell ⟨p, j, none⟩ v) := ⟨h.1.setCell (p := ⟨p, j, none⟩) hB v, h.2.setCell ⟨p, j, none⟩ rfl v⟩
theorem Fr.drew {B p : Nat} {a w : World} (h : Fr B p a w) : Fr B p a w.drew := ⟨h.1.drew, h.2.drew⟩
theorem Fr.size {B p : Nat} {w w' : World} (h : Fr B p w w') : w.heap.size ≤ w'.heap.size := h.1.size

/-- the program's writer in block p; a: what its first cell holds; v: its buffer -/
structure WrC (a v : Value) (w : World) (p B : Nat) (W : Wr) : Prop where
  row : w.heap[p]? = some (.cells #[a, v, .bool W.inn, .int .u32 (W.acc : Int), .int .i64 (W.bits : Int)] 36 (0, 0))
  own : w.ownsRowF B 5 1 v W.out.length (byteCells W.out)
  ne : v.ownBlock ≠ some p
  base : B ≤ p
  nil : W.out = [] → v = .slice none 0 0
def WrAt (w : World) (p B : Nat) (W : Wr) : Prop := ∃ a v, (a = .pointer none ∨ a = .pointer (some ⟨p, 0, none⟩)) ∧ WrC a v w p B W

theorem ownF_set {w : World} {B p j n : Nat} {v u : Value} {xs : List Value} (h : w.ownsRowF B 5 1 v n xs) (hne : v.ownBlock ≠ some p) : (w.setCell ⟨p, j, none⟩ u).ownsRowF B 5 1 v n xs := by
  refine ⟨h.1, ?_⟩
  rcases h.2 with h2 | ⟨g, cap, cur, fz, rfl, hg, hh, r⟩
  · exact .inl h2
  · exact .inr ⟨g, cap, cur, fz, rfl, hg, by rw [heap_setCell_other _ _ _ _ (show g ≠ p from fun e => hne (by simp [Value.ownBlock, e]))]; exact hh, r⟩

theorem WrC.at {a v : Value} {w : World} {p B : Nat} {W : Wr} (k : WrC a v w p B W) :
    w.cell? ⟨p, 0, none⟩ = some a ∧ w.cell? ⟨p, 1, none⟩ = some v ∧ w.cell? ⟨p, 2, none⟩ = some (.bool W.inn) ∧ w.cell? ⟨p, 3, none⟩ = some (.int .u32 (W.acc : Int)) ∧ w.cell? ⟨p, 4, none⟩ = some (.int .i64 (W.bits : Int)) ∧
    w.frozen? ⟨p, 0, none⟩ = false ∧ w.frozen? ⟨p, 1, none⟩ = false ∧ w.frozen? ⟨p, 2, none⟩ = false ∧ w.frozen? ⟨p, 3, none⟩ = false ∧ w.frozen? ⟨p, 4, none⟩ = false ∧ w.shape? p = some (36, 5) := by
  have c : ∀ j, w.cell? ⟨p, j, none⟩ = (#[a, v, .bool W.inn, .int .u32 (W.acc : Int), .int .i64 (W.bits : Int)] : Array Value)[j]? := fun j => cell_of_row _ _ j _ 36 (0, 0) k.row
  have x : ∀ j, w.frozen? ⟨p, j, none⟩ = false := fun j => frozen_of_row _ _ _ _ _ k.row
  exact ⟨c 0, c 1, c 2, c 3, c 4, x 0, x 1, x 2, x 3, x 4, by simp [World.shape?, k.row]⟩
theorem WrC.lt {a v : Value} {w : World} {p B : Nat} {W : Wr} (k : WrC a v w p B W) : p < w.heap.size := (Array.getElem?_eq_some_iff.1 k.row).1
theorem WrC.set0 {a v : Value} {w : World} {p B : Nat} {W : Wr} (k : WrC a v w p B W) (u : Value) : WrC u v (w.setCell ⟨p, 0, none⟩ u) p B W := ⟨heap_setCell_same w p 0 _ _ _ k.row, ownF_set k.own k.ne, k.ne, k.base, k.nil⟩
theorem WrC.set2 {a v : Value} {w : World} {p B : Nat} {W : Wr} (k : WrC a v w p B W) (b : Bool) : WrC a v (w.setCell ⟨p, 2, none⟩ (.bool b)) p B { W with inn := b } := ⟨heap_setCell_same w p 2 _ _ _ k.row, ownF_set k.own k.ne, k.ne, k.base, k.nil⟩
theorem WrC.set3 {a v : Value} {w : World} {p B : Nat} {W : Wr} (k : WrC a v w p B W) (n : Nat) : WrC a v (w.setCell ⟨p, 3, none⟩ (.int .u32 (n : Int))) p B { W with acc := n } := ⟨heap_setCell_same w p 3 _ _ _ k.row, ownF_set k.own k.ne, k.ne, k.base, k.nil⟩
theorem WrC.set4 {a v : Value} {w : World} {p B : Nat} {W : Wr} (k : WrC a v w p B W) (n : Nat) : WrC a v (w.setCell ⟨p, 4, none⟩ (.int .i64 (n : Int))) p B { W with bits := n } := ⟨heap_setCell_same w p 4 _ _ _ k.row, ownF_set k.own k.ne, k.ne, k.base, k.nil⟩

set_option maxHeartbeats 1000000 in
set_option maxRecDepth 100000 in
/-- copyCheck: behind it the builder knows where it lies. -/
theorem copyCheck_any (a v : Value) (p B : Nat) (W : Wr) (w : World) (h : WrC a v w p B W) (ha : a = .pointer none ∨ a = .pointer (some ⟨p, 0, none⟩)) :
    Calls Tryd.prog 40 #[.pointer (some ⟨p, 0, none⟩)] w fun e w' => e = .returned (.tuple #[]) ∧ WrC (.pointer (some ⟨p, 0, none⟩)) v w' p B W ∧ Fr B p w w' := by
  obtain ⟨j, hj, hjs⟩ := Option.map_eq_some_iff.1 info33
  obtain ⟨c0, c1, c2, c3, c4, x0, x1, x2, x3, x4, hsh⟩ := h.at
  rcases ha with rfl | rfl
  · have H := Lib.hid h
    clear h
    go_enter Tryd.func40, Tryd.ntmps40
    go_wp2
    rw [Lib.run_to_unsafe w ⟨p, 0, none⟩ Tryd.underlying31 Tryd.underlying68 hj (by rw [hjs]; decide) hsh (by decide : (0 : Nat) < 5)]
    simp only [Result.andThen]
    rw [Oper.upon_value]
    go_wp2
    rw [run_callFunc_extern Tryd.func43 (by kernel_rfl) (by kernel_rfl) (by kernel_rfl) (e := Extern.AbiNoEscape.same) (by kernel_rfl)]
    rw [Lib.run_noEscape]
    simp only [Result.andThen]
    rw [Oper.upon_value]
    go_wp2
    rw [Lib.run_from_unsafe w ⟨p, 0, none⟩ Tryd.underlying68 Tryd.underlying31 hj hsh lies33]
    simp only [Result.andThen]
    rw [Oper.upon_value]
    go_wp2
    go_end0
    exact ⟨rfl, H.out.set0 _, (Fr.refl B p w).set H.out.base _⟩
  · have H := Lib.hid h
    clear h
    go_enter Tryd.func40, Tryd.ntmps40
    go_wp2
    rw [Lib.run_neq_ptr_same w _ Tryd.underlying31 hj]
    go_wp2
    go_end0
    exact ⟨rfl, H.out, Fr.refl B p w⟩

set_option maxHeartbeats 1000000 in
set_option maxRecDepth 100000 in
/-- WriteByte to the writer's builder. -/
theorem wb_any (p B : Nat) (W : Wr) (c : UInt8) (z : Int) (w : World) (h : WrAt w p B W) (hl : W.out.length + 1 ≤ 100000000) (hz : z = (c.toNat : Int)) :
    Calls Tryd.prog 33 #[.pointer (some ⟨p, 0, none⟩), .int .u8 z] w fun e w' => e = .returned .nilIface ∧ WrAt w' p B { W with out := W.out ++ [c] } ∧ Fr B p w w' := by
  obtain ⟨i0, hi, hz0, hz1, hz2⟩ := info_parts info5
  obtain ⟨a, v, ha, hc⟩ := h
  have hcc := copyCheck_any a v p B W w hc ha
  have HZ := Lib.hid hz
  clear hc hz
  go_enter Tryd.func33, Tryd.ntmps33
  go_wp2_with (go_at_call 40; refine hcc.mono ?_)
  rintro e w1 ⟨rfl, h1, hf1⟩
  obtain ⟨c0, c1, c2, c3, c4, x0, x1, x2, x3, x4, hsh⟩ := h1.at
  have HF := Lib.hid hf1
  have H1 := Lib.hid h1
  clear hf1 h1 hsh
  have hown := H1.out.own
  have hlt := H1.out.lt
  have hbase := H1.out.base
  go_wp2_with (at_builtin; refine wpList_append_ownF _ rfl _ _ 29 rfl B 5 i0 (.int .u8 0) 1 1 Tryd.underlying29 hi hz0 hz1 hz2 rfl (by decide) _ _ _ rfl (hown.alloc _) ⟨w1.heap.size, 0, none⟩ 1 1 [.int .u8 z] rfl rfl ?c1 ?c2 ?c3 ?c4 ?c5 ?_)
  case c1 =>
    intro j u hj
    match j, hj with
    | 0, hj => simp at hj; subst hj; simp [Addr.add]
  case c2 => intro u hu; simp at hu; subst hu; rfl
  case c3 => unfold maxLen; omega
  case c4 => omega
  case c5 => simp; omega
  intro v' w2 hown' hgrow _
  have hne := H1.out.ne
  have hb2 : w2.heap[p]? = some (.cells #[.pointer (some ⟨p, 0, none⟩), v, .bool W.inn, .int .u32 (W.acc : Int), .int .i64 (W.bits : Int)] 36 (0, 0)) := by
    rw [hgrow.block p (by simp; omega) (fun e => hne e.symm), Lib.alloc_old w1 _ p hlt]
    exact H1.out.row
  have d0 : w2.cell? ⟨p, 0, none⟩ = some (.pointer (some ⟨p, 0, none⟩)) := by rw [Lib.cell_of_heap hb2]; rfl
  have d1 : w2.cell? ⟨p, 1, none⟩ = some v := by rw [Lib.cell_of_heap hb2]; rfl
  have f1 : w2.frozen? ⟨p, 1, none⟩ = false := Lib.frozen_of_heap hb2 1
  have hne' : v'.ownBlock ≠ some p := ownBlock_neF hown' hb2 (by decide)
  obtain ⟨g, cap, rfl⟩ : ∃ g cap, v' = .slice (some ⟨g, 0, none⟩) (W.out.length + 1) cap := by
    rcases hown'.2 with ⟨_, h0⟩ | ⟨g, cap, cur, fz, hv, _⟩
    · omega
    · exact ⟨g, cap, hv⟩
  go_wp2
  go_ret
  have hfr : Fr B p w1 w2 := ⟨((Below.refl B w1).alloc (by omega) _).grown hgrow (by simp; omega) (fun k hk => (hown.lt k hk).1), ((OthersKept.refl 5 (some p) w1).alloc _).grown hgrow (Lib.ownsRowF_kind (hown.alloc _))⟩
  refine ⟨rfl, ⟨_, _, .inr rfl, ⟨heap_setCell_same w2 p 1 _ _ _ hb2, ?_, hne', hbase, fun e => by simp at e⟩⟩, HF.out.trans (hfr.set hbase _)⟩
  have e : byteCells (W.out ++ [c]) = byteCells W.out ++ [.int .u8 z] := by rw [Lib.byteCells_append, HZ.out]; rfl
  simp only [List.length_append, List.length_singleton, e]
  exact ownF_set hown' hne'
end Go.Proofs.YtcddppgnmephnaaDoor
