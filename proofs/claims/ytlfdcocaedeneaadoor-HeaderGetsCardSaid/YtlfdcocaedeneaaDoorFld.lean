/-
  A field in its block: its name, its builder (two cells, the text in a row of its own), its lines in a row of its own; the builder's Write.
-/
import Derived.Test.YtlfdcocaedeneaaDoorName
import Derived.Laws.EntriesVeiled
import Derived.Lib.Builder
import Derived.Lib.OthersKept
import Derived.Lib.FrozenHead2
import Derived.Maps.AppendAt
namespace Go.Proofs.YtlfdcocaedeneaaDoor
set_option linter.unusedVariables false
open Go.RowKit Go.Lib

theorem info55 : (Tryd.prog.info? 55).map (·.size) = some 2 := by kernel_rfl
theorem lies55 : liesAt Tryd.prog Tryd.prog.depth 57 (4 / Tryd.prog.cellsOf 57) 1 55 1 = true := by kernel_rfl

/-- the field in block g: a, v its builder's cells, r its lines' cell; T the text, R the lines; their rows lie at or above B -/
structure FldC (a v r : Value) (w : World) (g B : Nat) (nm : ByteArray) (T R : List Nat) : Prop where
  row : w.heap[g]? = some (.cells #[.string nm, a, v, r] 57 (0, 0))
  own : OwnB w B v T
  raw : OwnB w B r R
  ne : ∀ k, v.ownBlock = some k → r.ownBlock ≠ some k
  base : B ≤ g
def FldAt (w : World) (g B : Nat) (nm : ByteArray) (T R : List Nat) : Prop := ∃ a v r, (a = .pointer none ∨ a = .pointer (some ⟨g, 1, none⟩)) ∧ FldC a v r w g B nm T R

/-- a row of bytes lies in no field's block -/
theorem ownB_ne {w : World} {B g : Nat} {v : Value} {l : List Nat} {C : Array Value} (h : OwnB w B v l) (hg : w.heap[g]? = some (.cells C 57 (0, 0))) : v.ownBlock ≠ some g := by
  intro e
  rcases h.2 with ⟨rfl, _⟩ | ⟨b, cap, cur, rfl, _, hh, _⟩
  · simp [Value.ownBlock] at e
  · simp [Value.ownBlock] at e
    subst e
    rw [hg] at hh
    simp at hh
/-- a row of bytes in another block -/
theorem ownB_turn {w w' : World} {B : Nat} {v : Value} {l : List Nat} (h : OwnB w B v l) {row : Option Nat} (hg : w.grownBy w' row) (hne : ∀ k, v.ownBlock = some k → row ≠ some k) : OwnB w' B v l := by
  refine ⟨h.1, ?_⟩
  rcases h.2 with h2 | ⟨b, cap, cur, rfl, hb, hh, r⟩
  · exact .inl h2
  · refine .inr ⟨b, cap, cur, rfl, hb, ?_, r⟩
    rw [hg.block b (Array.getElem?_eq_some_iff.1 hh).1 (fun e => hne b rfl e.symm)]
    exact hh

theorem grownBy_set (W : World) (b j : Nat) (v : Value) : W.grownBy (W.setCell ⟨b, j, none⟩ v) (some b) := ⟨rfl, rfl, rfl, by simp [World.setCell], fun k _ hk => Below.heap_setCell W _ v k (fun e => hk (by rw [e]))⟩

theorem FldC.at {a v r : Value} {w : World} {g B : Nat} {nm : ByteArray} {T R : List Nat} (k : FldC a v r w g B nm T R) :
    w.cell? ⟨g, 0, none⟩ = some (.string nm) ∧ w.cell? ⟨g, 1, none⟩ = some a ∧ w.cell? ⟨g, 2, none⟩ = some v ∧ w.cell? ⟨g, 3, none⟩ = some r ∧
    w.frozen? ⟨g, 1, none⟩ = false ∧ w.frozen? ⟨g, 2, none⟩ = false ∧ w.frozen? ⟨g, 3, none⟩ = false ∧ w.shape? g = some (57, 4) := by
  have c : ∀ j, w.cell? ⟨g, j, none⟩ = (#[.string nm, a, v, r] : Array Value)[j]? := fun j => cell_of_row _ _ j _ 57 (0, 0) k.row
  have x : ∀ j, w.frozen? ⟨g, j, none⟩ = false := fun j => frozen_of_row _ _ _ _ _ k.row
  exact ⟨c 0, c 1, c 2, c 3, x 1, x 2, x 3, by simp [World.shape?, k.row]⟩
theorem FldC.lt {a v r : Value} {w : World} {g B : Nat} {nm : ByteArray} {T R : List Nat} (k : FldC a v r w g B nm T R) : g < w.heap.size := (Array.getElem?_eq_some_iff.1 k.row).1
theorem FldC.set1 {a v r : Value} {w : World} {g B : Nat} {nm : ByteArray} {T R : List Nat} (k : FldC a v r w g B nm T R) (u : Value) : FldC u v r (w.setCell ⟨g, 1, none⟩ u) g B nm T R :=
  ⟨heap_setCell_same w g 1 _ _ _ k.row, ownB_turn k.own (grownBy_set w g 1 u) (fun j e h => ownB_ne k.own k.row (by rw [e]; exact h.symm)), ownB_turn k.raw (grownBy_set w g 1 u) (fun j e h => ownB_ne k.raw k.row (by rw [e]; exact h.symm)), k.ne, k.base⟩

set_option maxHeartbeats 1000000 in
set_option maxRecDepth 100000 in
/-- copyCheck: behind it the builder knows where it lies -/
theorem check_any (a v r : Value) (g B : Nat) (nm : ByteArray) (T R : List Nat) (w : World) (h : FldC a v r w g B nm T R) (ha : a = .pointer none ∨ a = .pointer (some ⟨g, 1, none⟩)) :
    Calls Tryd.prog 57 #[.pointer (some ⟨g, 1, none⟩)] w fun e w' => e = .returned (.tuple #[]) ∧ FldC (.pointer (some ⟨g, 1, none⟩)) v r w' g B nm T R ∧ w.grownBy w' (some g) ∧ w'.heap.size = w.heap.size := by
  obtain ⟨j, hj, hjs⟩ := Option.map_eq_some_iff.1 info55
  obtain ⟨c0, c1, c2, c3, x1, x2, x3, hsh⟩ := h.at
  rcases ha with rfl | rfl
  · have H := Lib.hid h
    clear h
    go_enter Tryd.func57, Tryd.ntmps57
    go_wp2
    rw [Lib.run_to_unsafe w ⟨g, 1, none⟩ Tryd.underlying53 Tryd.underlying86 hj (by rw [hjs]; decide) hsh (by decide : (1 : Nat) < 4)]
    simp only [Result.andThen]
    rw [Oper.upon_value]
    go_wp2
    rw [run_callFunc_extern Tryd.func63 (by kernel_rfl) (by kernel_rfl) (by kernel_rfl) (e := Extern.AbiNoEscape.same) (by kernel_rfl)]
    rw [Lib.run_noEscape]
    simp only [Result.andThen]
    rw [Oper.upon_value]
    go_wp2
    rw [Lib.run_from_unsafe w ⟨g, 1, none⟩ Tryd.underlying86 Tryd.underlying53 hj hsh lies55]
    simp only [Result.andThen]
    rw [Oper.upon_value]
    go_wp2
    go_end0
    exact ⟨rfl, H.out.set1 _, grownBy_set w g 1 _, by simp [World.setCell]⟩
  · have H := Lib.hid h
    clear h
    go_enter Tryd.func57, Tryd.ntmps57
    go_wp2
    rw [Lib.run_neq_ptr_same w _ Tryd.underlying53 hj]
    go_wp2
    go_end0
    exact ⟨rfl, H.out, World.grownBy.refl _ _, rfl⟩

/-- where a row lies behind an append: where it lay, or in a new block -/
def Moved (h h' : Value) (w : World) : Prop := h'.ownBlock = h.ownBlock ∨ ∀ g, h'.ownBlock = some g → w.heap.size ≤ g
theorem run_app {w : World} {B : Nat} {v u : Value} {l m : List Nat} (ty : TypeId) (hown : OwnB w B v l) (hr : RowB w u m) (hB : B ≤ w.heap.size) (hlen : l.length + m.length ≤ 140737488355328) :
    ∃ v' w', (Builtin.append_ #[22, 22] ty #[v, u]).run Tryd.prog w = .ok v' w' ∧ OwnB w' B v' (l ++ m) ∧ w.grownBy w' v.ownBlock ∧ Moved v v' w := by
  obtain ⟨i0, hi, hz0, hz1, hz2⟩ := info_parts Tryd.info5
  obtain ⟨ad, len, cap, rfl, hl, hc, hm, hw, hn, hcell⟩ := hr
  cases ad with
  | none =>
    obtain ⟨rfl, rfl⟩ := hn rfl
    obtain rfl : m = [] := List.eq_nil_of_length_eq_zero hl
    exact ⟨v, w, run_append_owned_none (P := Tryd.prog) w B 22 ty 5 i0 1 Tryd.underlying22 hi v l.length (u8s l) hown, by rw [List.append_nil]; exact hown, World.grownBy.refl _ _, .inl rfl⟩
  | some x =>
    obtain ⟨v', w', h1, h2, h3, _, h5⟩ := run_append_own_at (P := Tryd.prog) w B 22 ty 5 i0 (.int .u8 0) 1 1 Tryd.underlying22 hi hz0 hz1 hz2 rfl (by decide) v l.length (u8s l) hown x len cap (u8s m) (by simp [hl])
      (fun j q hj => by
        have hjl : j < m.length := by have := (List.getElem?_eq_some_iff.1 hj).1; simpa using this
        rw [u8s_get m j hjl] at hj
        cases hj
        exact hcell x rfl j hjl)
      (fun q hq => by obtain ⟨_, _, rfl⟩ := List.mem_map.1 hq; rfl) (by simp [maxLen]; omega) (by omega) hB
    refine ⟨v', w', h1, ?_, h3, ?_⟩
    · unfold OwnB
      rw [u8s_append, List.length_append, hl]
      exact h2
    · rcases h5 with h | h
      · exact .inl h
      · exact .inr fun g hg => by rw [h] at hg; cases hg; exact Nat.le_refl _

theorem applw {ops : Array Oper} {rest : List Oper} {o : Oper} {a : Act} {Q : Exit → Act → World → Prop} (hgd : o.guard = none) (s x : Operand)
    (ho : o.op = .call { callee := .builtin .append, args := #[s, x], argTypes := #[22, 22] })
    {w : World} {B : Nat} {v u : Value} {l m : List Nat} (hown : OwnB w B v l) (hr : RowB w u m) (hB : B ≤ w.heap.size)
    (hs : a.eval s = v) (hx : a.eval x = u) (hlen : l.length + m.length ≤ 140737488355328)
    (h : ∀ o' w2, OwnB w2 B o' (l ++ m) → w.grownBy w2 v.ownBlock → Moved v o' w → wpList Tryd.prog ops Q rest (a.put o.dst o') w2) :
    wpList Tryd.prog ops Q (o :: rest) a w := by
  obtain ⟨v', w', hrun, h1, h2, h3⟩ := run_app o.type hown hr hB hlen
  refine wpList_plain hgd fun K hK => ?_
  unfold Oper.wp
  simp [execOp, ho, resolve, invoke, builtin, hs, hx, hrun, Result.andThen]
  exact hK _ _ (h _ _ h1 h2 h3)

/-- what turns while the field in block g is written: nothing below B, no block but g and rows of bytes -/
def Fr (B g : Nat) (w w' : World) : Prop := Below B w w' ∧ OthersKept 5 (some g) w w'
theorem Fr.refl (B g : Nat) (w : World) : Fr B g w w := ⟨Below.refl _ _, OthersKept.refl _ _ _⟩
theorem Fr.trans {B g : Nat} {a b c : World} (h : Fr B g a b) (k : Fr B g b c) : Fr B g a c := ⟨h.1.trans k.1, h.2.trans k.2⟩
theorem Fr.turn {B g : Nat} {a w w' : World} (h : Fr B g a w) (hB : B ≤ g) (hs : B ≤ w.heap.size) (hg : w.grownBy w' (some g)) : Fr B g a w' :=
  ⟨h.1.grown hg hs (fun k e => by cases e; exact hB), fun k o hk hb hx => by
    have h1 := h.2 k o hk hb hx
    rw [hg.block k (Array.getElem?_eq_some_iff.1 h1).1 hb]
    exact h1⟩
theorem Fr.app {B g : Nat} {a w w' : World} {v : Value} {l : List Nat} (h : Fr B g a w) (hs : B ≤ w.heap.size) (ho : OwnB w B v l) (hg : w.grownBy w' v.ownBlock) : Fr B g a w' :=
  ⟨h.1.grown hg hs ho.ownLe, h.2.grown hg (fun k hk => by
    rcases ho.2 with ⟨rfl, _⟩ | ⟨b, cap, cur, rfl, _, hh, _⟩
    · simp [Value.ownBlock] at hk
    · simp [Value.ownBlock] at hk
      subst hk
      exact ⟨cur, (0, 0), hh⟩)⟩

theorem ownB_lt {w : World} {B : Nat} {v : Value} {l : List Nat} (h : OwnB w B v l) : ∀ k, v.ownBlock = some k → k < w.heap.size := by
  intro k hk
  rcases h.2 with ⟨rfl, _⟩ | ⟨b, cap, cur, rfl, _, hh, _⟩
  · simp [Value.ownBlock] at hk
  · simp [Value.ownBlock] at hk
    subst hk
    exact (Array.getElem?_eq_some_iff.1 hh).1

/-- behind an append to the builder's row -/
theorem FldC.app {a v r v' : Value} {w w' : World} {g B : Nat} {nm : ByteArray} {T R m : List Nat} (k : FldC a v r w g B nm T R) (ho : OwnB w' B v' (T ++ m)) (hg : w.grownBy w' v.ownBlock) (hm : Moved v v' w) :
    FldC a v' r (w'.setCell ⟨g, 2, none⟩ v') g B nm (T ++ m) R := by
  have hrow : w'.heap[g]? = some (.cells #[.string nm, a, v, r] 57 (0, 0)) := (hg.block g k.lt (fun e => ownB_ne k.own k.row e.symm)).trans k.row
  have hraw : OwnB w' B r R := ownB_turn k.raw hg (fun j e h => k.ne j h e)
  refine ⟨heap_setCell_same w' g 2 _ _ _ hrow, ownB_turn ho (grownBy_set w' g 2 v') (fun j e h => ownB_ne ho hrow (by rw [e]; exact h.symm)), ownB_turn hraw (grownBy_set w' g 2 v') (fun j e h => ownB_ne hraw hrow (by rw [e]; exact h.symm)), fun j e h => ?_, k.base⟩
  rcases hm with hm | hm
  · rw [hm] at e
    exact k.ne j e h
  · have h1 := hm j e
    have h2 := ownB_lt k.raw j h
    omega
/-- behind an append to the lines' row -/
theorem FldC.apr {a v r r' : Value} {w w' : World} {g B : Nat} {nm : ByteArray} {T R m : List Nat} (k : FldC a v r w g B nm T R) (ho : OwnB w' B r' (R ++ m)) (hg : w.grownBy w' r.ownBlock) (hm : Moved r r' w) :
    FldC a v r' (w'.setCell ⟨g, 3, none⟩ r') g B nm T (R ++ m) := by
  have hrow : w'.heap[g]? = some (.cells #[.string nm, a, v, r] 57 (0, 0)) := (hg.block g k.lt (fun e => ownB_ne k.raw k.row e.symm)).trans k.row
  have hown : OwnB w' B v T := ownB_turn k.own hg (fun j e h => k.ne j e h)
  refine ⟨heap_setCell_same w' g 3 _ _ _ hrow, ownB_turn hown (grownBy_set w' g 3 r') (fun j e h => ownB_ne hown hrow (by rw [e]; exact h.symm)), ownB_turn ho (grownBy_set w' g 3 r') (fun j e h => ownB_ne ho hrow (by rw [e]; exact h.symm)), fun j e h => ?_, k.base⟩
  rcases hm with hm | hm
  · rw [hm] at h
    exact k.ne j e h
  · have h1 := hm j h
    have h2 := ownB_lt k.own j e
    omega

set_option maxHeartbeats 1000000 in
set_option maxRecDepth 100000 in
/-- the builder's Write -/
theorem write_any (g B lb lo cap : Nat) (nm : ByteArray) (T R m : List Nat) (w : World) (h : FldAt w g B nm T R) (hc : CellsL w lb lo m) (hmc : m.length ≤ cap) (hcm : cap ≤ maxLen) (hlt : ∀ n ∈ m, n < 256) (hlb : m ≠ [] → lb < B) (hl : T.length + m.length ≤ 140737488355328) :
    Calls Tryd.prog 43 #[.pointer (some ⟨g, 1, none⟩), .slice (some ⟨lb, lo, none⟩) m.length cap] w fun e w' => e = .returned (.tuple #[.int .i64 (m.length : Nat), .nilIface]) ∧ FldAt w' g B nm (T ++ m) R ∧ Fr B g w w' := by
  obtain ⟨a, v, r, ha, hf⟩ := h
  have HCK := Lib.hid (check_any a v r g B nm T R w hf ha)
  have hgl := hf.lt
  have hbase := hf.base
  have HC := Lib.hid hc
  have HLB := Lib.hid hlb
  have HLT := Lib.hid hlt
  clear ha hf hc hlb hlt
  go_enter Tryd.func43, Tryd.ntmps43
  go_wp2_with fail
  refine HCK.out.mono ?_
  rintro e w1 ⟨rfl, hf, hgr, hsz⟩
  have hrow := (HC.out.kept (n₀ := B) ((Below.refl B w).grown hgr (by omega) (fun k e => by cases e; omega)) HLB.out).row hmc hcm HLT.out
  obtain ⟨c0, c1, c2, c3, x1, x2, x3, _⟩ := hf.at
  have HF := Lib.hid hf
  have HR := Lib.hid hrow
  have HG := Lib.hid hgr
  clear hf hgr hrow
  go_wp2_with (at_builtin; go_loud (refine applw rfl (.tmp 12) (.tmp 13) rfl HF.out.own HR.out (by omega) rfl rfl hl ?_); intro o2 w2 ho2 hg2 hm2; obtain ⟨oa, oc, rfl⟩ := ho2.shape; simp only [List.length_append] at ho2 hm2; have hx2 : w2.cell? ⟨g, 1, none⟩ = some (.pointer (some ⟨g, 1, none⟩)) := (World.cell?_of_block (hg2.block g HF.out.lt (fun e => ownB_ne HF.out.own HF.out.row e.symm))).trans c1; have hx3 : w2.cell? ⟨g, 2, none⟩ = some v := (World.cell?_of_block (hg2.block g HF.out.lt (fun e => ownB_ne HF.out.own HF.out.row e.symm))).trans c2; have hx4 : w2.frozen? ⟨g, 2, none⟩ = false := (World.frozen?_of_block (hg2.block g HF.out.lt (fun e => ownB_ne HF.out.own HF.out.row e.symm))).trans x2; have HO2 := Lib.hid ho2; have HG2 := Lib.hid hg2; have HM2 := Lib.hid hm2; clear ho2 hg2 hm2)
  refine bodyPost_ret (v := .tuple #[.int .i64 (m.length : Nat), .nilIface]) (by simp [results, Tryd.results43, go_sem]) rfl ?_
  refine ⟨rfl, ⟨_, _, _, .inr rfl, HF.out.app HO2.out HG2.out HM2.out⟩, ?_⟩
  have hs2 := HG2.out.size
  exact (((Fr.refl B g w).turn hbase (by omega) HG.out).app (by omega) HF.out.own HG2.out).turn hbase (by omega) (grownBy_set w2 g 2 _)
end Go.Proofs.YtlfdcocaedeneaaDoor
