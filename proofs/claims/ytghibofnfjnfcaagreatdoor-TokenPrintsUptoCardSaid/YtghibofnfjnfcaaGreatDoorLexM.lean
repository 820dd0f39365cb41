/-
  A lexer in its block; what its methods leave alone.
-/
import Derived.Test.YtghibofnfjnfcaaGreatDoorSign
import Derived.Maps.AppendAt
import Derived.Deep.DeepCutAuto
import Derived.Deep.RegionHeld3
namespace Go.Proofs.YtghibofnfjnfcaaGreatDoor
set_option linter.unusedVariables false
open Go.RowKit

/-- a row that lies where the elder one lay, or in a block that is new, or nowhere -/
def Moved (h h' : Value) (w : World) : Prop := h'.ownBlock = h.ownBlock ∨ ∀ g, h'.ownBlock = some g → w.heap.size ≤ g
theorem Moved.refl (h : Value) (w : World) : Moved h h w := .inl rfl
theorem Moved.none (h : Value) (w : World) : Moved h (.slice none 0 0) w := .inr (fun g hg => by simp [Value.ownBlock] at hg)
theorem Moved.trans {h h' h'' : Value} {w w1 : World} (a : Moved h h' w) (b : Moved h' h'' w1) (hs : w.heap.size ≤ w1.heap.size) : Moved h h'' w := by
  rcases b with b | b
  · rcases a with a | a
    · exact .inl (b.trans a)
    · exact .inr (fun g hg => a g (b ▸ hg))
  · exact .inr (fun g hg => Nat.le_trans hs (b g hg))
/-- below the heap's end nothing has turned but block p and the blocks of two rows -/
structure Foot2 (p : Nat) (c t : Value) (w w' : World) : Prop where
  os : w'.os = w.os
  tape : w'.tape = w.tape
  output : w'.output = w.output
  size : w.heap.size ≤ w'.heap.size
  block : ∀ b, b < w.heap.size → b ≠ p → c.ownBlock ≠ some b → t.ownBlock ≠ some b → w'.heap[b]? = w.heap[b]?
theorem Foot2.refl (p : Nat) (c t : Value) (w : World) : Foot2 p c t w w := ⟨rfl, rfl, rfl, Nat.le_refl _, fun _ _ _ _ _ => rfl⟩
theorem Foot2.trans {p : Nat} {c c' t t' : Value} {w w1 w2 : World} (a : Foot2 p c t w w1) (m : Moved c c' w) (m2 : Moved t t' w) (b : Foot2 p c' t' w1 w2) : Foot2 p c t w w2 :=
  ⟨b.os.trans a.os, b.tape.trans a.tape, b.output.trans a.output, Nat.le_trans a.size b.size, fun k h1 h2 h3 h4 => (b.block k (Nat.lt_of_lt_of_le h1 a.size) h2 (by
    rcases m with m | m
    · rw [m]; exact h3
    · intro e; have := m k e; omega) (by
    rcases m2 with m | m
    · rw [m]; exact h4
    · intro e; have := m k e; omega)).trans (a.block k h1 h2 h3 h4)⟩
theorem Foot2.set {p j : Nat} {w w' : World} {c t v : Value} (k : Foot2 p c t w w') : Foot2 p c t w (w'.setCell ⟨p, j, none⟩ v) :=
  ⟨k.os, k.tape, k.output, by simp; exact k.size, fun b h1 h2 h3 h4 => (heap_setCell_other _ _ _ _ (by simpa using h2)).trans (k.block b h1 h2 h3 h4)⟩
theorem Foot2.of_below {p : Nat} {w w' : World} (c t : Value) (hb : Below w.heap.size w w') : Foot2 p c t w w' := ⟨hb.os, hb.tape, hb.output, hb.size, fun b h1 _ _ _ => hb.block b h1⟩
theorem Foot2.drewN {p : Nat} {c t : Value} {w w' : World} (k : Foot2 p c t w w') (n : Nat) : Foot2 p c t w (w'.drewN n) := ⟨k.os, k.tape, k.output, k.size, k.block⟩

theorem OwnB.off {w : World} {B p j : Nat} {v u : Value} {l : List Nat} (h : OwnB w B v l) (hp : v.ownBlock ≠ Option.some p) : OwnB (w.setCell ⟨p, j, none⟩ u) B v l := by
  refine ⟨h.1, ?_⟩
  rcases h.2 with h2 | ⟨g, cap, cur, rfl, hg, hh, r⟩
  · exact .inl h2
  · exact .inr ⟨g, cap, cur, rfl, hg, by rw [heap_setCell_other _ _ _ _ (show g ≠ p by rintro rfl; exact hp rfl)]; exact hh, r⟩

theorem OwnB.same {w w' : World} {B : Nat} {v : Value} {l : List Nat} (h : OwnB w B v l) (hk : ∀ g, v.ownBlock = Option.some g → w'.heap[g]? = w.heap[g]?) : OwnB w' B v l := by
  refine ⟨h.1, ?_⟩
  rcases h.2 with h2 | ⟨g, cap, cur, rfl, hg, hh, r⟩
  · exact .inl h2
  · exact .inr ⟨g, cap, cur, rfl, hg, by rw [hk g rfl]; exact hh, r⟩

theorem ownB_lt {w : World} {B : Nat} {v : Value} {l : List Nat} (h : OwnB w B v l) : ∀ k, v.ownBlock = some k → k < w.heap.size := fun k hk => (World.ownsRow.lt h k hk).2
/-- 'append(out, x)' of one byte, with what it leaves alone -/
theorem app1g {ops : Array Oper} {rest : List Oper} {o : Oper} {a : Act} {Q : Exit → Act → World → Prop} (hgd : o.guard = none) (s x : Operand)
    (ho : o.op = .call { callee := .builtin .append, args := #[s, x], argTypes := #[27, 27] })
    {wr : World} {B : Nat} {v : Value} {l : List Nat} {n : Nat} {z : Int} (hown : OwnB wr B v l) (hB : B ≤ wr.heap.size)
    (hs : a.eval s = v) (hx : a.eval x = .slice (some ⟨wr.heap.size, 0, none⟩) 1 1) (hlen : l.length + 1 ≤ 140737488355328) (hz : Hid (z = (n : Int)))
    (h : ∀ o' w2, OwnB w2 B o' (l ++ [n]) → (wr.alloc (.cells #[.int .u8 z] 5)).grownBy w2 v.ownBlock → Moved v o' wr → wpList Tryz.prog ops Q rest (a.put o.dst o') w2) :
    wpList Tryz.prog ops Q (o :: rest) a (wr.alloc (.cells #[.int .u8 z] 5)) := by
  obtain ⟨i0, hi, hz0, hz1, hz2⟩ := info_parts Tryz.info5
  refine wpList_append_own_at _ hgd s x 27 ho B 5 i0 (.int .u8 0) 1 1 Tryz.underlying27 hi hz0 hz1 hz2 rfl (by decide) v l.length (u8s l) hs (World.ownsRow.alloc hown _) ⟨wr.heap.size, 0, none⟩ 1 1 [.int .u8 z] hx rfl (one_new _ _ _) (by simp [Value.oneCell']) (by simp [maxLen]; omega) (by omega) (by simp; omega) ?_
  intro o' w2 ho' hgr _ hat
  have e : z = (n : Int) := hz
  subst e
  refine h o' w2 (OwnB.snoc ho' rfl) hgr ?_
  rcases hat with e | e
  · exact .inl e
  · exact .inr (fun g hg => by rw [e] at hg; simp at hg; omega)


/-- a lexer, whole -/
structure LexB (w : World) (p : Nat) (o t : Value) (left : Int) (op : Bool) (err : Int) : Prop where
  row : w.heap[p]? = some (.cells #[o, t, .int .i64 left, .bool op, .int .i64 err] 50 (0, 0))
structure LexAt (w : World) (p : Nat) (o t : Value) (left : Int) (op : Bool) (err : Int) : Prop where
  c0 : w.cell? ⟨p, 0, none⟩ = some o
  c1 : w.cell? ⟨p, 1, none⟩ = some t
  c2 : w.cell? ⟨p, 2, none⟩ = some (.int .i64 left)
  c3 : w.cell? ⟨p, 3, none⟩ = some (.bool op)
  c4 : w.cell? ⟨p, 4, none⟩ = some (.int .i64 err)
  x0 : w.frozen? ⟨p, 0, none⟩ = false
  x1 : w.frozen? ⟨p, 1, none⟩ = false
  x2 : w.frozen? ⟨p, 2, none⟩ = false
  x3 : w.frozen? ⟨p, 3, none⟩ = false
  x4 : w.frozen? ⟨p, 4, none⟩ = false
section
variable {w w' : World} {p : Nat} {o t : Value} {left : Int} {op : Bool} {err : Int}
theorem LexB.at (k : LexB w p o t left op err) : LexAt w p o t left op err := by
  have h : ∀ j, w.cell? ⟨p, j, none⟩ = (#[o, t, .int .i64 left, .bool op, .int .i64 err] : Array Value)[j]? := fun j => cell_of_row _ _ j _ 50 (0, 0) k.row
  have x : ∀ j, w.frozen? ⟨p, j, none⟩ = false := fun j => frozen_of_row _ _ _ _ _ k.row
  exact ⟨h 0, h 1, h 2, h 3, h 4, x 0, x 1, x 2, x 3, x 4⟩
theorem LexB.same (k : LexB w p o t left op err) (h : w'.heap[p]? = w.heap[p]?) : LexB w' p o t left op err := ⟨by rw [h]; exact k.row⟩
theorem LexB.lt (k : LexB w p o t left op err) : p < w.heap.size := (Array.getElem?_eq_some_iff.1 k.row).1
theorem LexB.set0 (k : LexB w p o t left op err) (v : Value) : LexB (w.setCell ⟨p, 0, none⟩ v) p v t left op err := ⟨heap_setCell_same w p 0 _ _ _ k.row⟩
theorem LexB.set1 (k : LexB w p o t left op err) (v : Value) : LexB (w.setCell ⟨p, 1, none⟩ v) p o v left op err := ⟨heap_setCell_same w p 1 _ _ _ k.row⟩
theorem LexB.set2 (k : LexB w p o t left op err) (v : Int) : LexB (w.setCell ⟨p, 2, none⟩ (.int .i64 v)) p o t v op err := ⟨heap_setCell_same w p 2 _ _ _ k.row⟩
theorem LexB.set3 (k : LexB w p o t left op err) (v : Bool) : LexB (w.setCell ⟨p, 3, none⟩ (.bool v)) p o t left v err := ⟨heap_setCell_same w p 3 _ _ _ k.row⟩
theorem LexB.set4 (k : LexB w p o t left op err) (v : Int) : LexB (w.setCell ⟨p, 4, none⟩ (.int .i64 v)) p o t left op v := ⟨heap_setCell_same w p 4 _ _ _ k.row⟩
theorem LexB.alloc (k : LexB w p o t left op err) (x : Obj) : LexB (w.alloc x) p o t left op err := k.same (Below.heap_alloc w x p k.lt)
theorem LexB.grown (k : LexB w p o t left op err) {row : Option Nat} (hg : w.grownBy w' row) (hn : row ≠ some p) : LexB w' p o t left op err := k.same (hg.block p k.lt (fun e => hn e.symm))
theorem LexB.off (k : LexB w p o t left op err) {q j : Nat} (hq : p ≠ q) (v : Value) : LexB (w.setCell ⟨q, j, none⟩ v) p o t left op err := k.same (heap_setCell_other _ _ _ _ hq)
end

/-- tokens in a row of the call's own -/
def tkV (x : Tk) : List Value := [.int .i64 (x.1 : Nat), .string (strN x.2)]
def tksV (l : List Tk) : List Value := l.flatMap tkV
def OwnT (w : World) (B : Nat) (v : Value) (l : List Tk) : Prop := w.ownsRow B 26 2 v l.length (tksV l)
theorem tksV_append (l m : List Tk) : tksV (l ++ m) = tksV l ++ tksV m := by simp [tksV]
@[simp] theorem tksV_length (l : List Tk) : (tksV l).length = l.length * 2 := by
  induction l with
  | nil => rfl
  | cons x l ih => simp only [tksV, List.flatMap_cons, List.length_append, List.length_cons] at ih ⊢; rw [ih]; simp [tkV]; omega
theorem OwnT.shape {w : World} {B : Nat} {v : Value} {l : List Tk} (h : OwnT w B v l) : ∃ a cap, v = .slice a l.length cap := by
  rcases h.2 with ⟨hv, h0⟩ | ⟨g, cap, cur, hv, _⟩
  · exact ⟨none, 0, by rw [hv, h0]⟩
  · exact ⟨_, cap, hv⟩
theorem ownT_type {w : World} {B : Nat} {v : Value} {l : List Tk} (h : OwnT w B v l) : ∀ g, v.ownBlock = some g → g < w.heap.size ∧ ∃ cur, w.heap[g]? = some (.cells cur 26 (0, 0)) := by
  intro g hg
  rcases h.2 with ⟨rfl, _⟩ | ⟨g', cap, cur, rfl, hb, hh, _⟩
  · simp [Value.ownBlock] at hg
  · simp [Value.ownBlock] at hg; subst hg; exact ⟨(Array.getElem?_eq_some_iff.1 hh).1, cur, hh⟩
theorem ownB_type {w : World} {B : Nat} {v : Value} {l : List Nat} (h : OwnB w B v l) : ∀ g, v.ownBlock = some g → g < w.heap.size ∧ ∃ cur, w.heap[g]? = some (.cells cur 5 (0, 0)) := by
  intro g hg
  rcases h.2 with ⟨rfl, _⟩ | ⟨g', cap, cur, rfl, hb, hh, _⟩
  · simp [Value.ownBlock] at hg
  · simp [Value.ownBlock] at hg; subst hg; exact ⟨(Array.getElem?_eq_some_iff.1 hh).1, cur, hh⟩
theorem OwnT.same {w w' : World} {B : Nat} {v : Value} {l : List Tk} (h : OwnT w B v l) (hk : ∀ g, v.ownBlock = Option.some g → w'.heap[g]? = w.heap[g]?) : OwnT w' B v l := by
  refine ⟨h.1, ?_⟩
  rcases h.2 with h2 | ⟨g, cap, cur, rfl, hg, hh, r⟩
  · exact .inl h2
  · exact .inr ⟨g, cap, cur, rfl, hg, by rw [hk g rfl]; exact hh, r⟩
/-- a block of another type is none of theirs -/
theorem ownT_ne {w : World} {B : Nat} {v : Value} {l : List Tk} (h : OwnT w B v l) {g : Nat} {cs : Array Value} {ty : TypeId} {fr : Nat × Nat} (hg : w.heap[g]? = some (.cells cs ty fr)) (ht : ty ≠ 26) : v.ownBlock ≠ some g := by
  intro e
  obtain ⟨_, cur, hh⟩ := ownT_type h g e
  rw [hg] at hh
  simp at hh
  exact ht hh.2.1
theorem ownB_ne {w : World} {B : Nat} {v : Value} {l : List Nat} (h : OwnB w B v l) {g : Nat} {cs : Array Value} {ty : TypeId} {fr : Nat × Nat} (hg : w.heap[g]? = some (.cells cs ty fr)) (ht : ty ≠ 5) : v.ownBlock ≠ some g := by
  intro e
  obtain ⟨_, cur, hh⟩ := ownB_type h g e
  rw [hg] at hh
  simp at hh
  exact ht hh.2.1
theorem own_apart {w : World} {B B' : Nat} {v u : Value} {l : List Tk} {m : List Nat} (h : OwnT w B v l) (k : OwnB w B' u m) : ∀ g, v.ownBlock = some g → u.ownBlock ≠ some g := by
  intro g hg
  obtain ⟨_, cur, hh⟩ := ownT_type h g hg
  exact ownB_ne k hh (by decide)

/-- a result's own block: a state by value -/
structure ResB (w : World) (k : Nat) (v : Value) : Prop where
  row : w.heap[k]? = some (.cells #[v] 53 (0, 0))
theorem ResB.cell {w : World} {k : Nat} {v : Value} (h : ResB w k v) : w.cell? ⟨k, 0, none⟩ = some v := cell_of_row _ _ 0 _ 53 (0, 0) h.row
theorem ResB.free {w : World} {k : Nat} {v : Value} (h : ResB w k v) : w.frozen? ⟨k, 0, none⟩ = false := frozen_of_row _ _ _ _ _ h.row
theorem ResB.set {w : World} {k : Nat} {v : Value} (h : ResB w k v) (u : Value) : ResB (w.setCell ⟨k, 0, none⟩ u) k u := ⟨heap_setCell_same w k 0 _ _ _ h.row⟩
theorem ResB.same {w w' : World} {k : Nat} {v : Value} (h : ResB w k v) (e : w'.heap[k]? = w.heap[k]?) : ResB w' k v := ⟨by rw [e]; exact h.row⟩
theorem resB_new (w : World) : ResB (w.alloc (.cells #[.nilFunc] 53)) w.heap.size .nilFunc := ⟨heap_alloc_new w _⟩
theorem ResB.lt {w : World} {k : Nat} {v : Value} (h : ResB w k v) : k < w.heap.size := (Array.getElem?_eq_some_iff.1 h.row).1

def mdV : Md → Value
  | .btw => .func (.func 38) #[] #[]
  | .atom => .func (.func 45) #[] #[]
  | .quo => .func (.func 43) #[] #[]
  | .esc => .func (.func 52) #[] #[]
  | .siz => .func (.func 44) #[] #[]
  | .car => .func (.func 53) #[] #[]
  | .fee => .func (.func 64) #[] #[]
  | .lit => .func (.func 77) #[] #[]

/-- a lexer in a state -/
structure LexS (w : World) (p : Nat) (o t : Value) (s : LS) (err : Nat) : Prop where
  b : LexB w p o t (s.left : Nat) s.op (err : Nat)
  ot : OwnT w 0 o s.out
  tx : OwnB w 0 t s.text
/-- what a method leaves -/
def LexIs (w : World) (p : Nat) (o t : Value) (res : LS × Nat) (e : Ending) (w' : World) : Prop :=
  ∃ o' t', e = .returned (.agg #[if res.2 = 0 then mdV res.1.m else .nilFunc]) ∧ LexS w' p o' t' res.1 res.2 ∧ Foot2 p o t w w' ∧ Moved o o' w ∧ Moved t t' w

theorem ret42 {w : World} {k : Nat} {v : Value} (h : ResB w k v) {fn : Func} (hr : fn.results = #[.cell 4 53]) (tmps : Array Value) (hp : tmps.getD 4 undef = .pointer (some ⟨k, 0, none⟩)) : (results fn tmps).run Tryz.prog w = .ok (.agg #[v]) w :=
  results_cell_row hr _ _ k 53 #[v] (0, 0) _ hp h.row Tryz.underlying53 rfl (by kernel_rfl)

theorem ResB.store {w : World} {k : Nat} {u : Value} (h : ResB w k u) {v : Value} (hv : v.oneCell' = true) : (store ⟨k, 0, none⟩ v).run Tryz.prog w = .ok () (w.setCell ⟨k, 0, none⟩ v) := by
  rw [run_store _ _ _ _ _ hv, h.cell, h.free]
  rfl
theorem mdV_one (m : Md) : (mdV m).oneCell' = true := by cases m <;> rfl

set_option maxRecDepth 100000 in
theorem start_any (w : World) : Calls Tryz.prog 27 #[] w fun e w' => e = .returned (.agg #[mdV .btw]) ∧ Below w.heap.size w w' := by
  go_enter Tryz.func27, Tryz.ntmps27
  go_upto_region 1 with fail
  have HR := Lib.hid (resB_new w)
  have hb : Below w.heap.size w (w.alloc (.cells #[.nilFunc] 53)) := (Below.refl _ _).alloc (Nat.le_refl _) _
  generalize w.alloc (.cells #[.nilFunc] 53) = w1 at *
  go_wp2_with fail
  rw [HR.out.store rfl]
  go_wp2_with fail
  refine bodyPost_ret (v := .agg #[mdV .btw]) (results_cell_row rfl _ _ w.heap.size 53 #[mdV .btw] (0, 0) _ rfl (HR.out.set _).row Tryz.underlying53 rfl (by kernel_rfl)) rfl ?_
  exact ⟨rfl, hb.setCell (Nat.le_refl _) _⟩

/-- a lexer behind the making of the result's block -/
structure LexK (w w1 : World) (p k : Nat) (o0 t0 o t : Value) (s : LS) (err : Nat) (u : Value) : Prop where
  s : LexS w1 p o t s err
  r : ResB w1 k u
  f : Foot2 p o0 t0 w w1
  mo : Moved o0 o w
  mt : Moved t0 t w
  kw : w.heap.size ≤ k
  pk : p < w.heap.size
theorem LexK.start {w : World} {p : Nat} {o t : Value} {s : LS} {err : Nat} (k : LexS w p o t s err) : LexK w (w.alloc (.cells #[.nilFunc] 53)) p w.heap.size o t o t s err .nilFunc :=
  ⟨⟨k.b.alloc _, k.ot.same fun g hg => Below.heap_alloc w _ g (ownT_type k.ot g hg).1, k.tx.same fun g hg => Below.heap_alloc w _ g (ownB_type k.tx g hg).1⟩, resB_new w, Foot2.of_below o t ((Below.refl _ _).alloc (Nat.le_refl _) _), Moved.refl _ _, Moved.refl _ _, Nat.le_refl _, k.b.lt⟩
section
variable {w w1 w2 : World} {p k : Nat} {o0 t0 o t : Value} {s : LS} {err : Nat} {u : Value}
theorem LexK.ne (h : LexK w w1 p k o0 t0 o t s err u) : p ≠ k := by have := h.pk; have := h.kw; omega
/-- the result is stored -/
theorem LexK.res (h : LexK w w1 p k o0 t0 o t s err u) (v : Value) : LexK w (w1.setCell ⟨k, 0, none⟩ v) p k o0 t0 o t s err v :=
  ⟨⟨h.s.b.off h.ne v, h.s.ot.same fun g hg => heap_setCell_other _ _ _ _ (by rintro rfl; exact ownT_ne h.s.ot h.r.row (by decide) hg), h.s.tx.off (ownB_ne h.s.tx h.r.row (by decide))⟩, h.r.set v,
    ⟨h.f.os, h.f.tape, h.f.output, by simp; exact h.f.size, fun b h1 h2 h3 h4 => (heap_setCell_other _ _ _ _ (by have := h.kw; simp; omega)).trans (h.f.block b h1 h2 h3 h4)⟩, h.mo, h.mt, h.kw, h.pk⟩
/-- a cell of the lexer is stored -/
theorem LexK.put (h : LexK w w1 p k o0 t0 o t s err u) {j : Nat} {v : Value} {s' : LS} {err' : Nat} (hb : LexB (w1.setCell ⟨p, j, none⟩ v) p o t (s'.left : Nat) s'.op (err' : Nat)) (ho : s'.out = s.out) (ht : s'.text = s.text) : LexK w (w1.setCell ⟨p, j, none⟩ v) p k o0 t0 o t s' err' u :=
  ⟨⟨hb, by rw [ho]; exact h.s.ot.same fun g hg => heap_setCell_other _ _ _ _ (by rintro rfl; exact ownT_ne h.s.ot h.s.b.row (by decide) hg), by rw [ht]; exact h.s.tx.off (ownB_ne h.s.tx h.s.b.row (by decide))⟩, h.r.same (heap_setCell_other _ _ _ _ (show k ≠ p from fun e => h.ne e.symm)), h.f.set, h.mo, h.mt, h.kw, h.pk⟩
/-- the text is let go -/
theorem LexK.wipe (h : LexK w w1 p k o0 t0 o t s err u) {s' : LS} (hl : s'.left = s.left) (hop : s'.op = s.op) (ho : s'.out = s.out) (ht : s'.text = []) : LexK w (w1.setCell ⟨p, 1, none⟩ (.slice none 0 0)) p k o0 t0 o (.slice none 0 0) s' err u :=
  ⟨⟨by have := h.s.b.set1 (.slice none 0 0); rw [hl, hop]; exact this, by rw [ho]; exact h.s.ot.same fun g hg => heap_setCell_other _ _ _ _ (by rintro rfl; exact ownT_ne h.s.ot h.s.b.row (by decide) hg), by rw [ht]; exact World.ownsRow_nil _ _ _ _⟩, h.r.same (heap_setCell_other _ _ _ _ (show k ≠ p from fun e => h.ne e.symm)), h.f.set, h.mo, Moved.none _ _, h.kw, h.pk⟩
/-- a byte is put behind the text -/
theorem LexK.push (h : LexK w w1 p k o0 t0 o t s err u) {x : Obj} {t' : Value} {s' : LS} {c : Nat} (ht : OwnB w2 0 t' (s.text ++ [c])) (hg : (w1.alloc x).grownBy w2 t.ownBlock) (mv : Moved t t' w1) (hl : s'.left = s.left) (hop : s'.op = s.op) (ho : s'.out = s.out) (hx : s'.text = s.text ++ [c]) : LexK w (w2.setCell ⟨p, 1, none⟩ t') p k o0 t0 o t' s' err u := by
  have hne := h.ne
  have htp := ownB_ne h.s.tx h.s.b.row (by decide)
  have htk := ownB_ne h.s.tx h.r.row (by decide)
  have hb2 : LexB w2 p o t (s.left : Nat) s.op (err : Nat) := (h.s.b.alloc x).grown hg htp
  have same : ∀ b, b < w1.heap.size → t.ownBlock ≠ some b → w2.heap[b]? = w1.heap[b]? := fun b hb hn => by
    rw [hg.block b (by simp; omega) (fun e => hn e.symm), Below.heap_alloc w1 x b hb]
  have ho2 : OwnT w2 0 o s.out := h.s.ot.same fun g hg' => same g (ownT_type h.s.ot g hg').1 (own_apart h.s.ot h.s.tx g hg')
  have hr2 : ResB w2 k u := h.r.same (same k h.r.lt htk)
  have hs2 : w1.heap.size ≤ w2.heap.size := Nat.le_trans (by simp) hg.size
  have hk := h.kw
  have hf := h.f.size
  refine ⟨⟨by have := hb2.set1 t'; rw [hl, hop]; exact this, by rw [ho]; exact ho2.same fun g hg' => heap_setCell_other _ _ _ _ (by rintro rfl; exact ownT_ne ho2 hb2.row (by decide) hg'), by rw [hx]; exact ht.off (ownB_ne ht hb2.row (by decide))⟩, hr2.same (heap_setCell_other _ _ _ _ (show k ≠ p from fun e => hne e.symm)), ?_, h.mo, h.mt.trans mv h.f.size, h.kw, h.pk⟩
  exact (h.f.trans h.mo h.mt ⟨hg.os, hg.tape, hg.output, hs2, fun b h1 _ _ h4 => same b h1 h4⟩).set
/-- a call of a method -/
theorem LexK.call (h : LexK w w1 p k o0 t0 o t s err u) {o' t' : Value} {s' : LS} {err' : Nat} (hs : LexS w2 p o' t' s' err') (hf : Foot2 p o t w1 w2) (mo : Moved o o' w1) (mt : Moved t t' w1) : LexK w w2 p k o0 t0 o' t' s' err' u :=
  ⟨hs, h.r.same (hf.block k h.r.lt (fun e => h.ne e.symm) (ownT_ne h.s.ot h.r.row (by decide)) (ownB_ne h.s.tx h.r.row (by decide))), h.f.trans h.mo h.mt hf, h.mo.trans mo h.f.size, h.mt.trans mt h.f.size, h.kw, h.pk⟩
/-- what lies in new blocks -/
theorem LexK.below (h : LexK w w1 p k o0 t0 o t s err u) (hb : Below w1.heap.size w1 w2) : LexK w w2 p k o0 t0 o t s err u :=
  h.call ⟨h.s.b.same (hb.block p h.s.b.lt), h.s.ot.same fun g hg => hb.block g (ownT_type h.s.ot g hg).1, h.s.tx.same fun g hg => hb.block g (ownB_type h.s.tx g hg).1⟩ (Foot2.of_below o t hb) (Moved.refl _ _) (Moved.refl _ _)
theorem LexK.done (h : LexK w w1 p k o0 t0 o t s err u) (hu : u = if err = 0 then mdV s.m else .nilFunc) : LexIs w p o0 t0 (s, err) (.returned (.agg #[u])) w1 := ⟨o, t, by rw [hu], h.s, h.f, h.mo, h.mt⟩
end

set_option maxRecDepth 100000 in
theorem fail_any (p : Nat) (o t : Value) (s : LS) (n : Nat) (hn : n ≠ 0) (w : World) (k : LexS w p o t s 0) : Calls Tryz.prog 46 #[.pointer (some ⟨p, 0, none⟩), .int .i64 (n : Int)] w (LexIs w p o t (s, n)) := by
  have HK := Lib.hid (LexK.start k)
  clear k
  go_enter Tryz.func46, Tryz.ntmps46
  go_upto_region 1 with fail
  obtain ⟨c0, c1, c2, c3, c4, x0, x1, x2, x3, x4⟩ := HK.out.s.b.at
  generalize w.alloc (.cells #[.nilFunc] 53) = w1 at *
  go_upto_region 2 with fail
  have HK2 := Lib.hid (HK.out.put (HK.out.s.b.set4 (n : Int)) rfl rfl)
  clear c0 c1 c2 c3 c4 x0 x1 x2 x3 x4
  generalize w1.setCell ⟨p, 4, none⟩ (.int .i64 (n : Int)) = w2 at *
  go_wp2_with fail
  rw [HK2.out.r.store rfl]
  go_wp2_with fail
  have hk := HK2.out.res .nilFunc
  exact bodyPost_ret (v := .agg #[.nilFunc]) (ret42 hk.r rfl _ rfl) rfl (hk.done (by rw [if_neg hn]))
end Go.Proofs.YtghibofnfjnfcaaGreatDoor
