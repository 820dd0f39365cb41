/-
  The reference's feed against the plain machine.
-/
import Derived.Test.YtgafalobbhoaoaaTake
namespace Go.Proofs.Ytgafalobbhoaoaa
set_option linter.unusedVariables false
open Go.RowKit

def RelS (s : St) (T : List Nat) (lo li : Int) (af : Bool) : Prop :=
  (s.m = .line → lo = (s.len : Int) ∧ li = (s.lits : Int) ∧ T = s.H.drop s.seg ∧ af = (s.ahead == 13)) ∧ (s.m = .lit → lo = (s.len : Int) ∧ li = (s.lits : Int) ∧ T = [] ∧ af = false) ∧ (s.m = .skip → af = (s.ahead == 13))

structure RefS (w : World) (p : Nat) (iv c t : Value) (s : St) (T : List Nat) (lo li : Int) (af : Bool) : Prop where
  b : RefB w p iv c t lo s.left li (decide (s.m = .skip)) af
  oc : OwnB w 0 c s.H
  ot : OwnB w 0 t T
  ne : ∀ g, c.ownBlock = some g → t.ownBlock ≠ some g
  ic : ∀ g, iv.ownBlock = some g → c.ownBlock ≠ some g
  it : ∀ g, iv.ownBlock = some g → t.ownBlock ≠ some g
  rel : RelS s T lo li af

theorem rel0 : RelS st0 [] 0 0 false := ⟨fun _ => ⟨rfl, rfl, rfl, rfl⟩, (fun h => nomatch h), (fun h => nomatch h)⟩

/-- what the reference's Next leaves -/
def RNextIs (w : World) (p : Nat) (iv c t : Value) (res : St × List Nat × Nat × List Nat) (e : Ending) (w' : World) : Prop :=
  ∃ o iv' c' t' T' lo' li' af', e = .returned (.tuple #[o, .int .i64 (res.2.2.1 : Nat)]) ∧ RefS w' p iv' c' t' res.1 T' lo' li' af' ∧ RestB w' iv' res.2.1 ∧ iv'.ownBlock = iv.ownBlock ∧ RowB w' o res.2.2.2 ∧ Foot2 p c t w w' ∧ Moved c c' w ∧ Moved t t' w

/-- the relation of its loop -/
structure RGo (w wr : World) (p : Nat) (iv0 c0 t0 iv c t : Value) (s0 s : St) (T : List Nat) (lo li : Int) (af : Bool) (R0 R : List Nat) : Prop where
  f : RefS wr p iv c t s T lo li af
  ok : Ok s
  rest : RestB wr iv R
  own : iv.ownBlock = iv0.ownBlock
  run : runS s0 R0 = runS s R
  foot : Foot2 p c0 t0 w wr
  mc : Moved c0 c w
  mt : Moved t0 t w

def inLen (w : World) (p : Nat) : Nat := match w.cell? ⟨p, 0, none⟩ with | some (.slice _ n _) => n | _ => 0
theorem inLen_of {w : World} {p : Nat} {a : Option Addr} {n cap : Nat} {c t : Value} {lo lf li : Int} {sk af : Bool} (k : RefB w p (.slice a n cap) c t lo lf li sk af) : inLen w p = n := by
  unfold inLen
  rw [k.at.c0]

theorem ref_row_ne {w : World} {p : Nat} {i c t v : Value} {lo lf li : Int} {sk af : Bool} {B : Nat} {l : List Nat} (k : RefB w p i c t lo lf li sk af) (o : OwnB w B v l) : v.ownBlock ≠ some p := by
  intro e
  obtain ⟨cur, hh⟩ := own_type o p e
  rw [k.row] at hh
  simp at hh
theorem ref_rest_ne {w : World} {p : Nat} {i c t v : Value} {lo lf li : Int} {sk af : Bool} {l : List Nat} (k : RefB w p i c t lo lf li sk af) (o : RestB w v l) : v.ownBlock ≠ some p := by
  intro e
  obtain ⟨cur, hh⟩ := rest_type o p e
  rw [k.row] at hh
  simp at hh
theorem OwnB.same {w w' : World} {B : Nat} {v : Value} {l : List Nat} (h : OwnB w B v l) (hk : ∀ g, v.ownBlock = Option.some g → w'.heap[g]? = w.heap[g]?) : OwnB w' B v l := by
  refine ⟨h.1, ?_⟩
  rcases h.2 with h2 | ⟨g, cap, cur, rfl, hg, hh, r⟩
  · exact .inl h2
  · exact .inr ⟨g, cap, cur, rfl, hg, by rw [hk g rfl]; exact hh, r⟩

theorem RefB.alloc {w : World} {p : Nat} {i c t : Value} {lo lf li : Int} {sk af : Bool} (k : RefB w p i c t lo lf li sk af) (o : Obj) : RefB (w.alloc o) p i c t lo lf li sk af := k.same (Below.heap_alloc w o p k.lt)
theorem RefB.grown {w w' : World} {p : Nat} {i c t : Value} {lo lf li : Int} {sk af : Bool} (k : RefB w p i c t lo lf li sk af) {row : Option Nat} (hg : w.grownBy w' row) (hn : row ≠ some p) : RefB w' p i c t lo lf li sk af := k.same (hg.block p k.lt (fun e => hn e.symm))

/-- 'append(c, x)' of one byte within a region that draws its order -/
theorem step_app1 {ops : Array Oper} {o : Oper} {a : Act} {w : World} {K : Act → World → Prop} {Q : Exit → Act → World → Prop} {E : Prop}
    (hg : o.guard = none) (s x : Operand) (hop : o.op = Op.call { callee := Callee.builtin Builtin.append, args := #[s, x], argTypes := #[27, 27] })
    {v : Value} {l : List Nat} (hs : a.eval s = v) (hown : OwnB w 0 v l) (g : Nat) (hx : a.eval x = .slice (some ⟨g, 0, none⟩) 1 1) (n : Nat) (hc : w.cell? ⟨g, 0, none⟩ = some (.int .u8 (n : Int))) (hn : l.length + 1 ≤ 140737488355328)
    (hK : ∀ o' w', OwnB w' 0 o' (l ++ [n]) → w.grownBy w' v.ownBlock → Moved v o' w → K (a.put o.dst o') w') :
    if Region.wanted o (yielded ops a.tmps) = true then Oper.wp Try.prog o a w K Q else E := by
  have hw : Region.wanted o (yielded ops a.tmps) = true := by simp [Region.wanted, hg]
  rw [if_pos hw]
  obtain ⟨i0, hi, hz0, hz1, hz2⟩ := info_parts Try.info5
  obtain ⟨v', w', hr, h2, h3, h4, h5⟩ := run_append_own_at (P := Try.prog) w 0 27 o.type 5 i0 _ 1 1 Try.underlying27 hi hz0 hz1 hz2 rfl (by decide) v l.length (u8s l) hown ⟨g, 0, none⟩ 1 1 [.int .u8 (n : Int)] (by simp) (fun j u hj => by
    have : j = 0 := by
      have := (List.getElem?_eq_some_iff.1 hj).1
      simp at this
      exact this
    subst this
    simp at hj
    subst hj
    exact hc) (by simp [Value.oneCell']) (by simp [maxLen]; omega) (by omega) (Nat.zero_le _)
  have hr2 : (Builtin.append_ #[27, 27] o.type #[v, .slice (some ⟨g, 0, none⟩) 1 1]).run Try.prog w = .ok v' w' := hr
  unfold Oper.wp execOp
  simp only [hop, resolve, invoke, builtin, Sem.run_bind, Sem.run_pure, Result.andThen_ok, List.map_toArray, List.map_cons, List.map_nil, hs, hx, hr2]
  refine hK v' w' (OwnB.snoc h2 rfl) h3 ?_
  rcases h5 with e | e
  · exact .inl e
  · exact .inr (fun g' hg' => by rw [e] at hg'; obtain rfl := Option.some.inj hg'; exact Nat.le_refl _)

/-- behind both appends -/
structure Mid (w w' : World) (c t c' t' : Value) (H T : List Nat) (x : Nat) : Prop where
  os : w'.os = w.os
  tape : w'.tape = w.tape
  output : w'.output = w.output
  size : w.heap.size ≤ w'.heap.size
  block : ∀ b, b < w.heap.size → c.ownBlock ≠ some b → t.ownBlock ≠ some b → w'.heap[b]? = w.heap[b]?
  oc : OwnB w' 0 c' (H ++ [x])
  ot : OwnB w' 0 t' (T ++ [x])
  mc : Moved c c' w
  mt : Moved t t' w
  ne : ∀ g, c'.ownBlock = some g → t'.ownBlock ≠ some g

theorem mid_t {w uA uA' uB : World} {c t : Value} {T : List Nat} (ot : OwnB w 0 t T) (ne : ∀ g, c.ownBlock = some g → t.ownBlock ≠ some g)
    (hA : Below w.heap.size w uA) (gA : uA.grownBy uA' c.ownBlock) (hB : Below uA'.heap.size uA' uB) : OwnB uB 0 t T := by
  refine ot.same fun g hg => ?_
  have hlt := ownB_lt ot g hg
  have h1 := hA.block g hlt
  have h2 := gA.block g (Nat.lt_of_lt_of_le hlt hA.size) (fun e => ne g e.symm hg)
  have h3 := hB.block g (Nat.lt_of_lt_of_le hlt (Nat.le_trans hA.size gA.size))
  rw [h3, h2, h1]
theorem mid_of {w uA uA' uB uB' : World} {c t c' t' : Value} {H T : List Nat} {x : Nat} (oc : OwnB w 0 c H) (ot : OwnB w 0 t T) (ne : ∀ g, c.ownBlock = some g → t.ownBlock ≠ some g)
    (hA : Below w.heap.size w uA) (gA : uA.grownBy uA' c.ownBlock) (mA : Moved c c' uA) (oA : OwnB uA' 0 c' (H ++ [x]))
    (hB : Below uA'.heap.size uA' uB) (gB : uB.grownBy uB' t.ownBlock) (mB : Moved t t' uB) (oB : OwnB uB' 0 t' (T ++ [x])) : Mid w uB' c t c' t' H T x := by
  have sA := hA.size
  have sA' := gA.size
  have sB := hB.size
  have sB' := gB.size
  have cl := ownB_lt oc
  have tl := ownB_lt ot
  have hct : ∀ g, c'.ownBlock = some g → t.ownBlock ≠ some g := by
    intro g hg e
    rcases mA with m | m
    · rw [m] at hg; exact ne g hg e
    · have := m g hg; have := tl g e; omega
  refine ⟨(gB.os.trans hB.os).trans (gA.os.trans hA.os), (gB.tape.trans hB.tape).trans (gA.tape.trans hA.tape), (gB.output.trans hB.output).trans (gA.output.trans hA.output), by omega, ?_, ?_, oB, ?_, ?_, ?_⟩
  · intro b hb h1 h2
    rw [gB.block b (by omega) (fun e => h2 e.symm), hB.block b (by omega), gA.block b (by omega) (fun e => h1 e.symm), hA.block b hb]
  · refine oA.same fun g hg => ?_
    have hl := ownB_lt oA g hg
    rw [gB.block g (by omega) (fun e => hct g hg e.symm), hB.block g hl]
  · rcases mA with m | m
    · exact .inl m
    · exact .inr fun g hg => Nat.le_trans sA (m g hg)
  · rcases mB with m | m
    · exact .inl m
    · exact .inr fun g hg => by have := m g hg; omega
  · intro g hg e
    rcases mB with m | m
    · rw [m] at e; exact hct g hg e
    · have := m g e; have := ownB_lt oA g hg; omega
theorem cell_grown {u u' : World} {row : Option Nat} {g j : Nat} (hg : u.grownBy u' row) (hl : g < u.heap.size) (hn : row ≠ some g) : u'.cell? ⟨g, j, none⟩ = u.cell? ⟨g, j, none⟩ := World.cell?_of_block (hg.block g hl (fun e => hn e.symm))

/-- one byte of a literal, of what is thrown away -/
theorem rel_lit {s : St} {T : List Nat} {lo li : Int} {af : Bool} (h : RelS s T lo li af) (hm : s.m = .lit) (c : Nat) : RelS (litS s c).1 T lo li af := by
  obtain ⟨_, h2, _⟩ := h
  obtain ⟨e1, e2, e3, e4⟩ := h2 hm
  unfold litS nextS
  simp only
  split
  · refine ⟨fun _ => ⟨e1, e2, by rw [e3]; simp, by rw [e4]; rfl⟩, (fun h => nomatch h), (fun h => nomatch h)⟩
  · refine ⟨(fun h => nomatch h), fun _ => ⟨e1, e2, e3, e4⟩, (fun h => nomatch h)⟩
theorem lit_left (s : St) (c : Nat) : ((litS s c).1).left = s.left - 1 := by
  unfold litS nextS
  simp only
  split <;> rfl
theorem lit_H (s : St) (c : Nat) : ((litS s c).1).H = s.H ++ [c] := by
  unfold litS nextS
  simp only
  split <;> rfl
theorem lit_ns (s : St) (c : Nat) : decide (((litS s c).1).m = .skip) = false := by
  unfold litS nextS
  simp only
  split <;> rfl
end Go.Proofs.Ytgafalobbhoaoaa
