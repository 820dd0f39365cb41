/-
  The rounds of the reference's Next, in the loop's relation.
-/
import Derived.Test.YtgafalobbhoaoaaRSim
namespace Go.Proofs.Ytgafalobbhoaoaa
set_option linter.unusedVariables false
open Go.RowKit

/-- what is known behind 'In = In[1:]' -/
structure RAt (w w3 : World) (p : Nat) (iv c t iv2 c1 t1 : Value) (s s1 : St) (T1 : List Nat) (lo1 li1 : Int) (af1 : Bool) (R R2 : List Nat) (x : Nat) : Prop where
  oc : OwnB w3 0 c1 s1.H
  ot : OwnB w3 0 t1 T1
  r : RestB w3 iv2 R2
  ft : Foot2 p c t w w3
  mc : Moved c c1 w
  mt : Moved t t1 w
  ne : ∀ g, c1.ownBlock = some g → t1.ownBlock ≠ some g
  ic : ∀ g, iv2.ownBlock = some g → c1.ownBlock ≠ some g
  it : ∀ g, iv2.ownBlock = some g → t1.ownBlock ≠ some g
  own : iv2.ownBlock = iv.ownBlock
  rel : RelS s1 T1 lo1 li1 af1
  ok : Ok s1
  run : runS s R = runS s1 (x :: R2)
  xb : x < 256

theorem RAt.set {w w3 : World} {p j : Nat} {v iv c t iv2 c1 t1 : Value} {s s1 : St} {T1 : List Nat} {lo1 li1 : Int} {af1 : Bool} {R R2 : List Nat} {x : Nat} (k : RAt w w3 p iv c t iv2 c1 t1 s s1 T1 lo1 li1 af1 R R2 x) {lo lf li : Int} {sk af : Bool} (f : RefB w3 p iv2 c1 t1 lo lf li sk af) : RAt w (w3.setCell ⟨p, j, none⟩ v) p iv c t iv2 c1 t1 s s1 T1 lo1 li1 af1 R R2 x :=
  ⟨k.oc.off (ref_row_ne f k.oc), k.ot.off (ref_row_ne f k.ot), k.r.keep (fun b hb => heap_setCell_other _ _ _ _ (by rintro rfl; exact ref_rest_ne f k.r hb)), k.ft.set, k.mc, k.mt, k.ne, k.ic, k.it, k.own, k.rel, k.ok, k.run, k.xb⟩

theorem RAt.drew {w w3 : World} {p : Nat} {iv c t iv2 c1 t1 : Value} {s s1 : St} {T1 : List Nat} {lo1 li1 : Int} {af1 : Bool} {R R2 : List Nat} {x : Nat} (k : RAt w w3 p iv c t iv2 c1 t1 s s1 T1 lo1 li1 af1 R R2 x) : RAt w w3.drew p iv c t iv2 c1 t1 s s1 T1 lo1 li1 af1 R R2 x :=
  ⟨k.oc, k.ot, k.r, ⟨k.ft.os, k.ft.tape, k.ft.output, k.ft.size, k.ft.block⟩, k.mc, k.mt, k.ne, k.ic, k.it, k.own, k.rel, k.ok, k.run, k.xb⟩
theorem AnyBut.relist {P : Program} {ops : Array Oper} {Q : Exit → Act → World → Prop} {md : Region.Mode} {S : World → Prop} {T : Nat → Bool} {fuel : Nat} {l l' : Array Bool} {a : Act} {w : World} (h : AnyBut P md ops Q S T fuel l' a w) (e : l = l') : AnyBut P md ops Q S T fuel l a w := e ▸ h
theorem via7 {M : Value → Value → World → Prop} {T : Value → Value → Value → Value → World → Prop} {G : Prop} (h : (∀ a b c d u, M c d u → T a b c d u) → G) (t : ∀ a b c d u, M c d u → T a b c d u) : G := h t

theorem go_lit {w w4 w5 : World} {p : Nat} {iv c t iv2 c1 t1 c5 : Value} {s s1 : St} {T1 : List Nat} {lo1 li1 : Int} {af1 : Bool} {R R2 : List Nat} {x lf : Nat} {o : Obj} (k : RAt w w4 p iv c t iv2 c1 t1 s s1 T1 lo1 li1 af1 R R2 x)
    (f : RefB w4 p iv2 c1 t1 lo1 lf li1 (decide (s1.m = .skip)) af1) (hlf : s1.left = lf + 1) (hm : s1.m = .lit) (ho : OwnB w5 0 c5 (s1.H ++ [x])) (hg : (w4.alloc o).grownBy w5 c1.ownBlock) (hmv : Moved c1 c5 w4) :
    RGo w (w5.setCell ⟨p, 1, none⟩ c5) p iv c t iv2 c5 t1 s (litS s1 x).1 T1 lo1 li1 af1 R R2 := by
  have hp1 := ref_row_ne f k.oc
  have f5 := ((f.alloc o).grown hg hp1).set1 c5
  have hlt : ∀ b, b < w4.heap.size → c1.ownBlock ≠ some b → w5.heap[b]? = w4.heap[b]? := fun b hb hn => by
    rw [hg.block b (by simp; omega) (fun e => hn e.symm), Below.heap_alloc w4 o b hb]
  have tl := ownB_lt k.ot
  have rl := k.r.lt
  have ot5 : OwnB w5 0 t1 T1 := k.ot.same fun b hb => hlt b (tl b hb) (fun e => k.ne b e hb)
  have r5 : RestB w5 iv2 R2 := k.r.keep fun b hb => hlt b (rl b hb) (k.ic b hb)
  have ff5 := (f.alloc o).grown hg hp1
  have hs5 : w4.heap.size ≤ w5.heap.size := Nat.le_trans (by simp) hg.size
  have ft5 : Foot2 p c1 t1 w4 w5 := ⟨hg.os, hg.tape, hg.output, hs5, fun b h1 _ h3 _ => hlt b h1 h3⟩
  have hstep : stepS s1 x = ((litS s1 x).1, 0) := by unfold stepS; rw [hm]; rfl
  refine ⟨⟨?_, ?_, ot5.off (ref_row_ne ff5 ot5), ?_, ?_, k.it, rel_lit k.rel hm x⟩, ?_, r5.keep (fun b hb => heap_setCell_other _ _ _ _ (by rintro rfl; exact ref_rest_ne ff5 r5 hb)), k.own, ?_, (k.ft.trans k.mc k.mt ft5).set, k.mc.trans hmv k.ft.size, k.mt⟩
  · rw [lit_left, lit_ns, hlf]
    have e : decide (s1.m = .skip) = false := by rw [hm]; rfl
    rw [e] at f5
    exact f5
  · rw [lit_H]; exact ho.off (ref_row_ne ff5 ho)
  · intro g hg' e
    rcases hmv with m | m
    · rw [m] at hg'; exact k.ne g hg' e
    · have := m g hg'; have := tl g e; omega
  · intro g hg' e
    rcases hmv with m | m
    · rw [m] at e; exact k.ic g hg' e
    · have := m g e; have := rl g hg'; omega
  · have := ok_step k.ok x k.xb
    rw [hstep] at this
    exact this
  · rw [k.run]
    conv => lhs; unfold runS
    rw [hstep]
    rfl

/-- behind clear -/
theorem go_clear {w w3 w4 : World} {p : Nat} {iv c t iv2 c1 t1 : Value} {s s1 : St} {T1 : List Nat} {lo1 li1 : Int} {af1 : Bool} {R R2 : List Nat} {x : Nat} (k : RAt w w3 p iv c t iv2 c1 t1 s s1 T1 lo1 li1 af1 R R2 x)
    {lo lf li : Int} {sk af : Bool} (f : RefB w3 p iv2 c1 t1 lo lf li sk af) (f4 : RefB w4 p iv2 (.slice none 0 0) (.slice none 0 0) 0 0 0 false false) (ft : Foot2 p c1 t1 w3 w4) (hb : ∀ b, b ≠ p → w4.heap[b]? = w3.heap[b]?) (hrun : runS s1 (x :: R2) = runS st0 R2) :
    RGo w w4 p iv c t iv2 (.slice none 0 0) (.slice none 0 0) s st0 [] 0 0 false R R2 := by
  refine ⟨⟨f4, World.ownsRow_nil _ _ _ _, World.ownsRow_nil _ _ _ _, (fun g h => by simp [Value.ownBlock] at h), (fun g h e => by simp [Value.ownBlock] at e), (fun g h e => by simp [Value.ownBlock] at e), rel0⟩, ok0, k.r.keep (fun b h => hb b (by rintro rfl; exact ref_rest_ne f k.r h)), k.own, k.run.trans hrun, k.ft.trans k.mc k.mt ft, Moved.none _ _, Moved.none _ _⟩

theorem go_skip {w w3 : World} {p : Nat} {iv c t iv2 c1 t1 : Value} {s s1 : St} {T1 : List Nat} {lo1 li1 : Int} {af1 : Bool} {R R2 : List Nat} {x : Nat} {b : Bool} (k : RAt w w3 p iv c t iv2 c1 t1 s s1 T1 lo1 li1 af1 R R2 x)
    (f : RefB w3 p iv2 c1 t1 lo1 s1.left li1 (decide (s1.m = .skip)) af1) (hm : s1.m = .skip) (he : endsB s1 x = false) (hb : (x == 13) = b) :
    RGo w (w3.setCell ⟨p, 7, none⟩ (.bool b)) p iv c t iv2 c1 t1 s { s1 with ahead := x } T1 lo1 li1 b R R2 := by
  have hstep : stepS s1 x = ({ s1 with ahead := x }, 0) := by
    unfold stepS
    rw [hm]
    show skipS s1 x = _
    unfold skipS
    rw [he, if_neg (by decide), hm]
  have kk := k.set (j := 7) (v := .bool b) f
  refine ⟨⟨f.set7 b, kk.oc, kk.ot, k.ne, k.ic, k.it, ?_⟩, ?_, kk.r, k.own, ?_, kk.ft, k.mc, k.mt⟩
  · refine ⟨fun h => ?_, fun h => ?_, fun _ => hb.symm⟩
    · rw [show ({ s1 with ahead := x } : St).m = s1.m from rfl, hm] at h; exact nomatch h
    · rw [show ({ s1 with ahead := x } : St).m = s1.m from rfl, hm] at h; exact nomatch h
  · have := ok_step k.ok x k.xb
    rw [hstep] at this
    exact this
  · rw [k.run]
    conv => lhs; unfold runS
    rw [hstep]
    rfl
/-- behind a line's byte put into both rows -/
structure RMid (w w3 : World) (p : Nat) (iv c t iv2 c1 t1 : Value) (H T R2 : List Nat) : Prop where
  oc : OwnB w3 0 c1 H
  ot : OwnB w3 0 t1 T
  r : RestB w3 iv2 R2
  ft : Foot2 p c t w w3
  mc : Moved c c1 w
  mt : Moved t t1 w
  ne : ∀ g, c1.ownBlock = some g → t1.ownBlock ≠ some g
  ic : ∀ g, iv2.ownBlock = some g → c1.ownBlock ≠ some g
  it : ∀ g, iv2.ownBlock = some g → t1.ownBlock ≠ some g
  own : iv2.ownBlock = iv.ownBlock
theorem RMid.set {w w3 : World} {p j : Nat} {v iv c t iv2 c1 t1 : Value} {H T R2 : List Nat} (k : RMid w w3 p iv c t iv2 c1 t1 H T R2) {i' c' t' : Value} {lo lf li : Int} {sk af : Bool} (f : RefB w3 p i' c' t' lo lf li sk af) : RMid w (w3.setCell ⟨p, j, none⟩ v) p iv c t iv2 c1 t1 H T R2 :=
  ⟨k.oc.off (ref_row_ne f k.oc), k.ot.off (ref_row_ne f k.ot), k.r.keep (fun b hb => heap_setCell_other _ _ _ _ (by rintro rfl; exact ref_rest_ne f k.r hb)), k.ft.set, k.mc, k.mt, k.ne, k.ic, k.it, k.own⟩
theorem rmid_of {w w8 u4 : World} {p : Nat} {iv c t iv2 c1 t1 c2 t2 : Value} {s s1 : St} {T1 : List Nat} {lo1 li1 : Int} {af1 : Bool} {R R2 : List Nat} {x : Nat} (k : RAt w w8 p iv c t iv2 c1 t1 s s1 T1 lo1 li1 af1 R R2 x) (m : Mid w8 u4 c1 t1 c2 t2 s1.H T1 x) :
    RMid w u4 p iv c t iv2 c2 t2 (s1.H ++ [x]) (T1 ++ [x]) R2 := by
  have rl := k.r.lt
  refine ⟨m.oc, m.ot, k.r.keep (fun b hb => m.block b (rl b hb) (k.ic b hb) (k.it b hb)), k.ft.trans k.mc k.mt ⟨m.os, m.tape, m.output, m.size, fun b h1 _ h3 h4 => m.block b h1 h3 h4⟩, k.mc.trans m.mc k.ft.size, k.mt.trans m.mt k.ft.size, m.ne, ?_, ?_, k.own⟩
  · intro g hg e
    rcases m.mc with q | q
    · rw [q] at e; exact k.ic g hg e
    · have := q g e; have := rl g hg; omega
  · intro g hg e
    rcases m.mt with q | q
    · rw [q] at e; exact k.it g hg e
    · have := q g e; have := rl g hg; omega

/-- a byte of a line that goes on -/
theorem go_push {w w3 w8 : World} {p : Nat} {iv c t iv2 c1 t1 c2 t2 : Value} {s s1 : St} {T1 : List Nat} {lo1 li1 : Int} {af1 b : Bool} {R R2 : List Nat} {x : Nat} (k : RAt w w8 p iv c t iv2 c1 t1 s s1 T1 lo1 li1 af1 R R2 x)
    (m : RMid w w3 p iv c t iv2 c2 t2 (s1.H ++ [x]) (T1 ++ [x]) R2) (f : RefB w3 p iv2 c2 t2 ((s1.len : Int) + 1) s1.left (s1.lits : Int) (decide (s1.m = .skip)) b) (hm : s1.m = .line) (hb : (x == 13) = b) (hl : s1.len + 1 ≤ 4096) (he : endsB s1 x = false) :
    RGo w w3 p iv c t iv2 c2 t2 s (pushS s1 x) (T1 ++ [x]) ((s1.len : Int) + 1) (s1.lits : Int) b R R2 := by
  have hstep : stepS s1 x = (pushS s1 x, 0) := by
    unfold stepS
    rw [hm]
    show lineS s1 x = _
    unfold lineS
    rw [if_neg (by omega), if_pos he]
  have hT := (k.rel.1 hm).2.2.1
  have hsg := k.ok.seg
  refine ⟨⟨f, m.oc, m.ot, m.ne, m.ic, m.it, fun _ => ⟨by show (s1.len : Int) + 1 = ((s1.len + 1 : Nat) : Int); omega, rfl, ?_, hb.symm⟩, fun h => ?_, fun h => ?_⟩, ?_, m.r, m.own, ?_, m.ft, m.mc, m.mt⟩
  · show T1 ++ [x] = (s1.H ++ [x]).drop s1.seg
    rw [List.drop_append_of_le_length hsg, hT]
  · exact absurd h (by show s1.m ≠ _; rw [hm]; decide)
  · exact absurd h (by show s1.m ≠ _; rw [hm]; decide)
  · have := ok_step k.ok x k.xb
    rw [hstep] at this
    exact this
  · rw [k.run]
    conv => lhs; unfold runS
    rw [hstep]
    rfl

/-- a line too long, its end not here -/
theorem go_long {w w3 w8 : World} {p : Nat} {iv c t iv2 c1 t1 c2 t2 : Value} {s s1 : St} {T1 : List Nat} {lo1 li1 lo li : Int} {af1 b : Bool} {R R2 : List Nat} {x : Nat} {e : Ending} (k : RAt w w8 p iv c t iv2 c1 t1 s s1 T1 lo1 li1 af1 R R2 x)
    (m : RMid w w3 p iv c t iv2 c2 t2 (s1.H ++ [x]) (T1 ++ [x]) R2) (f : RefB w3 p iv2 (.slice none 0 0) (.slice none 0 0) lo 0 li true b) (hm : s1.m = .line) (hb : (x == 13) = b) (hl : 4096 < s1.len + 1) (he : endsB s1 x = false) (hE : e = .returned (.tuple #[.slice none 0 0, .int .i64 3])) :
    RNextIs w p iv c t (runS s R) e w3 := by
  have hstep : stepS s1 x = ({ st0 with m := .skip, ahead := x }, 3) := by
    unfold stepS
    rw [hm]
    show lineS s1 x = _
    unfold lineS
    rw [if_pos hl, he, if_neg (by decide)]
  have hrun : runS s R = ({ st0 with m := .skip, ahead := x }, R2, 3, []) := by
    rw [k.run]
    conv => lhs; unfold runS
    rw [hstep]
    rfl
  rw [hrun]
  exact ⟨_, iv2, _, _, [], lo, li, b, hE, ⟨f, World.ownsRow_nil _ _ _ _, World.ownsRow_nil _ _ _ _, (fun g h => by simp [Value.ownBlock] at h), (fun g h e => by simp [Value.ownBlock] at e), (fun g h e => by simp [Value.ownBlock] at e), (fun h => nomatch h), (fun h => nomatch h), fun _ => hb.symm⟩, m.r, m.own, ⟨none, 0, 0, rfl, rfl, Nat.le_refl _, by decide, by simp, by simp, by simp⟩, m.ft, Moved.none _ _, Moved.none _ _⟩
/-- an end behind clear, whatever is told -/
theorem go_over {w w3 w4 w8 : World} {p : Nat} {iv c t iv2 c1 t1 c2 t2 c3 t3 o : Value} {s s1 : St} {T1 H T out : List Nat} {lo1 li1 : Int} {af1 : Bool} {R R2 : List Nat} {x kind : Nat} {e : Ending} (k : RAt w w8 p iv c t iv2 c1 t1 s s1 T1 lo1 li1 af1 R R2 x)
    (m : RMid w w3 p iv c t iv2 c2 t2 H T R2) {lo lf li : Int} {sk af : Bool} (f : RefB w3 p iv2 c3 t3 lo lf li sk af) (f4 : RefB w4 p iv2 (.slice none 0 0) (.slice none 0 0) 0 0 0 false false) (ft : Foot2 p c3 t3 w3 w4) (hb : ∀ b, b ≠ p → w4.heap[b]? = w3.heap[b]?)
    (hrun : runS s1 (x :: R2) = (st0, R2, kind, out)) (ho : RowB w4 o out) (hE : e = .returned (.tuple #[o, .int .i64 (kind : Nat)])) :
    RNextIs w p iv c t (runS s R) e w4 := by
  rw [k.run, hrun]
  exact ⟨_, iv2, _, _, [], 0, 0, false, hE, ⟨f4, World.ownsRow_nil _ _ _ _, World.ownsRow_nil _ _ _ _, (fun g h => by simp [Value.ownBlock] at h), (fun g h e => by simp [Value.ownBlock] at e), (fun g h e => by simp [Value.ownBlock] at e), rel0⟩, m.r.keep (fun b h => hb b (by rintro rfl; exact ref_rest_ne f m.r h)), m.own, ho, m.ft.trans m.mc m.mt ⟨ft.os, ft.tape, ft.output, ft.size, fun b _ h2 _ _ => hb b h2⟩, Moved.none _ _, Moved.none _ _⟩
theorem rowB_none (w : World) : RowB w (.slice none 0 0) [] := ⟨none, 0, 0, rfl, rfl, Nat.le_refl _, by decide, by simp, by simp, by simp⟩

/-- a literal is announced -/
theorem go_ann {w w3 w8 : World} {p : Nat} {iv c t iv2 c1 t1 c2 t2 : Value} {s s1 : St} {T1 T : List Nat} {lo1 li1 : Int} {af1 : Bool} {R R2 : List Nat} {x n : Nat} {e : Ending} (k : RAt w w8 p iv c t iv2 c1 t1 s s1 T1 lo1 li1 af1 R R2 x)
    (m : RMid w w3 p iv c t iv2 c2 t2 (s1.H ++ [x]) T R2) (f : RefB w3 p iv2 c2 (.slice none 0 0) ((s1.len : Int) + 1) n ((s1.lits : Int) + 1) false false)
    (hstep : stepS s1 x = (nextS { pushS s1 x with lits := s1.lits + 1, left := n }, 2)) (hE : e = .returned (.tuple #[.slice none 0 0, .int .i64 2])) :
    RNextIs w p iv c t (runS s R) e w3 := by
  have hrun : runS s R = (nextS { pushS s1 x with lits := s1.lits + 1, left := n }, R2, 2, []) := by
    rw [k.run]
    conv => lhs; unfold runS
    rw [hstep]
    rfl
  rw [hrun]
  have q1 : (nextS { pushS s1 x with lits := s1.lits + 1, left := n }).left = n := by unfold nextS; split <;> rfl
  have q2 : (nextS { pushS s1 x with lits := s1.lits + 1, left := n }).H = s1.H ++ [x] := by unfold nextS; split <;> rfl
  have q3 : decide ((nextS { pushS s1 x with lits := s1.lits + 1, left := n }).m = .skip) = false := by unfold nextS; split <;> rfl
  have q4 : RelS (nextS { pushS s1 x with lits := s1.lits + 1, left := n }) [] ((s1.len : Int) + 1) ((s1.lits : Int) + 1) false := by
    by_cases h0 : n = 0
    · subst h0
      have e : nextS { pushS s1 x with lits := s1.lits + 1, left := 0 } = { pushS s1 x with lits := s1.lits + 1, left := 0, m := .line, seg := (s1.H ++ [x]).length, ahead := 0 } := by unfold nextS; rfl
      rw [e]
      refine ⟨fun _ => ⟨?_, ?_, ?_, rfl⟩, (fun h => nomatch h), (fun h => nomatch h)⟩
      · show (s1.len : Int) + 1 = ((s1.len + 1 : Nat) : Int); omega
      · show (s1.lits : Int) + 1 = ((s1.lits + 1 : Nat) : Int); omega
      · show [] = (s1.H ++ [x]).drop (s1.H ++ [x]).length; simp
    · have e : nextS { pushS s1 x with lits := s1.lits + 1, left := n } = { pushS s1 x with lits := s1.lits + 1, left := n, m := .lit } := by unfold nextS; simp [h0]
      rw [e]
      refine ⟨(fun h => nomatch h), fun _ => ⟨?_, ?_, rfl, rfl⟩, (fun h => nomatch h)⟩
      · show (s1.len : Int) + 1 = ((s1.len + 1 : Nat) : Int); omega
      · show (s1.lits : Int) + 1 = ((s1.lits + 1 : Nat) : Int); omega
  refine ⟨_, iv2, c2, _, [], _, _, false, hE, ⟨?_, ?_, World.ownsRow_nil _ _ _ _, (fun g h e => by simp [Value.ownBlock] at e), m.ic, (fun g h e => by simp [Value.ownBlock] at e), q4⟩, m.r, m.own, rowB_none _, m.ft, m.mc, Moved.none _ _⟩
  · show RefB w3 p iv2 c2 _ _ (((nextS { pushS s1 x with lits := s1.lits + 1, left := n }).left : Nat) : Int) _ (decide ((nextS { pushS s1 x with lits := s1.lits + 1, left := n }).m = .skip)) false
    rw [q1, q3]
    exact f
  · show OwnB w3 0 c2 (nextS { pushS s1 x with lits := s1.lits + 1, left := n }).H
    rw [q2]
    exact m.oc
theorem RMid.drewN {w w3 : World} {p : Nat} {iv c t iv2 c1 t1 : Value} {H T R2 : List Nat} (k : RMid w w3 p iv c t iv2 c1 t1 H T R2) (n : Nat) : RMid w (w3.drewN n) p iv c t iv2 c1 t1 H T R2 := ⟨k.oc, k.ot, k.r, k.ft.drewN n, k.mc, k.mt, k.ne, k.ic, k.it, k.own⟩
theorem step_end {s1 : St} {x : Nat} (hm : s1.m = .line) (hl : s1.len + 1 ≤ 4096) (he : endsB s1 x = true) {L : List Nat} (hp : partS (pushS s1 x) = L) : stepS s1 x = (match annP L with
      | none => (pushS s1 x, 1)
      | some n => if 16384 < n ∨ s1.lits = 8 then (st0, 3) else (nextS { pushS s1 x with lits := s1.lits + 1, left := n }, 2)) := by
  unfold stepS
  rw [hm]
  show lineS s1 x = _
  unfold lineS
  rw [if_neg (by omega), he, if_neg (by decide), hp]
  rfl
end Go.Proofs.Ytgafalobbhoaoaa
