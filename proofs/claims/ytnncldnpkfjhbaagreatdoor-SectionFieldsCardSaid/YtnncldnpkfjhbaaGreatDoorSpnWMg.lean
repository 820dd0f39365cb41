/-
  The pieces between the lines that a boundary makes: the walk.
-/
import Derived.Test.YtnncldnpkfjhbaaGreatDoorPreMg
import Derived.Laws.EntriesVeiled
namespace Go.Proofs.YtnncldnpkfjhbaaGreatDoor
set_option linter.unusedVariables false
open Go.RowKit Go.Lib Go.Shelf
attribute [local go_sem] Oper.semAt_some

theorem lines_whole (N : Nat) : ∀ (k : Nat) (r : List Nat), r.length ≤ N → ∀ x ∈ linesP k r, k ≤ x.1 ∧ x.1 < k + r.length ∧ x.2.1 = wholeN (r.drop (x.1 - k)) := by
  induction N with
  | zero =>
    intro k r h x hx
    obtain rfl : r = [] := List.eq_nil_of_length_eq_zero (by omega)
    rw [linesP_nil] at hx
    cases hx
  | succ N ih =>
    intro k r h x hx
    by_cases hr : r = []
    · subst hr; rw [linesP_nil] at hx; cases hx
    · have h0 : 0 < r.length := List.length_pos_iff.2 hr
      rw [linesP_cons k hr] at hx
      have h1 := wholeN_pos hr
      have h2 := wholeN_le r
      rcases List.mem_cons.1 hx with rfl | hx
      · exact ⟨Nat.le_refl _, by simp; omega, by simp⟩
      · obtain ⟨a, b, c⟩ := ih _ _ (by simp; omega) x hx
        simp at b
        refine ⟨by omega, by omega, ?_⟩
        rw [c, List.drop_drop, show wholeN r + (x.1 - (k + wholeN r)) = x.1 - k by omega]
theorem res31 (tmps : Array Value) (W : World) (b : Nat) (v : Value) (h : tmps[8]?.getD undef = .pointer (some ⟨b, 0, none⟩)) (hc : W.cell? ⟨b, 0, none⟩ = some v) : (results Tryz.f31 tmps).run Tryz.prog W = .ok v W := by
  simp [results, Tryz.results31, h, hc, asAddr, loadVar, go_sem]
theorem keepX_then {X : Nat → Prop} {A B C : World} (h : KeepX X A B) (k : KeepX (fun _ => False) B C) : KeepX X A C :=
  ⟨fun j D T fz hj hx => ((k.1 j D T fz ((h.1 j D T fz hj hx).trans hj) (fun h => h)).trans (h.1 j D T fz hj hx)), Nat.le_trans h.2 k.2⟩
theorem ownsRow_base {w : World} {B C T z n : Nat} {v : Value} {xs : List Value} (h : w.ownsRow B T z v n xs) (hc : C ≤ B) : w.ownsRow C T z v n xs := by
  refine ⟨h.1, ?_⟩
  rcases h.2 with h2 | ⟨g, cap, cur, hv, hB, r⟩
  · exact .inl h2
  · exact .inr ⟨g, cap, cur, hv, Nat.le_trans hc hB, r⟩
/-- the world behind []byte("--") -/
abbrev ddW (w : World) : World := w.alloc (.cells #[.int .u8 45, .int .u8 45] 5 (2, 3))
theorem dd_conv (w : World) : (convert 22 22 (.slice (some ⟨w.heap.size, 0, none⟩) 2 2)).run Tryz.prog (w.alloc (.cells #[.int .u8 45, .int .u8 45] 5)) = .ok (.slice (some ⟨w.heap.size, 0, none⟩) 2 2) (ddW w) :=
  Lib.run_convert_bytes_const w 22 5 #[.int .u8 45, .int .u8 45] 2 2 Tryz.underlying22 Tryz.underlying5
theorem dd_cells (w : World) : CellsL (ddW w) w.heap.size 0 [45, 45] := fun i hi => by
  rw [Nat.zero_add, cell_of_row _ _ i _ 5 (2, 3) (heap_alloc_new w _)]
  have : i = 0 ∨ i = 1 := by simp at hi; omega
  rcases this with rfl | rfl <;> rfl
theorem keepE_from {n : Nat} {W W' : World} (h : KeepE n W W') (hn : n + 10 ≤ W.heap.size) : KeepsFrom (n + 10) W W' := ⟨h.2, fun k o hk ho hc => (h.1 k (by omega) (by omega) (Array.getElem?_eq_some_iff.1 ho).1 (fun C fz e => by
  rw [ho] at e
  cases e
  cases hc)).trans ho⟩
theorem keepE_kp {n : Nat} {W W' : World} (h : KeepE n W W') (hb : Below n W W') (hn : n + 10 ≤ W.heap.size) : KpM n (n + 8) W W' :=
  ⟨hb, h.1 _ (by omega) (by omega) (by omega) (fun _ _ _ => by omega), h.1 _ (by omega) (by omega) (by omega) (fun _ _ _ => by omega), h.1 _ (by omega) (by omega) (by omega) (fun _ _ _ => by omega)⟩
def SpJ (n : Nat) (w : World) (a : Option Addr) (l : List Nat) (cap t : Nat) (bd : ByteArray) (bn : List Nat) (pre : List (Nat × Nat × Nat)) (W : World) : Prop :=
  ∃ s, SpI n w W a l cap t bd s ∧ (∀ rest, runSp l bn t (pre ++ rest) ([], none) = runSp l bn t rest s) ∧ n + 10 ≤ W.heap.size ∧ s.1.length ≤ 29
def SpX (n : Nat) (w : World) (l : List Nat) (t : Nat) (bn : List Nat) (c : Code) (pre : List (Nat × Nat × Nat)) (W : World) : Prop :=
  c = .ret ∧ ∃ o, (∃ v, Boxed W (n + 3) 67 v ∧ W.ownsRow (n + 10) 70 2 v o.length (spC o)) ∧ (∀ rest, runSp l bn t (pre ++ rest) ([], none) = o) ∧ Below n w W ∧ n + 10 ≤ W.heap.size
theorem run_none {l bn : List Nat} {t : Nat} {x : Nat × Nat × Nat} {xs : List (Nat × Nat × Nat)} {s : List (Nat × Nat) × Option Nat} (h : markS l bn x = none) : runSp l bn t (x :: xs) s = runSp l bn t xs s := by rw [runSp, h]
theorem run_stop {l bn : List Nat} {t : Nat} {x : Nat × Nat × Nat} {xs : List (Nat × Nat × Nat)} {s : List (Nat × Nat) × Option Nat} {b : Bool} (h : markS l bn x = some b) (h2 : b = true ∨ (closeS l s x.1).length = 30) : runSp l bn t (x :: xs) s = closeS l s x.1 := by rw [runSp, h]; simp only; rw [if_pos h2]
theorem run_on {l bn : List Nat} {t : Nat} {x : Nat × Nat × Nat} {xs : List (Nat × Nat × Nat)} {s : List (Nat × Nat) × Option Nat} {b : Bool} (h : markS l bn x = some b) (h2 : ¬ (b = true ∨ (closeS l s x.1).length = 30)) : runSp l bn t (x :: xs) s = runSp l bn t xs (closeS l s x.1, some (x.1 + x.2.1)) := by rw [runSp, h]; simp only; rw [if_neg h2]
theorem closeS_len (l : List Nat) (s : List (Nat × Nat) × Option Nat) (k : Nat) : (closeS l s k).length ≤ s.1.length + 1 := by
  unfold closeS
  split <;> simp
/-- the line is none: all stands -/
theorem SpJ.stays {n : Nat} {w W W' : World} {a : Option Addr} {l : List Nat} {cap t : Nat} {bd : ByteArray} {bn : List Nat} {pre : List (Nat × Nat × Nat)} {x : Nat × Nat × Nat} {st : List (Nat × Nat) × Option Nat}
    (hS : SpI n w W a l cap t bd st) (hr : ∀ rest, runSp l bn t (pre ++ rest) ([], none) = runSp l bn t rest st) (h10 : n + 10 ≤ W.heap.size) (h29 : st.1.length ≤ 29) (hb : Below W.heap.size W W') (hm : markS l bn x = none) :
    KeepsFrom (n + 10) W W' ∧ KpM n (n + 8) W W' ∧ SpJ n w a l cap t bd bn (pre ++ [x]) W' := by
  have hbn := hb.mono (show n ≤ W.heap.size by omega)
  refine ⟨keepE_from (keepE_below hb) h10, keepE_kp (keepE_below hb) hbn h10, st, hS.keep (keepX_below hb) hbn (fun k h => h.elim), fun rest => ?_, Nat.le_trans h10 hb.size, h29⟩
  rw [List.append_assoc, hr]
  exact run_none hm
/-- a piece is ended, and the pieces are told -/
theorem SpX.ends {n : Nat} {w W V w4 : World} {a : Option Addr} {l : List Nat} {cap t : Nat} {bd : ByteArray} {bn : List Nat} {pre : List (Nat × Nat × Nat)} {x : Nat × Nat × Nat} {st : List (Nat × Nat) × Option Nat} {b : Bool} {v : Value}
    (hr : ∀ rest, runSp l bn t (pre ++ rest) ([], none) = runSp l bn t rest st) (h10 : n + 10 ≤ W.heap.size) (hb : Below W.heap.size W V) (hS4 : SpI n w w4 a l cap t bd (closeS l st x.1, none)) (hK4 : KeepE n V w4)
    (hm : markS l bn x = some b) (h2 : b = true ∨ (closeS l st x.1).length = 30) (hv : Boxed w4 (n + 4) 67 v) (hrow : w4.ownsRow (n + 10) 70 2 v (closeS l st x.1).length (spC (closeS l st x.1))) :
    KeepsFrom (n + 10) W (w4.setCell ⟨n + 3, 0, none⟩ v) ∧ SpX n w l t bn .ret (pre ++ [x]) (w4.setCell ⟨n + 3, 0, none⟩ v) := by
  have hk1 := keepE_from ((keepE_below hb).then hK4) h10
  refine ⟨hk1.trans ((KeepsOthers.setCell w4 _ _).from (n + 10)), rfl, closeS l st x.1, ⟨v, hS4.br.set _, ownsRow_keepX2 hrow (keepX_set w4 _ _ _) fun k C fz e hB h => by omega⟩, fun rest => ?_, hS4.below.setCell (p := ⟨n + 3, 0, none⟩) (by simp) _, ?_⟩
  · rw [List.append_assoc, hr]
    exact run_stop hm h2
  · have := hS4.size
    simpa [World.setCell] using this
/-- a piece is ended, and another one begun -/
theorem SpJ.ends {n : Nat} {w W V w4 : World} {a : Option Addr} {l : List Nat} {cap t : Nat} {bd : ByteArray} {bn : List Nat} {pre : List (Nat × Nat × Nat)} {x : Nat × Nat × Nat} {st : List (Nat × Nat) × Option Nat} {b : Bool}
    (hr : ∀ rest, runSp l bn t (pre ++ rest) ([], none) = runSp l bn t rest st) (h10 : n + 10 ≤ W.heap.size) (h29 : st.1.length ≤ 29) (hb : Below W.heap.size W V) (hS4 : SpI n w w4 a l cap t bd (closeS l st x.1, none)) (hK4 : KeepE n V w4) (hB4 : Below n V w4)
    (hm : markS l bn x = some b) (h2 : ¬ (b = true ∨ (closeS l st x.1).length = 30)) :
    KeepsFrom (n + 10) W (w4.setCell ⟨n + 5, 0, none⟩ (.int .i64 (x.1 + x.2.1 : Nat))) ∧ KpM n (n + 8) W (w4.setCell ⟨n + 5, 0, none⟩ (.int .i64 (x.1 + x.2.1 : Nat))) ∧ SpJ n w a l cap t bd bn (pre ++ [x]) (w4.setCell ⟨n + 5, 0, none⟩ (.int .i64 (x.1 + x.2.1 : Nat))) := by
  have hk1 := ((keepE_below (n := n) hb).then hK4).then (keepE_set n w4 (n + 5) (.int .i64 (x.1 + x.2.1 : Nat)) (.inr rfl))
  have hb5 : Below n w4 (w4.setCell ⟨n + 5, 0, none⟩ (.int .i64 (x.1 + x.2.1 : Nat))) := (Below.refl n w4).setCell (p := ⟨n + 5, 0, none⟩) (by simp) _
  obtain ⟨v, h3, h4⟩ := hS4.bo
  refine ⟨keepE_from hk1 h10, keepE_kp hk1 (((hb.mono (by omega)).trans hB4).trans hb5) h10, (closeS l st x.1, some (x.1 + x.2.1)), hS4.renew (keepE_set n w4 (n + 5) _ (.inr rfl)) hb5 ⟨v, h3.other (by omega) _, ownsRow_keepX2 h4 (keepX_set w4 _ _ _) fun k C fz e hB h => by omega⟩ (hS4.bg.set (begV (some (x.1 + x.2.1)))), fun rest => ?_, ?_, ?_⟩
  · rw [List.append_assoc, hr]
    exact run_on hm h2
  · have := hS4.size
    simpa [World.setCell] using this
  · have := closeS_len l st x.1
    show (closeS l st x.1).length ≤ 29
    omega
theorem SpJ.keep {n : Nat} {w W W' : World} {a : Option Addr} {l : List Nat} {cap t : Nat} {bd : ByteArray} {bn : List Nat} {pre : List (Nat × Nat × Nat)} (h : SpJ n w a l cap t bd bn pre W) {X : Nat → Prop} (hk : KeepX X W W') (hb : Below n W W') (hX : ∀ k, X k → n + 7 ≤ k ∧ ∀ C fz, W.heap[k]? = some (.cells C 70 fz) → k < n + 10) : SpJ n w a l cap t bd bn pre W' := by
  obtain ⟨s, h1, h2, h3, h4⟩ := h
  exact ⟨s, h1.keep hk hb hX, h2, Nat.le_trans h3 hk.2, h4⟩
theorem SpX.keep {n : Nat} {w W W' : World} {l : List Nat} {t : Nat} {bn : List Nat} {c : Code} {pre : List (Nat × Nat × Nat)} (h : SpX n w l t bn c pre W) {X : Nat → Prop} (hk : KeepX X W W') (hb : Below n W W') (hX : ∀ k, X k → n + 7 ≤ k ∧ ∀ C fz, W.heap[k]? = some (.cells C 70 fz) → k < n + 10) : SpX n w l t bn c pre W' := by
  obtain ⟨e, o, ⟨v, h1, h2⟩, h3, h4, h5⟩ := h
  exact ⟨e, o, ⟨v, boxed_keepX h1 hk (fun hx => by have := (hX _ hx).1; omega), ownsRow_keepX2 h2 hk fun k C fz e hB hx => by have := (hX k hx).2 C fz e; omega⟩, h3, h4.trans hb, Nat.le_trans h5 hk.2⟩
theorem keepX_from {n : Nat} {W W' : World} {row : Option Nat} (hn : n + 10 ≤ W.heap.size) (hg : W.grownBy W' row) (hr : ∀ r, row = some r → n + 10 ≤ r ∧ ∃ o : Obj, W.heap[r]? = some o ∧ o.isCells = false) : KeepX (fun _ => False) W W' ∧ Below n W W' := by
  refine ⟨⟨fun k C T fz hk _ => hg.block k (Array.getElem?_eq_some_iff.1 hk).1 (fun e => ?_), hg.size⟩, (Below.refl n W).grown hg (by omega) (fun k e => by have := (hr k e).1; omega)⟩
  obtain ⟨_, o, ho, hc⟩ := hr k e.symm
  rw [hk] at ho
  cases ho
  cases hc
theorem keepX_turn {n : Nat} {W W' : World} (hn : n + 10 ≤ W.heap.size) (hg : W.grownBy W' (some (n + 8))) : KeepX (fun k => k = n + 8) W W' ∧ Below n W W' :=
  ⟨⟨fun k C T fz hk hx => hg.block k (Array.getElem?_eq_some_iff.1 hk).1 (fun e => hx (Option.some.inj e)), hg.size⟩, (Below.refl n W).grown hg (by omega) (fun k e => by cases e; omega)⟩

set_option maxRecDepth 100000 in
set_option maxHeartbeats 8000000 in
theorem spans_any (a : Option Addr) (lb lo cap f t : Nat) (bd : List UInt8) (l : List Nat) (w : World) (ha : l ≠ [] → a = some ⟨lb, lo, none⟩) (hlb : l ≠ [] → lb < w.heap.size) (hc : CellsL w lb lo l) (hl : l.length ≤ cap) (hm : cap ≤ maxLen) (hlt : ∀ n ∈ l, n < 256) (hll : l.length ≤ 100000)
    (hf : f ≤ t) (ht : t ≤ l.length) (hbd : bd.length ≤ 1000) :
    Calls Tryz.prog 31 #[.slice a l.length cap, .int .i64 (f : Nat), .int .i64 (t : Nat), .string (strL bd)] w fun e W' => ∃ v, e = .returned v ∧ W'.ownsRow w.heap.size 70 2 v (spansS l (bd.map UInt8.toNat) f t).length (spC (spansS l (bd.map UInt8.toNat) f t)) ∧ Below w.heap.size w W' := by
  obtain ⟨bn, hbn⟩ : ∃ bn, bd.map UInt8.toNat = bn := ⟨_, rfl⟩
  rw [hbn]
  have HA := Lib.hid ha
  have HLB := Lib.hid hlb
  have HLT := Lib.hid hlt
  have HC := Lib.hid hc
  have HBN := Lib.hid hbn
  have HBS : Hid ((strL bd).size = bd.length) := Lib.hid (strL_size bd)
  obtain ⟨BD, hBD⟩ : ∃ BD, strL bd = BD := ⟨_, rfl⟩
  rw [hBD] at HBS ⊢
  have HBD := Lib.hid hBD
  clear ha hlb hlt hc hbn hBD
  refine (callsIn_wide (n := 3)).1 ?_
  refine callsIn_of_wp_marks Tryz.func31 rfl trivial ?_ rfl
  simp only [Tryz.ntmps31, List.size_toArray, List.length_cons, List.length_nil, Nat.reduceAdd, Nat.reduceSub, Array.replicate_succ, Array.replicate_zero, List.push_toArray, List.append_toArray, List.nil_append, List.cons_append]
  gi_wp2_with (refine ⟨trivial, ?_⟩; refine (callsIn_wide.2 (mlines_any _ _ _ _ _ _)).mono ?_; rintro e w' ⟨rfl, rfl⟩)
  obtain ⟨W0, hW0⟩ : ∃ W0, ((((((((((w.alloc (.cells #[.slice a l.length cap] 22)).alloc (.cells #[.int .i64 (t : Nat)] 3)).alloc (.cells #[.string BD] 9)).alloc (.cells #[.slice none 0 0] 67)).alloc (.cells #[.slice none 0 0] 67)).alloc (.cells #[.int .i64 (-1)] 3)).alloc (.cells #[.func (.func 53) #[] #[.pointer (some ⟨w.heap.size + 1 + 1 + 1 + 1 + 1, 0, none⟩), .pointer (some ⟨w.heap.size + 1 + 1 + 1 + 1, 0, none⟩), .pointer (some ⟨w.heap.size, 0, none⟩)]] 97)).alloc (.cells #[.slice a l.length cap] 22)).alloc (.cells #[.int .i64 (f : Nat)] 3)).alloc (.cells #[.int .i64 (t : Nat)] 3)) = W0 := ⟨_, rfl⟩
  have hcells : ∀ (k T : Nat) (v : Value), W0.heap[k]? = some (.cells #[v] T) → Boxed W0 k T v := fun k T v h => h
  have hsz : W0.heap.size = w.heap.size + 10 := by rw [← hW0]; simp
  have hbel : Below w.heap.size w W0 := by
    rw [← hW0]
    exact (((((((((((Below.refl _ w).alloc (by simp) _).alloc (by simp; try omega) _).alloc (by simp; try omega) _).alloc (by simp; try omega) _).alloc (by simp; try omega) _).alloc (by simp; try omega) _).alloc (by simp; try omega) _).alloc (by simp; try omega) _).alloc (by simp; try omega) _).alloc (by simp; try omega) _)
  have B0 : Boxed W0 w.heap.size 22 (.slice a l.length cap) := by rw [← hW0]; simpa using ((((((((((Boxed.new w 22 (.slice a l.length cap)).alloc _).alloc _).alloc _).alloc _).alloc _).alloc _).alloc _).alloc _).alloc _)
  have B1 : Boxed W0 (w.heap.size + 1) 3 (.int .i64 (t : Nat)) := by rw [← hW0]; simpa using (((((((((Boxed.new (w.alloc (.cells #[(.slice a l.length cap)] 22)) 3 (.int .i64 (t : Nat))).alloc _).alloc _).alloc _).alloc _).alloc _).alloc _).alloc _).alloc _)
  have B2 : Boxed W0 (w.heap.size + 2) 9 (.string BD) := by rw [← hW0]; simpa using ((((((((Boxed.new ((w.alloc (.cells #[(.slice a l.length cap)] 22)).alloc (.cells #[(.int .i64 (t : Nat))] 3)) 9 (.string BD)).alloc _).alloc _).alloc _).alloc _).alloc _).alloc _).alloc _)
  have B3 : Boxed W0 (w.heap.size + 3) 67 (.slice none 0 0) := by rw [← hW0]; simpa using (((((((Boxed.new (((w.alloc (.cells #[(.slice a l.length cap)] 22)).alloc (.cells #[(.int .i64 (t : Nat))] 3)).alloc (.cells #[(.string BD)] 9)) 67 (.slice none 0 0)).alloc _).alloc _).alloc _).alloc _).alloc _).alloc _)
  have B4 : Boxed W0 (w.heap.size + 4) 67 (.slice none 0 0) := by rw [← hW0]; simpa using ((((((Boxed.new ((((w.alloc (.cells #[(.slice a l.length cap)] 22)).alloc (.cells #[(.int .i64 (t : Nat))] 3)).alloc (.cells #[(.string BD)] 9)).alloc (.cells #[(.slice none 0 0)] 67)) 67 (.slice none 0 0)).alloc _).alloc _).alloc _).alloc _).alloc _)
  have B5 : Boxed W0 (w.heap.size + 5) 3 (.int .i64 (-1)) := by rw [← hW0]; simpa using (((((Boxed.new (((((w.alloc (.cells #[(.slice a l.length cap)] 22)).alloc (.cells #[(.int .i64 (t : Nat))] 3)).alloc (.cells #[(.string BD)] 9)).alloc (.cells #[(.slice none 0 0)] 67)).alloc (.cells #[(.slice none 0 0)] 67)) 3 (.int .i64 (-1))).alloc _).alloc _).alloc _).alloc _)
  have B6 : Boxed W0 (w.heap.size + 6) 97 (.func (.func 53) #[] #[.pointer (some ⟨w.heap.size + 1 + 1 + 1 + 1 + 1, 0, none⟩), .pointer (some ⟨w.heap.size + 1 + 1 + 1 + 1, 0, none⟩), .pointer (some ⟨w.heap.size, 0, none⟩)]) := by rw [← hW0]; simpa using ((((Boxed.new ((((((w.alloc (.cells #[(.slice a l.length cap)] 22)).alloc (.cells #[(.int .i64 (t : Nat))] 3)).alloc (.cells #[(.string BD)] 9)).alloc (.cells #[(.slice none 0 0)] 67)).alloc (.cells #[(.slice none 0 0)] 67)).alloc (.cells #[(.int .i64 (-1))] 3)) 97 (.func (.func 53) #[] #[.pointer (some ⟨w.heap.size + 1 + 1 + 1 + 1 + 1, 0, none⟩), .pointer (some ⟨w.heap.size + 1 + 1 + 1 + 1, 0, none⟩), .pointer (some ⟨w.heap.size, 0, none⟩)])).alloc _).alloc _).alloc _)
  have B7 : Boxed W0 (w.heap.size + 7) 22 (.slice a l.length cap) := by rw [← hW0]; simpa using (((Boxed.new (((((((w.alloc (.cells #[(.slice a l.length cap)] 22)).alloc (.cells #[(.int .i64 (t : Nat))] 3)).alloc (.cells #[(.string BD)] 9)).alloc (.cells #[(.slice none 0 0)] 67)).alloc (.cells #[(.slice none 0 0)] 67)).alloc (.cells #[(.int .i64 (-1))] 3)).alloc (.cells #[(.func (.func 53) #[] #[.pointer (some ⟨w.heap.size + 1 + 1 + 1 + 1 + 1, 0, none⟩), .pointer (some ⟨w.heap.size + 1 + 1 + 1 + 1, 0, none⟩), .pointer (some ⟨w.heap.size, 0, none⟩)])] 97)) 22 (.slice a l.length cap)).alloc _).alloc _)
  have B8 : Boxed W0 (w.heap.size + 8) 3 (.int .i64 (f : Nat)) := by rw [← hW0]; simpa using ((Boxed.new ((((((((w.alloc (.cells #[(.slice a l.length cap)] 22)).alloc (.cells #[(.int .i64 (t : Nat))] 3)).alloc (.cells #[(.string BD)] 9)).alloc (.cells #[(.slice none 0 0)] 67)).alloc (.cells #[(.slice none 0 0)] 67)).alloc (.cells #[(.int .i64 (-1))] 3)).alloc (.cells #[(.func (.func 53) #[] #[.pointer (some ⟨w.heap.size + 1 + 1 + 1 + 1 + 1, 0, none⟩), .pointer (some ⟨w.heap.size + 1 + 1 + 1 + 1, 0, none⟩), .pointer (some ⟨w.heap.size, 0, none⟩)])] 97)).alloc (.cells #[(.slice a l.length cap)] 22)) 3 (.int .i64 (f : Nat))).alloc _)
  have B9 : Boxed W0 (w.heap.size + 9) 3 (.int .i64 (t : Nat)) := by rw [← hW0]; simpa using (Boxed.new (((((((((w.alloc (.cells #[(.slice a l.length cap)] 22)).alloc (.cells #[(.int .i64 (t : Nat))] 3)).alloc (.cells #[(.string BD)] 9)).alloc (.cells #[(.slice none 0 0)] 67)).alloc (.cells #[(.slice none 0 0)] 67)).alloc (.cells #[(.int .i64 (-1))] 3)).alloc (.cells #[(.func (.func 53) #[] #[.pointer (some ⟨w.heap.size + 1 + 1 + 1 + 1 + 1, 0, none⟩), .pointer (some ⟨w.heap.size + 1 + 1 + 1 + 1, 0, none⟩), .pointer (some ⟨w.heap.size, 0, none⟩)])] 97)).alloc (.cells #[(.slice a l.length cap)] 22)).alloc (.cells #[(.int .i64 (f : Nat))] 3)) 3 (.int .i64 (t : Nat)))
  obtain ⟨i0, hi0, hz0, hz1, hz2⟩ := info_parts info70
  have HI := Lib.hid hi0
  clear hi0 hcells
  rw [hW0]
  clear hW0
  obtain ⟨n, hn⟩ : ∃ n, w.heap.size = n := ⟨_, rfl⟩
  rw [hn] at hsz hbel B0 B1 B2 B3 B4 B5 B6 B7 B8 B9 HLB ⊢
  have hI0 : SpJ n w a l cap t BD bn [] W0 := ⟨([], none), ⟨B0, B1, B2, B3, ⟨_, B4, World.ownsRow_nil _ _ _ _⟩, B5, B6, hbel, by omega⟩, fun _ => rfl, by omega, by simp⟩
  have HM := Lib.hid hm
  refine range_on rfl (by omega) (gf := 84) (lb := #[.pointer (some ⟨n + 8, 0, none⟩), .pointer (some ⟨n + 8 + 1, 0, none⟩), .pointer (some ⟨n + 8 - 1, 0, none⟩)]) rfl trivial (enters_of Tryz.func84 (by kernel_rfl) rfl)
    (mlines_on 2 a lb lo cap (n + 8) n f t l HA.out (by omega) HLB.out hf ht hl hm HLT.out) (by omega)
    (fun r => ⟨(B8.alloc _).alloc _, (B9.alloc _).alloc _, (B7.alloc _).alloc _, HC.out.kept (n₀ := n) (((hbel.alloc (by omega) _)).alloc (by simp; omega) _) HLB.out⟩)
    (fun h k => ⟨h.1.trans k.1, k.2.1.trans h.2.1, k.2.2.1.trans h.2.2.1, k.2.2.2.trans h.2.2.2⟩)
    (fun W r r' hb => ⟨(Below.refl _ W).grown (grownBy_putObj' W _ _) (by have := (Array.getElem?_eq_some_iff.1 hb.2).1; omega) (fun k e => by cases e; omega), World.putObj_heap_other (by omega), World.putObj_heap_other (by omega), World.putObj_heap_other (by omega)⟩)
    (fun _ => rfl)
    (SpJ n w a l cap t BD bn) (SpX n w l t bn) ?hI ?hIx ?hIB ?hIxB hI0
    (fun x => { tmps := #[.slice a l.length cap, .int .i64 (f : Nat), .int .i64 (t : Nat), .string BD, .pointer (some ⟨n, 0, none⟩), undef, .pointer (some ⟨n + 1, 0, none⟩), .pointer (some ⟨n + 2, 0, none⟩), .pointer (some ⟨n + 3, 0, none⟩), .pointer (some ⟨n + 4, 0, none⟩), .pointer (some ⟨n + 5, 0, none⟩), .pointer (some ⟨n + 6, 0, none⟩), .int .i64 (x.1 : Nat), .slice (some ⟨lb, lo + x.1, none⟩) x.2.2 (cap - x.1), undef, undef, undef, .func (.func 53) #[] #[.pointer (some ⟨n + 5, 0, none⟩), .pointer (some ⟨n + 4, 0, none⟩), .pointer (some ⟨n, 0, none⟩)], .slice a l.length cap, .int .i64 (f : Nat), .int .i64 (t : Nat), .func (.func 84) #[] #[.pointer (some ⟨n + 8, 0, none⟩), .pointer (some ⟨n + 9, 0, none⟩), .pointer (some ⟨n + 7, 0, none⟩)], .int .i64 (x.1 : Nat), .slice (some ⟨lb, lo + x.1, none⟩) x.2.2 (cap - x.1), undef, undef, undef, undef, undef, undef, undef, undef, undef, undef, undef, undef, undef, undef, undef, undef, undef, undef, undef, undef, undef, undef, undef, undef, undef, undef, undef, undef, undef, undef, undef, undef, undef, undef, undef, undef, undef, undef, undef, undef, undef, undef, undef, undef, undef], defers := [] }) ?assign ?body ?done ?stop
  case hI =>
    rw [hsz]
    intro s W W' row hs hg hr
    obtain ⟨s0, h1, h2, h3, h4⟩ := id hs
    obtain ⟨hk, hb⟩ := keepX_from h3 hg hr
    exact hs.keep hk hb (fun k h => h.elim)
  case hIx =>
    rw [hsz]
    intro c s W W' row hs hg hr
    obtain ⟨hk, hb⟩ := keepX_from hs.2.choose_spec.2.2.2 hg hr
    exact hs.keep hk hb (fun k h => h.elim)
  case hIB =>
    intro s W W' hs hg
    obtain ⟨s0, h1, h2, h3, h4⟩ := id hs
    obtain ⟨hk, hb⟩ := keepX_turn h3 hg
    exact hs.keep hk hb (fun k h => ⟨by omega, fun _ _ _ => by omega⟩)
  case hIxB =>
    intro c s W W' hs hg
    obtain ⟨hk, hb⟩ := keepX_turn hs.2.choose_spec.2.2.2 hg
    exact hs.keep hk hb (fun k h => ⟨by omega, fun _ _ _ => by omega⟩)
  case assign =>
    intro x W K hK
    dsimp only [encM]
    gi_wp2
    exact hK
  case body =>
    rw [hsz]
    rintro pre ⟨s, c, m⟩ rest W hx hJ
    obtain ⟨st, hS, hr, hsz2, hs29⟩ := id hJ
    have hmem : (s, c, m) ∈ linesP f ((l.take t).drop f) := by rw [hx]; simp
    have hrl : ((l.take t).drop f).length = t - f := by rw [List.length_drop, List.length_take]; omega
    obtain ⟨hfs, hst, hcw⟩ := lines_whole _ f _ (Nat.le_refl _) _ hmem
    obtain ⟨-, hsc, hmc⟩ := (lines_in _ f _ (Nat.le_refl _)).2 _ hmem
    simp only at hfs hst hcw hsc hmc
    rw [hrl] at hst hsc
    rw [List.drop_drop, show f + (s - f) = s by omega] at hcw
    have hln : l ≠ [] := by intro e; subst e; simp at ht; omega
    obtain rfl := HA.out hln
    have hlbn := HLB.out hln
    have hcW := HC.out.kept hS.below fun _ => hlbn
    obtain ⟨tx, htx⟩ : ∃ tx, lineT l (s, c, m) = tx := ⟨_, rfl⟩
    have htl : tx.length = m := by rw [← htx]; unfold lineT; simp; omega
    have hct : CellsL W lb (lo + s) tx := by rw [← htx]; exact (hcW.drop s).take m
    have hbt : ∀ n ∈ tx, n < 256 := fun n hn => HLT.out n (by rw [← htx] at hn; exact List.mem_of_mem_drop (List.mem_of_mem_take hn))
    obtain ⟨PS, hPS⟩ : ∃ PS : ByteArray, (⟨#[45, 45]⟩ : ByteArray) ++ BD = PS := ⟨_, rfl⟩
    have hPz : PS.size = 2 + bd.length := by rw [← hPS, ByteArray.size_append, HBS.out]; rfl
    have hPn : natsOf PS = [45, 45] ++ bn := by rw [← hPS, natsOf_append, ← HBD.out, ← HBN.out]; rfl
    have hBDs := HBS.out
    have hcat : ((9223372036854775807 : Nat) < 2 + BD.size) = False := eq_false (by rw [hBDs]; omega)
    obtain ⟨cap1, w1, hcv, hb1, hcp, hs1⟩ := conv_any PS W
    have hc1 := hct.kept hb1 (fun _ => Nat.lt_of_lt_of_le hlbn (by omega))
    have hpb : ∀ x ∈ natsOf PS, x < 256 := natsOf_lt PS
    have cs := hS.bs.cell
    have hgo : runSp l bn t ((s, c, m) :: rest) st = runSp l bn t (pre ++ (s, c, m) :: rest) ([], none) := (hr _).symm
    have HS := Lib.hid (And.intro hS (And.intro hr (And.intro hsz2 hs29)))
    have HT := Lib.hid (And.intro htx (And.intro htl (And.intro hbt hpb)))
    have HP := Lib.hid (And.intro hPn hPz)
    have HB1 := Lib.hid (And.intro hb1 (And.intro hcp (And.intro hs1 hc1)))
    have HLI := Lib.hid (And.intro hst (And.intro hcw (And.intro hsc hmc)))
    clear hS hr hs29 htx htl hbt hpb hPn hPz hb1 hcp hs1 hc1 hgo hcw hct hcW hmem hrl hBDs
    by_cases hpre : ([45, 45] ++ bn) <+: tx
    · have hsz1 : PS.size ≤ m := by
        have h1 := hpre.length_le
        rw [HT.out.2.1] at h1
        rw [HP.out.2]
        have h3 : bn.length = bd.length := by rw [← HBN.out, List.length_map]
        simp at h1
        omega
      obtain ⟨r, hrr⟩ : ∃ r, tx.drop PS.size = r := ⟨_, rfl⟩
      have hrl : r.length = m - PS.size := by rw [← hrr, List.length_drop, HT.out.2.1]
      have hyes := cutpre_yes (W := w1) (cap := cap - s) (c2 := cap1) HB1.out.2.2.2 HB1.out.2.1 (by rw [HT.out.2.1]; omega) HT.out.2.2.1 HT.out.2.2.2 (by rw [HP.out.1]; simp) (by rw [HP.out.1]; exact hpre)
      rw [HT.out.2.1, natsOf_length] at hyes
      obtain ⟨B', hB'⟩ : ∃ B', (if cap - s = PS.size then lo + s else lo + s + PS.size) = B' := ⟨_, rfl⟩
      rw [hB'] at hyes
      have hcr : CellsL w1 lb B' r := by
        by_cases hcs : cap - s = PS.size
        · have : r = [] := List.eq_nil_of_length_eq_zero (by omega)
          subst this
          intro i hi
          simp at hi
        · rw [if_neg hcs] at hB'
          rw [← hB', ← hrr]
          exact HB1.out.2.2.2.drop PS.size
      obtain ⟨C2, hC2⟩ : ∃ C2, cap - s - PS.size = C2 := ⟨_, rfl⟩
      obtain ⟨R2, hR2⟩ : ∃ R2, m - PS.size = R2 := ⟨_, rfl⟩
      rw [hC2, hR2] at hyes
      rw [hR2] at hrl
      obtain ⟨V, hV⟩ : ∃ V, ddW w1 = V := ⟨_, rfl⟩
      have hdd := dd_conv w1
      have hbV : Below W.heap.size W V := by rw [← hV]; exact HB1.out.1.alloc (by rw [HB1.out.2.2.1]; omega) _
      have hcrV : CellsL V lb B' r := by rw [← hV]; exact hcr.kept ((Below.refl w1.heap.size w1).alloc (Nat.le_refl _) _) (fun _ => by rw [HB1.out.2.2.1]; have := HS.out.2.2.1; omega)
      have hcdV : CellsL V w1.heap.size 0 [45, 45] := by rw [← hV]; exact dd_cells w1
      rw [hV] at hdd
      have hrb : ∀ x ∈ r, x < 256 := fun x hx => HT.out.2.2.1 x (by rw [← hrr] at hx; exact List.mem_of_mem_drop hx)
      have hrC : r.length ≤ C2 := by omega
      have hCm : C2 ≤ maxLen := by omega
      have hRm : R2 ≤ 1000000 := by omega
      have hpf := haspre_any (W := V) (cap := C2) (c2 := 2) hcrV hcdV hrC hrb (by decide)
      rw [hrl] at hpf
      have hrd : (lineT l (s, c, m)).drop (2 + bn.length) = r := by rw [HT.out.1, ← hrr, HP.out.2, ← HBN.out, List.length_map]
      have hSV := HS.out.1.keep (keepX_below hbV) (hbV.mono (by have := HS.out.2.2.1; omega)) (fun k h => h.elim)
      have cf := hSV.bf.cell
      have hend := end_any hSV s (by omega) (fun _ => rfl) (HC.out.kept hSV.below fun _ => hlbn) (fun _ => hlbn) hl hm (by omega) (by have := HS.out.2.2.2; omega)
      have HY := Lib.hid hyes
      have HSV := Lib.hid hSV
      have HPF := Lib.hid hpf
      have HE := Lib.hid hend
      have HRR := Lib.hid (And.intro hcrV (And.intro hrl (And.intro hrC (And.intro hrb (And.intro hrd hbV)))))
      clear hyes hpf hend hrd hcr hcrV hcdV hrl hB' hC2 hR2 hrr hV hJ hSV hrb
      by_cases hd : [45, 45] <+: r
      · have hmark : markS l bn (s, c, m) = some true := by unfold markS; rw [HT.out.1, if_pos hpre, ← HT.out.1, HRR.out.2.2.2.2.1, if_pos hd]
        have hdd2 : decide ([45, 45] <+: r) = true := decide_eq_true hd
        rw [hdd2] at HPF
        have HMK := Lib.hid hmark
        clear hmark hpre hd hdd2 hrC hbV hCm hRm
        gi_wp2_with first
          | (refine ⟨trivial, ?_⟩; refine (CallsIn.inRound _ (callsIn_wide.2 HY.out)).mono ?_; rintro e w' ⟨rfl, hw'⟩; subst w')
          | (refine ⟨trivial, ?_⟩; refine (CallsIn.inRound _ (callsIn_wide.2 HPF.out)).mono ?_; rintro e w' ⟨rfl, hw'⟩; subst w')
          | (refine ⟨trivial, ?_⟩; refine (CallsIn.inRound _ (callsIn_wide.2 HE.out)).mono ?_; rintro e w4 ⟨rfl, hS4, hK4, hB4⟩)
        refine ⟨trivial, ?_⟩
        gi_wp2_with first
          | (refine ⟨trivial, ?_⟩; refine (CallsIn.inRound _ (callsIn_wide.2 HE.out)).mono ?_; rintro e w4 ⟨rfl, hS4, hK4, hB4⟩; obtain ⟨v4, hv4, hrow4⟩ := id hS4.bo; obtain ⟨va, vc, rfl⟩ := own_shape2 hrow4; have cv4 := hv4.cell; have cr4 := hS4.br.cell; have fr4 := hS4.br.frozen)
        exact SpX.ends HS.out.2.1 HS.out.2.2.1 HRR.out.2.2.2.2.2 hS4 hK4 HMK.out (.inl rfl) hv4 hrow4
      · have hdd2 : decide ([45, 45] <+: r) = false := decide_eq_false hd
        rw [hdd2] at HPF
        obtain ⟨n2, hn2⟩ : ∃ n2, r.all isBl = n2 := ⟨_, rfl⟩
        have htr := btrim_any V lb B' C2 r HRR.out.1 (by have := hbV.size; have := HS.out.2.2.1; omega) hrC hCm HRR.out.2.2.2.1 (by have := HRR.out.2.1; omega)
        rw [HRR.out.2.1] at htr
        have HTR := Lib.hid htr
        have HD := Lib.hid hd
        have hmk : markS l bn (s, c, m) = if r.all isBl = true then some false else none := by unfold markS; rw [HT.out.1, if_pos hpre, ← HT.out.1, HRR.out.2.2.2.2.1, if_neg hd]
        rw [hn2] at hmk
        have HMK := Lib.hid hmk
        clear hmk hpre hd hdd2 hrC hbV htr hCm hRm
        have HN2 := Lib.hid hn2
        clear hn2
        cases n2 with
        | false =>
          gi_wp2_with first
            | (refine ⟨trivial, ?_⟩; refine (CallsIn.inRound _ (callsIn_wide.2 HY.out)).mono ?_; rintro e w' ⟨rfl, hw'⟩; subst w')
            | (refine ⟨trivial, ?_⟩; refine (CallsIn.inRound _ (callsIn_wide.2 HPF.out)).mono ?_; rintro e w' ⟨rfl, hw'⟩; subst w')
            | (refine ⟨trivial, ?_⟩; refine (CallsIn.inRound _ (callsIn_wide.2 HTR.out)).mono ?_; rintro e w5 ⟨⟨ta, tn, tc, rfl, htn, htd⟩, hb5⟩; rw [HN2.out] at htd; have htd2 : decide ((0 : Int) < (tn : Int)) = true := decide_eq_true (by have := of_decide_eq_true htd; omega))
          exact SpJ.stays HS.out.1 HS.out.2.1 HS.out.2.2.1 HS.out.2.2.2 (HRR.out.2.2.2.2.2.trans (hb5.mono HRR.out.2.2.2.2.2.size)) HMK.out
        | true =>
          obtain ⟨L, hL⟩ : ∃ L, (closeS l st s).length = L := ⟨_, rfl⟩
          have HLL := Lib.hid hL
          clear hL
          by_cases h30 : L = 30
          · have hd30 : ((L : Int) == 30) = true := beq_iff_eq.2 (by omega)
            have H30 := Lib.hid h30
            clear h30
            clear cf HE
            gi_wp2_with first
              | (refine ⟨trivial, ?_⟩; refine (CallsIn.inRound _ (callsIn_wide.2 HY.out)).mono ?_; rintro e w' ⟨rfl, hw'⟩; subst w')
              | (refine ⟨trivial, ?_⟩; refine (CallsIn.inRound _ (callsIn_wide.2 HPF.out)).mono ?_; rintro e w' ⟨rfl, hw'⟩; subst w')
              | (refine ⟨trivial, ?_⟩; refine (CallsIn.inRound _ (callsIn_wide.2 HTR.out)).mono ?_; rintro e w5 ⟨⟨ta, tn, tc, rfl, htn, htd⟩, hb5⟩; rw [HN2.out] at htd; have htd2 : decide ((0 : Int) < (tn : Int)) = false := decide_eq_false (by have := of_decide_eq_false htd; omega); have hS5 := HSV.out.keep (keepX_below hb5) (hb5.mono (by have := HSV.out.size; omega)) (fun k h => h.elim); have cf := hS5.bf.cell; have HE := Lib.hid (end_any hS5 s (by omega) (fun _ => rfl) (HC.out.kept hS5.below fun _ => hlbn) (fun _ => hlbn) hl hm (by omega) (by have := HS.out.2.2.2; omega)))
              | (refine ⟨trivial, ?_⟩; refine (CallsIn.inRound _ (callsIn_wide.2 HE.out)).mono ?_; rintro e w4 ⟨rfl, hS4, hK4, hB4⟩; obtain ⟨v4, hv4, hrow4⟩ := id hS4.bo; obtain ⟨va, vc, rfl⟩ := own_shape2 hrow4; simp only [HLL.out] at hv4; have cv4 := hv4.cell; have cr4 := hS4.br.cell; have fr4 := hS4.br.frozen)
            exact SpX.ends HS.out.2.1 HS.out.2.2.1 (HRR.out.2.2.2.2.2.trans (hb5.mono HRR.out.2.2.2.2.2.size)) hS4 hK4 HMK.out (.inr (by rw [HLL.out]; exact H30.out)) hv4 (show w4.ownsRow (n + 10) 70 2 (.slice va L vc) (closeS l st s).length (spC (closeS l st s)) by rw [← HLL.out]; exact hrow4)
          · have hd30 : ((L : Int) == 30) = false := beq_false_of_ne (by omega)
            have H30 := Lib.hid h30
            clear h30
            clear cf HE
            gi_wp2_with first
              | (refine ⟨trivial, ?_⟩; refine (CallsIn.inRound _ (callsIn_wide.2 HY.out)).mono ?_; rintro e w' ⟨rfl, hw'⟩; subst w')
              | (refine ⟨trivial, ?_⟩; refine (CallsIn.inRound _ (callsIn_wide.2 HPF.out)).mono ?_; rintro e w' ⟨rfl, hw'⟩; subst w')
              | (refine ⟨trivial, ?_⟩; refine (CallsIn.inRound _ (callsIn_wide.2 HTR.out)).mono ?_; rintro e w5 ⟨⟨ta, tn, tc, rfl, htn, htd⟩, hb5⟩; rw [HN2.out] at htd; have htd2 : decide ((0 : Int) < (tn : Int)) = false := decide_eq_false (by have := of_decide_eq_false htd; omega); have hS5 := HSV.out.keep (keepX_below hb5) (hb5.mono (by have := HSV.out.size; omega)) (fun k h => h.elim); have cf := hS5.bf.cell; have HE := Lib.hid (end_any hS5 s (by omega) (fun _ => rfl) (HC.out.kept hS5.below fun _ => hlbn) (fun _ => hlbn) hl hm (by omega) (by have := HS.out.2.2.2; omega)))
              | (refine ⟨trivial, ?_⟩; refine (CallsIn.inRound _ (callsIn_wide.2 HE.out)).mono ?_; rintro e w4 ⟨rfl, hS4, hK4, hB4⟩; obtain ⟨v4, hv4, hrow4⟩ := id hS4.bo; obtain ⟨va, vc, rfl⟩ := own_shape2 hrow4; simp only [HLL.out] at hv4; have cv4 := hv4.cell; have cr4 := hS4.br.cell; have fr4 := hS4.br.frozen; have cb4 := hS4.bb.cell; have ct4 := hS4.bt.cell; have fg4 := hS4.bg.frozen; have cg4 := hS4.bg.cell; have HBH := Lib.hid (bhd_any (some ⟨lb, lo, none⟩) lb lo cap s t l w4 (fun _ => rfl) (HC.out.kept hS4.below fun _ => hlbn) hl hm (by omega) HLT.out (by omega) ht))
              | (refine ⟨trivial, ?_⟩; refine (CallsIn.inRound _ (callsIn_wide.2 HBH.out)).mono ?_; rintro e w6 ⟨rfl, hw6⟩; subst hw6; rw [← HLI.out.2.1])
            have hfin := SpJ.ends HS.out.2.1 HS.out.2.2.1 HS.out.2.2.2 (HRR.out.2.2.2.2.2.trans (hb5.mono HRR.out.2.2.2.2.2.size)) hS4 hK4 hB4 HMK.out (not_or.2 ⟨by simp, fun h => H30.out (by rw [← HLL.out]; exact h)⟩)
            simp only [Int.natCast_add] at hfin
            exact hfin
    · have hmark : markS l bn (s, c, m) = none := by unfold markS; rw [HT.out.1, if_neg hpre]
      have hno := cutpre_no (W := w1) (cap := cap - s) (c2 := cap1) HB1.out.2.2.2 HB1.out.2.1 (by rw [HT.out.2.1]; omega) HT.out.2.2.1 HT.out.2.2.2 (by rw [HP.out.1]; exact hpre)
      rw [HT.out.2.1, natsOf_length] at hno
      have HNO := Lib.hid hno
      have HMK := Lib.hid hmark
      clear hno hpre hmark hJ
      gi_wp2_with (refine ⟨trivial, ?_⟩; refine (CallsIn.inRound _ (callsIn_wide.2 HNO.out)).mono ?_; rintro e w' ⟨⟨v, rfl⟩, hw'⟩; subst w')
      exact SpJ.stays HS.out.1 HS.out.2.1 HS.out.2.2.1 HS.out.2.2.2 HB1.out.1 HMK.out
  case done =>
    rw [hsz]
    rintro W ⟨s, hS, hr, hsz2, hs29⟩ hK
    have hr0 := hr []
    rw [List.append_nil] at hr0
    obtain ⟨so, sb⟩ := s
    have hbg := hS.bg
    obtain ⟨v, hv, hrow⟩ := hS.bo
    have cv := hv.cell
    have fv := hv.frozen
    have cr := hS.br.cell
    have fr := hS.br.frozen
    have ct := hS.bt.cell
    obtain ⟨oa, oc, rfl⟩ := own_shape2 hrow
    simp only at hrow hs29 hv cv
    obtain ⟨m, hmm⟩ : ∃ m, so.length = m := ⟨_, rfl⟩
    rw [hmm] at hrow hv cv hs29
    have HR := Lib.hid (And.intro hS (And.intro hrow (And.intro hmm (And.intro hs29 (And.intro hsz2 hv)))))
    have hSP : spansS l bn f t = runSp l bn t [] (so, sb) := hr0
    have HSP := Lib.hid hSP
    cases sb with
    | none =>
      have cg : W.cell? ⟨n + 5, 0, none⟩ = some (.int .i64 (-1)) := hbg.cell
      clear hr hr0 hSP hS hrow hmm hs29 hsz2 hbg hv
      gi_wp2
      refine ⟨by simp, .inl ⟨_, _, rfl, run_takeDeferred ((Below.heap_setCell W ⟨n + 3, 0, none⟩ _ (n + 10) (by simp)).trans hK), ?_⟩⟩
      have hk : KeepX (fun k => k = n + 3) W ((W.setCell ⟨n + 3, 0, none⟩ (.slice oa m oc)).putObj (n + 10) (.deferred none)) := keepX_then (keepX_set W (n + 3) 0 _) (keepX_put ((Below.heap_setCell W ⟨n + 3, 0, none⟩ _ (n + 10) (by simp)).trans hK) rfl)
      have hb2 : Below n W ((W.setCell ⟨n + 3, 0, none⟩ (.slice oa m oc)).putObj (n + 10) (.deferred none)) := ((Below.refl n W).setCell (p := ⟨n + 3, 0, none⟩) (by simp) _).grown (grownBy_putObj' _ _ _) (by have := HR.out.2.2.2.2.1; simp [World.setCell]; omega) (fun k e => by cases e; omega)
      have h3 : Boxed ((W.setCell ⟨n + 3, 0, none⟩ (.slice oa m oc)).putObj (n + 10) (.deferred none)) (n + 3) 67 (.slice oa m oc) := boxed_keepX (HR.out.1.br.set _) (keepX_put ((Below.heap_setCell W ⟨n + 3, 0, none⟩ _ (n + 10) (by simp)).trans hK) rfl) (fun h => h)
      refine ⟨_, res31 _ _ (n + 3) _ rfl h3.cell, _, rfl, ?_, ?_⟩
      · rw [HSP.out, hn]
        show World.ownsRow _ n 70 2 _ so.length (spC so)
        rw [HR.out.2.2.1]
        exact ownsRow_base (ownsRow_keepX2 HR.out.2.1 hk fun k C fz e hB h => by omega) (by omega)
      · rw [hn]
        exact HR.out.1.below.trans hb2
    | some g =>
      have cg : W.cell? ⟨n + 5, 0, none⟩ = some (.int .i64 (g : Nat)) := hbg.cell
      have hg0 : (0 : Int) ≤ (g : Int) := by omega
      have hdg : decide ((0 : Int) ≤ (g : Int)) = true := decide_eq_true hg0
      clear hr hr0 hSP hS hrow hmm hs29 hsz2 hbg hv
      gi_wp2_with (gi_at_builtin; refine wpListIn_append_own _ rfl (.tmp 62) (.tmp 66) 67 rfl (n + 10) 70 i0 _ 2 16 Tryz.underlying67 HI.out hz0 hz1 hz2 rfl (by decide) (.slice oa m oc) m (spC so) rfl (World.ownsRow.alloc HR.out.2.1 _) ⟨W.heap.size, 0, none⟩ 1 1 [.int .i64 (g : Nat), .int .i64 (t : Nat)] rfl rfl (World.news_of_block (cs := #[.int .i64 (g : Nat), .int .i64 (t : Nat)]) (t := 70) (fr := (0, 0)) (heap_alloc_new W _)) (by simp [Value.oneCell']) (by have := HR.out.2.2.2.1; unfold maxLen; omega) (by have := HR.out.2.2.2.1; omega) (by have := HR.out.2.2.2.2.1; simp; omega) ?_)
      intro v9 w9 hown9 hgrow9 hne9
      obtain ⟨ga, gc, rfl⟩ := own_shape2 hown9
      have hnb : ∀ j, j < n + 10 → some j ≠ (Value.slice oa m oc).ownBlock := fun j hj e => by have := (World.ownsRow.lt HR.out.2.1 _ e.symm).1; omega
      have hblk : ∀ j, j < n + 10 → w9.heap[j]? = W.heap[j]? := fun j hj => (hgrow9.block j (by have := HR.out.2.2.2.2.1; simp; omega) (hnb j hj)).trans (Below.heap_alloc _ _ _ (by have := HR.out.2.2.2.2.1; omega))
      have hKd : w9.heap[(n + 10)]? = some (.deferred (some [])) := by
        refine ((hgrow9.block _ (by have := (Array.getElem?_eq_some_iff.1 hK).1; simp; omega) (fun e => ?_)).trans (Below.heap_alloc _ _ _ (Array.getElem?_eq_some_iff.1 hK).1)).trans hK
        rcases HR.out.2.1.2 with ⟨e2, _⟩ | ⟨g2, cap2, cur2, e2, _, hh2, _⟩
        · rw [e2] at e; cases e
        · rw [e2] at e
          obtain rfl : (n + 10) = g2 := by simpa [Value.ownBlock] using e
          rw [hK] at hh2
          cases hh2
      have c9 : w9.cell? ⟨n + 4, 0, none⟩ = some (.slice oa m oc) := (World.cell?_of_block (hblk (n + 4) (by omega))).trans cv
      have f9 : w9.frozen? ⟨n + 4, 0, none⟩ = false := (World.frozen?_of_block (hblk (n + 4) (by omega))).trans fv
      have c93 : (w9.setCell ⟨n + 4, 0, none⟩ (.slice ga (m + 1) gc)).cell? ⟨n + 3, 0, none⟩ = some (.slice none 0 0) := (World.cell?_of_block ((Below.heap_setCell w9 _ _ _ (by simp)).trans (hblk (n + 3) (by omega)))).trans cr
      have f93 : (w9.setCell ⟨n + 4, 0, none⟩ (.slice ga (m + 1) gc)).frozen? ⟨n + 3, 0, none⟩ = false := (World.frozen?_of_block ((Below.heap_setCell w9 _ _ _ (by simp)).trans (hblk (n + 3) (by omega)))).trans fr
      have h4 : Boxed w9 (n + 4) 67 (.slice oa m oc) := (hblk (n + 4) (by omega)).trans HR.out.2.2.2.2.2
      have h3 : Boxed w9 (n + 3) 67 (.slice none 0 0) := (hblk (n + 3) (by omega)).trans HR.out.1.br
      have hB9 : Below n W w9 := (((Below.refl n W).alloc (by have := HR.out.2.2.2.2.1; omega) _).grown hgrow9 (by have := HR.out.2.2.2.2.1; simp; omega) (fun k e => by have := (World.ownsRow.lt HR.out.2.1 _ e).1; omega))
      have hs9 : n + 10 ≤ w9.heap.size := by have := hgrow9.size; have := HR.out.2.2.2.2.1; simp at *; omega
      have H9 := Lib.hid (And.intro hown9 (And.intro hKd (And.intro h4 (And.intro h3 (And.intro hB9 hs9)))))
      clear hown9 hgrow9 hne9 hnb hblk hKd h4 h3 hB9 hs9
      gi_wp2
      have hd2 : ((w9.setCell ⟨n + 4, 0, none⟩ (.slice ga (m + 1) gc)).setCell ⟨n + 3, 0, none⟩ (.slice ga (m + 1) gc)).heap[(n + 10)]? = some (.deferred (some [])) := (Below.heap_setCell _ _ _ _ (by simp)).trans ((Below.heap_setCell _ _ _ _ (by simp)).trans H9.out.2.1)
      refine ⟨by simp, .inl ⟨_, _, rfl, run_takeDeferred hd2, ?_⟩⟩
      have hb3 : Boxed (((w9.setCell ⟨n + 4, 0, none⟩ (.slice ga (m + 1) gc)).setCell ⟨n + 3, 0, none⟩ (.slice ga (m + 1) gc)).putObj (n + 10) (.deferred none)) (n + 3) 67 (.slice ga (m + 1) gc) := boxed_keepX ((H9.out.2.2.2.1.other (by omega) _).set _) (keepX_put hd2 rfl) (fun h => h)
      refine ⟨_, res31 _ _ (n + 3) _ rfl hb3.cell, _, rfl, ?_, ?_⟩
      · rw [HSP.out, hn]
        show World.ownsRow _ n 70 2 _ (so ++ [(g, t)]).length (spC (so ++ [(g, t)]))
        rw [spC_snoc, List.length_append, HR.out.2.2.1]
        refine ownsRow_base (B := n + 10) ?_ (by omega)
        refine ownsRow_keepX2 (ownsRow_keepX2 (ownsRow_keepX2 H9.out.1 (keepX_set w9 _ _ _) fun k C fz e hB h => by omega) (keepX_set _ _ _ _) fun k C fz e hB h => by omega) (keepX_put hd2 rfl) fun k C fz e hB h => h.elim
      · rw [hn]
        exact HR.out.1.below.trans (H9.out.2.2.2.2.1.trans ((((Below.refl n w9).setCell (p := ⟨n + 4, 0, none⟩) (by simp) _).setCell (p := ⟨n + 3, 0, none⟩) (by simp) _).grown (grownBy_putObj' _ _ _) (by have := H9.out.2.2.2.2.2; simp [World.setCell]; omega) (fun k e => by cases e; omega)))
  case stop =>
    rintro c pre W ⟨rest, hp⟩ ⟨rfl, o, ⟨v, hb, hrow⟩, hr, hB, hs⟩ hK
    have hcx := hb.cell
    obtain ⟨oa, oc, rfl⟩ := own_shape2 hrow
    have hS : spansS l bn f t = o := by unfold spansS; rw [← hp]; exact hr rest
    have HS := Lib.hid hS
    have HR := Lib.hid (And.intro hrow (And.intro hB hs))
    clear hrow hr hS hB hs hp
    gi_wp2
    refine ⟨by simp, .inl ⟨_, _, rfl, run_takeDeferred hK, ?_⟩⟩
    have hk : KeepX (fun _ => False) W (W.putObj W0.heap.size (.deferred none)) := keepX_put hK rfl
    have hb2 : Below n W (W.putObj W0.heap.size (.deferred none)) := (Below.refl n W).grown (grownBy_putObj' W _ _) (by have := HR.out.2.2; omega) (fun k e => by cases e; omega)
    refine ⟨_, res31 _ _ (n + 3) _ rfl (boxed_keepX hb hk (fun h => h)).cell, _, rfl, ?_, ?_⟩
    · rw [HS.out, hn]
      exact ownsRow_base (ownsRow_keepX2 HR.out.1 hk fun k C fz e _ h => h.elim) (by omega)
    · rw [hn]
      exact HR.out.2.1.trans hb2
end Go.Proofs.YtnncldnpkfjhbaaGreatDoor
