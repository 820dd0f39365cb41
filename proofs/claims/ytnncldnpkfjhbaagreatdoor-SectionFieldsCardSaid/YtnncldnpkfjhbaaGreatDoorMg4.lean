/-
  Several texts of one proof, each in a section of its own: Lines, Split.
-/
import Derived.Test.YtnncldnpkfjhbaaGreatDoorMg3
import Derived.Lib.SlBytesConst
namespace Go.Proofs.YtnncldnpkfjhbaaGreatDoor
section
set_option linter.unusedVariables false
open Go.RowKit Go.Shelf
attribute [local go_sem] Oper.semAt_some

/-- how long the first line is with its end, and without -/
def wholeN (r : List Nat) : Nat := if aheadN 10 r < r.length then aheadN 10 r + 1 else r.length
def textN (r : List Nat) : Nat := if aheadN 10 r < r.length then trimN (r.take (aheadN 10 r)) else r.length
theorem wholeN_pos {r : List Nat} (h : r ≠ []) : 0 < wholeN r := by
  unfold wholeN
  have : 0 < r.length := List.length_pos_iff.2 h
  split <;> omega
theorem wholeN_le (r : List Nat) : wholeN r ≤ r.length := by
  unfold wholeN
  split <;> omega
theorem trimN_le (t : List Nat) : trimN t ≤ t.length := by unfold trimN; split <;> omega
theorem textN_le (r : List Nat) : textN r ≤ wholeN r := by
  unfold textN wholeN
  split
  · have := trimN_le (r.take (aheadN 10 r))
    simp at this
    omega
  · omega

/-- the lines: where each begins, how long it is with its end, and without -/
def linesP (k : Nat) (r : List Nat) : List (Nat × Nat × Nat) :=
  if h : r = [] then [] else (k, wholeN r, textN r) :: linesP (k + wholeN r) (r.drop (wholeN r))
termination_by r.length
decreasing_by
  have := wholeN_pos h
  have := List.length_pos_iff.2 h
  simp
  omega
theorem linesP_nil (k : Nat) : linesP k [] = [] := by rw [linesP]; simp
theorem linesP_cons (k : Nat) {r : List Nat} (h : r ≠ []) : linesP k r = (k, wholeN r, textN r) :: linesP (k + wholeN r) (r.drop (wholeN r)) := by rw [linesP]; simp [h]

/-- the bytes lie there -/
def CellsL (W : World) (lb lo : Nat) (l : List Nat) : Prop := ∀ i (h : i < l.length), W.cell? ⟨lb, lo + i, none⟩ = some (.int .u8 (l[i] : Nat))
theorem CellsL.kept {W W' : World} {lb lo n₀ : Nat} {l : List Nat} (h : CellsL W lb lo l) (hb : Below n₀ W W') (hl : l ≠ [] → lb < n₀) : CellsL W' lb lo l := fun i hi =>
  (hb.cell (p := ⟨lb, lo + i, none⟩) (hl (by intro e; subst e; simp at hi))).trans (h i hi)
theorem CellsL.drop {W : World} {lb lo : Nat} {l : List Nat} (h : CellsL W lb lo l) (k : Nat) : CellsL W lb (lo + k) (l.drop k) := fun i hi => by
  have := h (k + i) (by simp at hi; omega)
  rw [Nat.add_assoc, this]
  simp
theorem CellsL.take {W : World} {lb lo : Nat} {l : List Nat} (h : CellsL W lb lo l) (k : Nat) : CellsL W lb lo (l.take k) := fun i hi => by
  have := h i (by simp at hi; omega)
  rw [this]
  simp
theorem CellsL.row {W : World} {lb lo cap : Nat} {l : List Nat} (h : CellsL W lb lo l) (hc : l.length ≤ cap) (hm : cap ≤ maxLen) (hb : ∀ n ∈ l, n < 256) : RowB W (.slice (some ⟨lb, lo, none⟩) l.length cap) l :=
  ⟨_, _, _, rfl, rfl, hc, hm, hb, by simp, fun x hx i hi => by obtain rfl := Option.some.inj hx; rw [Addr.add_lit]; exact h i hi⟩

/-- what a round of a loop over the lines keeps: what lay ahead of the call, and the iterator's place -/
def KpL (n₀ B : Nat) (W W' : World) : Prop := Below n₀ W W' ∧ W'.heap[B]? = W.heap[B]?
/-- a line as it is handed -/
def encL (lb lo cap : Nat) (x : Nat × Nat × Nat) : Array Value := #[.slice (some ⟨lb, lo + x.1, none⟩) x.2.1 (cap - x.1), .slice (some ⟨lb, lo + x.1, none⟩) x.2.2 (cap - x.1)]
/-- how much the iterator has still to read -/
def leftL (W : World) (B : Nat) : Nat := match W.cell? ⟨B, 0, none⟩ with | some (.slice _ n _) => n | _ => 0
theorem leftL_box {W : World} {B n : Nat} {t : TypeId} {a : Option Addr} {c : Nat} (h : Boxed W B t (.slice a n c)) : leftL W B = n := by unfold leftL; rw [h.cell]
theorem turn_alloc (W : World) (o : Obj) (B : Nat) : W.grownBy (W.alloc o) (some B) := World.grownBy_alloc W o _

/-- the world behind []byte("\r") -/
abbrev crW (w : World) : World := w.alloc (.cells #[.int .u8 13] 5 (1, 2))
theorem cr_row (w : World) : RowB (crW w) (.slice (some ⟨w.heap.size, 0, none⟩) 1 1) [13] := ⟨_, _, _, rfl, rfl, Nat.le_refl _, by decide, by simp, by simp, fun x hx i hi => by
  obtain rfl := Option.some.inj hx
  obtain rfl : i = 0 := by simp at hi; omega
  have h := World.alloc_heap_new w (.cells #[.int .u8 13] 5 (1, 2))
  rw [Addr.add_lit, Nat.zero_add]
  unfold World.cell?
  rw [show (crW w).heap[(⟨w.heap.size, 0, none⟩ : Addr).block]? = _ from h]
  rfl⟩
theorem cr_conv (w : World) : (convert 22 22 (.slice (some ⟨w.heap.size, 0, none⟩) 1 1)).run Tryz.prog (w.alloc (.cells #[.int .u8 13] 5)) = .ok (.slice (some ⟨w.heap.size, 0, none⟩) 1 1) (w.alloc (.cells #[.int .u8 13] 5 (1, 2))) :=
  Lib.run_convert_bytes_const w 22 5 #[.int .u8 13] 1 1 Tryz.underlying22 Tryz.underlying5

set_option maxRecDepth 100000 in
set_option maxHeartbeats 4000000 in
theorem lines_on (n : Nat) (a : Option Addr) (lb lo cap B n₀ : Nat) (l : List Nat) (ha : l ≠ [] → a = some ⟨lb, lo, none⟩) (hn : n₀ ≤ B) (hlb : l ≠ [] → lb < n₀) (hc : l.length ≤ cap) (hm : cap ≤ maxLen) (hlt : ∀ n ∈ l, n < 256) :
    SeqOn Fence.wide n Tryz.prog 64 #[.pointer (some ⟨B, 0, none⟩)] (encL lb lo cap) B (KpL n₀ B) (linesP 0 l) (fun W => Boxed W B 22 (.slice a l.length cap) ∧ CellsL W lb lo l) := by
  intro y J Jx W ⟨hbox, hcells⟩ hJ hJx hY h0
  have HA := Lib.hid ha
  have HLB := Lib.hid hlb
  have HLT := Lib.hid hlt
  have HJ := Lib.hid hJ
  have HJX := Lib.hid hJx
  have HY := Lib.hid hY
  clear ha hlb hlt hJ hJx hY
  unfold maxLen at hm
  refine callsIn_of_wp Tryz.func64 rfl trivial ?_ rfl
  simp only [Tryz.ntmps64, List.size_toArray, List.length_cons, List.length_nil, Nat.reduceAdd, Nat.reduceSub, Array.replicate_succ, Array.replicate_zero, List.push_toArray, List.append_toArray, List.nil_append, List.cons_append]
  gi_wp2
  gi_loopw [] (fun wr => ∃ (pre : List (Nat × Nat × Nat)) (k : Nat) (v : Value), k ≤ l.length ∧ linesP 0 l = pre ++ linesP k (l.drop k) ∧ Boxed wr B 22 v ∧ (k < l.length → v = .slice (some ⟨lb, lo + k, none⟩) (l.length - k) (cap - k)) ∧ (k = l.length → ∃ a c, v = .slice a 0 c) ∧ CellsL wr lb lo l ∧ J pre wr)
    (fun wr => leftL wr B)
  case atStart => exact ⟨[], 0, _, Nat.zero_le _, by simp, hbox, fun h => by rw [HA.out (by intro e; subst e; simp at h)]; rfl, fun h => ⟨a, cap, by rw [← h]⟩, hcells, h0⟩
  case round =>
    obtain ⟨pre, k, v, hk, hp, hb, hv1, hv2, hcl, hj⟩ := hrel
    by_cases hkl : k < l.length
    · obtain rfl := hv1 hkl
      clear hv1 hv2
      obtain ⟨r, hr⟩ : ∃ r, l.drop k = r := ⟨_, rfl⟩
      have hrl : r.length = l.length - k := by rw [← hr]; simp
      have hrn : r ≠ [] := by intro e; subst e; simp at hrl; omega
      have hln : l ≠ [] := by intro e; subst e; simp at hkl
      have hrc := hcl.drop k
      rw [hr] at hp hrc
      rw [linesP_cons k hrn] at hp
      have hrb : ∀ n ∈ r, n < 256 := fun n hn => HLT.out n (by rw [← hr] at hn; exact List.mem_of_mem_drop hn)
      have hrow := hrc.row (cap := cap - k) (by omega) (by unfold maxLen; omega) hrb
      have hix := index_any lb (lo + k) (cap - k) 10 r wr (by decide) hrow
      have hbc := hb.cell
      have hbf := hb.frozen
      have hw0 : IntKind.i64.wrap (aheadN 10 r : Int) = (aheadN 10 r : Int) := IntWalk.i64_in _ (by have := aheadN_le 10 r; omega)
      have HR := Lib.hid hr
      have HRL := Lib.hid hrl
      have HB := Lib.hid hb
      have HCL := Lib.hid hcl
      have HRC := Lib.hid hrc
      have HRB := Lib.hid hrb
      have HJJ := Lib.hid hj
      have ha10 := aheadN_le 10 r
      unfold wholeN textN at hp
      unfold idxI at hix
      clear hb hcl hrc hrb hj hr hrow
      by_cases hjl : aheadN 10 r < r.length
      · rw [if_pos hjl, if_pos hjl] at hp
        rw [if_pos hjl] at hix
        rw [hrl] at hjl hix
        obtain ⟨j, hj⟩ : ∃ j, aheadN 10 r = j := ⟨_, rfl⟩
        rw [hj] at hp hix hjl hw0
        have HIX : Hid (Calls Tryz.prog 65 #[.slice (some ⟨lb, lo + k, none⟩) (l.length - k) (cap - k), .int .u8 10] wr fun e w' => e = .returned (.int .i64 (j : Int)) ∧ w' = wr) := Lib.hid hix
        have HP := Lib.hid hp
        have hw1 : IntKind.i64.wrap ((j : Int) + 1) = (j : Int) + 1 := IntWalk.i64_in _ (by omega)
        have gj : ¬ (j : Int) + 1 = 0 := by omega
        have gjc : (j : Int) ≤ ((cap - k : Nat) : Int) := by omega
        have gjc1 : (j : Int) + 1 ≤ ((cap - k : Nat) : Int) := by omega
        have gjl1 : (j : Int) + 1 ≤ ((l.length - k : Nat) : Int) := by omega
        have htn : ((j : Int) + 1).toNat = j + 1 := by omega
        have htl : (r.take j).length = j := by rw [List.length_take]; omega
        have hrt := ((HRC.out.kept (n₀ := wr.heap.size) ((Below.refl _ wr).alloc (Nat.le_refl _) (.cells #[.int .u8 13] 5 (1, 2))) (fun _ => World.block_lt_of_cell? wr _ (HRC.out 0 (by omega)))).take j).row (cap := cap - k) (by rw [htl]; omega) (by unfold maxLen; omega) (fun n hn => HRB.out n (List.mem_of_mem_take hn))
        have hcr := cr_row wr
        have htr := trim_any hrt (by rw [htl]; omega) (by unfold maxLen; omega) hcr ⟨_, _, rfl⟩
        rw [htl] at htr
        have HTR := Lib.hid htr
        have hb1 := HB.out.alloc (.cells #[.int .u8 13] 5 (1, 2))
        obtain ⟨m, hmm⟩ : ∃ m, trimN (r.take j) = m := ⟨_, rfl⟩
        rw [hmm] at HTR HP
        have hml : m ≤ j := by have := trimN_le (r.take j); omega
        obtain ⟨fn, tmps, assign, body, hy, hR⟩ := HY.out pre (k, j + 1, m) _ (wr.alloc (.cells #[.int .u8 13] 5 (1, 2))) HP.out (HJ.out _ _ _ HJJ.out (turn_alloc _ _ _))
        dsimp only [encL] at hy
        have hcv := cr_conv wr
        have hbc1 := hb1.cell
        clear hp hix htr hcr hrt hmm hj hrl hw0 ha10 hln hrn
        gi_wp2_with (first
          | (refine ⟨trivial, (fun h => by cases h), ?_⟩; refine (callsIn_wide.2 HIX.out).mono ?_; rintro e w' ⟨rfl, hw'⟩; subst w')
          | (refine ⟨trivial, (fun h => by cases h), ?_⟩; refine (callsIn_wide.2 HTR.out).mono ?_; rintro e w' ⟨rfl, rfl⟩))
        refine ⟨(fun h => by cases h), hR.mono ?_⟩
        rintro e W3 (⟨rfl, hj3, hb3, hk3⟩ | ⟨rfl, hx3⟩)
        · have HBX : Hid (Boxed W3 B 22 (.slice (some ⟨lb, lo + k, none⟩) (l.length - k) (cap - k))) := Lib.hid (hk3.trans hb1)
          have hbc3 := HBX.out.cell
          have hbf3 := HBX.out.frozen
          have HC3 := Lib.hid ((HCL.out.kept (n₀ := n₀) ((Below.refl n₀ wr).alloc (by have := HB.out.lt; omega) (.cells #[.int .u8 13] 5 (1, 2))) HLB.out).kept hb3 HLB.out)
          have HJ3 := Lib.hid hj3
          clear hb3 hk3 hj3
          by_cases hce : cap - k = j + 1
          · gi_wp2
            go_roundw
            case rel => exact ⟨pre ++ [(k, j + 1, m)], k + (j + 1), _, by omega, by rw [HP.out, ← HR.out, List.drop_drop, List.append_assoc]; rfl, HBX.out.set _, fun h => by omega, fun h => ⟨_, _, by rw [show l.length - k - (j + 1) = 0 by omega]⟩, HC3.out.kept (n₀ := n₀) ((Below.refl _ _).setCell (p := ⟨B, 0, none⟩) hn _) HLB.out, HJ.out _ _ _ HJ3.out (grownBy_setCell' W3 B _)⟩
            case measure => rw [leftL_box (HBX.out.set _), leftL_box HB.out]; omega
          · gi_wp2
            go_roundw
            case rel => exact ⟨pre ++ [(k, j + 1, m)], k + (j + 1), _, by omega, by rw [HP.out, ← HR.out, List.drop_drop, List.append_assoc]; rfl, HBX.out.set _, fun h => by rw [show l.length - (k + (j + 1)) = l.length - k - (j + 1) by omega, show cap - (k + (j + 1)) = cap - k - (j + 1) by omega, Nat.add_assoc], fun h => ⟨_, _, by rw [show l.length - k - (j + 1) = 0 by omega]⟩, HC3.out.kept (n₀ := n₀) ((Below.refl _ _).setCell (p := ⟨B, 0, none⟩) hn _) HLB.out, HJ.out _ _ _ HJ3.out (grownBy_setCell' W3 B _)⟩
            case measure => rw [leftL_box (HBX.out.set _), leftL_box HB.out]; omega
        · gi_wp2
          refine bodyPost_ret (results_none rfl _ _ _) rfl ?_
          exact ⟨⟨_, rfl⟩, .inr ⟨pre ++ [(k, j + 1, m)], ⟨_, by rw [HP.out, List.append_assoc]; rfl⟩, hx3⟩⟩
      · rw [if_neg hjl, if_neg hjl, List.drop_length, linesP_nil, hrl] at hp
        rw [if_neg hjl, hrl] at hix
        have HIX : Hid (Calls Tryz.prog 65 #[.slice (some ⟨lb, lo + k, none⟩) (l.length - k) (cap - k), .int .u8 10] wr fun e w' => e = .returned (.int .i64 (-1)) ∧ w' = wr) := Lib.hid hix
        have HP := Lib.hid hp
        obtain ⟨fn, tmps, assign, body, hy, hR⟩ := HY.out pre (k, l.length - k, l.length - k) _ wr HP.out HJJ.out
        dsimp only [encL] at hy
        clear hp hix hrl hw0 ha10 hln hrn hjl
        gi_wp2_with (refine ⟨trivial, (fun h => by cases h), ?_⟩; refine (callsIn_wide.2 HIX.out).mono ?_; rintro e w' ⟨rfl, hw'⟩; subst w')
        refine ⟨(fun h => by cases h), hR.mono ?_⟩
        rintro e W3 (⟨rfl, hj3, hb3⟩ | ⟨rfl, hx3⟩)
        · gi_wp2
          refine bodyPost_ret (results_none rfl _ _ _) rfl ?_
          exact ⟨⟨_, rfl⟩, .inl (by rw [HP.out]; exact hj3)⟩
        · gi_wp2
          refine bodyPost_ret (results_none rfl _ _ _) rfl ?_
          exact ⟨⟨_, rfl⟩, .inr ⟨pre ++ [(k, l.length - k, l.length - k)], ⟨[], by rw [HP.out, List.append_nil]⟩, hx3⟩⟩
    · obtain rfl : k = l.length := by omega
      obtain ⟨a', c', rfl⟩ := hv2 rfl
      have hbc := hb.cell
      clear hv1 hv2
      rw [List.drop_length, linesP_nil, List.append_nil] at hp
      have HP := Lib.hid hp
      clear hp
      gi_wp2
      go_end0
      exact ⟨⟨_, rfl⟩, .inl (by rw [HP.out]; exact hj)⟩
end
section
set_option linter.unusedVariables false
open Go.RowKit Go.Shelf
attribute [local go_sem] Oper.semAt_some

/-- lines makes the iterator: the text lies in a box of its own -/
theorem lines_any (a : Option Addr) (n c : Nat) (w : World) : Calls Tryz.prog 42 #[.slice a n c] w fun e w' => e = .returned (.func (.func 64) #[] #[.pointer (some ⟨w.heap.size, 0, none⟩)]) ∧ w' = w.alloc (.cells #[.slice a n c] 22) := by
  go_enter Tryz.func42, Tryz.ntmps42
  go_wp2_with fail
  go_ret
  exact ⟨rfl, rfl⟩

/-- how long lines are together -/
def sumW : List (Nat × Nat × Nat) → Nat
  | [] => 0
  | x :: r => x.2.1 + sumW r
theorem sumW_append (a b : List (Nat × Nat × Nat)) : sumW (a ++ b) = sumW a + sumW b := by
  induction a with
  | nil => simp [sumW]
  | cons x a ih => simp [sumW, ih]; omega
theorem sumW_lines (n : Nat) : ∀ (k : Nat) (r : List Nat), r.length ≤ n → sumW (linesP k r) = r.length := by
  induction n with
  | zero =>
    intro k r h
    have : r = [] := List.eq_nil_of_length_eq_zero (by omega)
    subst this
    rw [linesP_nil]
    rfl
  | succ n ih =>
    intro k r h
    by_cases hr : r = []
    · subst hr; rw [linesP_nil]; rfl
    · rw [linesP_cons k hr]
      have h1 := wholeN_pos hr
      have h2 := wholeN_le r
      show wholeN r + sumW _ = _
      rw [ih _ _ (by simp; omega)]
      simp
      omega
/-- where the body begins: behind the first empty line -/
def splitL : List (Nat × Nat × Nat) → Nat
  | [] => 0
  | x :: r => x.2.1 + (if x.2.2 = 0 then 0 else splitL r)
def splitS (l : List Nat) : Nat := splitL (linesP 0 l)
theorem splitL_all {xs : List (Nat × Nat × Nat)} (h : ∀ x ∈ xs, x.2.2 ≠ 0) : splitL xs = sumW xs := by
  induction xs with
  | nil => rfl
  | cons x xs ih =>
    have h1 := h x (List.mem_cons_self ..)
    show x.2.1 + _ = x.2.1 + _
    rw [if_neg h1, ih fun y hy => h y (List.mem_cons_of_mem _ hy)]
theorem splitL_stop {pre rest : List (Nat × Nat × Nat)} {x : Nat × Nat × Nat} (h : ∀ y ∈ pre, y.2.2 ≠ 0) (hx : x.2.2 = 0) : splitL (pre ++ x :: rest) = sumW (pre ++ [x]) := by
  induction pre with
  | nil => simp [splitL, sumW, hx]
  | cons y pre ih =>
    have h1 := h y (List.mem_cons_self ..)
    show y.2.1 + _ = y.2.1 + _
    rw [if_neg h1]
    congr 1
    exact ih fun z hz => h z (List.mem_cons_of_mem _ hz)

set_option maxRecDepth 100000 in
set_option maxHeartbeats 4000000 in
theorem split_any (v : Value) (l : List Nat) (w : World) (hr : RowB w v l) (hl : l.length ≤ 140737488351232) :
    Calls Tryz.prog 26 #[v] w fun e w' => e = .returned (.int .i64 (splitS l : Nat)) ∧ Below w.heap.size w w' := by
  obtain ⟨a, cap, rfl⟩ : ∃ a c, v = .slice a l.length c := by obtain ⟨a, len, c, e, h, _⟩ := hr; exact ⟨a, c, by rw [e, h]⟩
  obtain ⟨hc, hm⟩ : l.length ≤ cap ∧ cap ≤ maxLen := by
    obtain ⟨x, len, cp, e, h1, h2, h3, _⟩ := hr
    simp only [Value.slice.injEq] at e
    obtain ⟨rfl, rfl, rfl⟩ := e
    exact ⟨h2, h3⟩
  have hlt := hr.lt
  obtain ⟨lb, lo, ha, hlb, hcells⟩ : ∃ lb lo, (l ≠ [] → a = some ⟨lb, lo, none⟩) ∧ (l ≠ [] → lb < w.heap.size) ∧ CellsL w lb lo l := by
    by_cases h : l = []
    · subst h; exact ⟨0, 0, fun h => absurd rfl h, fun h => absurd rfl h, fun i hi => absurd hi (by simp)⟩
    · have h0 : 0 < l.length := List.length_pos_iff.2 h
      rcases hr.shape with ⟨rfl, he⟩ | ⟨lb, lo, c, e, _, _, _, hcell⟩
      · exact absurd rfl h
      · simp only [Value.slice.injEq] at e
        obtain ⟨rfl, -, rfl⟩ := e
        exact ⟨lb, lo, fun _ => rfl, fun _ => World.block_lt_of_cell? w _ (hcell 0 h0), fun i hi => hcell i hi⟩
  clear hr
  have HA := Lib.hid ha
  have HLB := Lib.hid hlb
  have HLT := Lib.hid hlt
  have HC := Lib.hid hcells
  clear ha hlb hlt hcells
  refine (callsIn_wide (n := 3)).1 ?_
  refine callsIn_of_wp_marks Tryz.func26 rfl trivial ?_ rfl
  simp only [Tryz.ntmps26, List.size_toArray, List.length_cons, List.length_nil, Nat.reduceAdd, Nat.reduceSub, Array.replicate_succ, Array.replicate_zero, List.push_toArray, List.append_toArray, List.nil_append, List.cons_append]
  gi_wp2_with (refine ⟨trivial, ?_⟩; refine (callsIn_wide.2 (lines_any _ _ _ _)).mono ?_; rintro e w' ⟨rfl, rfl⟩)
  have hb0 : Boxed ((w.alloc (.cells #[.int .i64 0] 3)).alloc (.cells #[.slice a l.length cap] 22)) (w.heap.size + 1) 22 (.slice a l.length cap) := by
    have := Boxed.new (w.alloc (.cells #[.int .i64 0] 3)) 22 (.slice a l.length cap)
    rwa [World.size_alloc] at this
  have hbel : Below w.heap.size w ((w.alloc (.cells #[.int .i64 0] 3)).alloc (.cells #[.slice a l.length cap] 22)) := ((Below.refl _ w).alloc (Nat.le_refl _) _).alloc (by simp) _
  refine range_on rfl (by omega) (gf := 64) (lb := #[.pointer (some ⟨w.heap.size + 1, 0, none⟩)]) rfl trivial (enters_of Tryz.func64 (by kernel_rfl) rfl)
    (lines_on 2 a lb lo cap (w.heap.size + 1) w.heap.size l HA.out (by omega) HLB.out hc hm HLT.out) (by simp)
    (fun r => ⟨(hb0.alloc _).alloc _, HC.out.kept (n₀ := w.heap.size) (((hbel.alloc (by simp; omega) _)).alloc (by simp; omega) _) HLB.out⟩)
    (fun h k => ⟨h.1.trans k.1, k.2.trans h.2⟩)
    (fun W r r' hb => ⟨(Below.refl _ W).grown (grownBy_putObj' W _ _) (by have := (Array.getElem?_eq_some_iff.1 hb.2).1; simp at this; omega) (fun k e => by cases e; simp; omega), World.putObj_heap_other (by simp)⟩)
    (fun _ => rfl)
    (fun pre W => (Boxed W w.heap.size 3 (.int .i64 (sumW pre : Nat)) ∧ ∀ x ∈ pre, x.2.2 ≠ 0) ∧ Below w.heap.size w W)
    (fun c pre W => (Boxed W w.heap.size 3 (.int .i64 (sumW pre : Nat)) ∧ c = .exit 0 ∧ ∃ (p : List (Nat × Nat × Nat)) (x : Nat × Nat × Nat), pre = p ++ [x] ∧ (∀ y ∈ p, y.2.2 ≠ 0) ∧ x.2.2 = 0) ∧ Below w.heap.size w W)
    (OwnFrom.and (Own.from (fun s A C row hs hg hr => ⟨boxed_own _ _ (fun p => .int .i64 (sumW p : Nat)) s A C row hs.1 hg hr, hs.2⟩) _) (ownFrom_below (Nat.le_refl _) (by simp; omega)))
    (fun c => OwnFrom.and (Own.from (fun s A C row hs hg hr => ⟨boxed_own _ _ (fun p => .int .i64 (sumW p : Nat)) s A C row hs.1 hg hr, hs.2⟩) _) (ownFrom_below (Nat.le_refl _) (by simp; omega)))
    (fun s A C hs hg => ⟨⟨hs.1.1.kept hg (by simp), hs.1.2⟩, hs.2.grown hg hs.2.size (fun k e => by cases e; omega)⟩)
    (fun c s A C hs hg => ⟨⟨hs.1.1.kept hg (by simp), hs.1.2⟩, hs.2.grown hg hs.2.size (fun k e => by cases e; omega)⟩)
    ⟨⟨(Boxed.new w 3 _).alloc _, by simp⟩, hbel⟩
    (fun x => { tmps := #[.slice a l.length cap, undef, .int .i64 0, .pointer (some ⟨w.heap.size, 0, none⟩), .slice (some ⟨lb, lo + x.1, none⟩) x.2.1 (cap - x.1), .slice (some ⟨lb, lo + x.1, none⟩) x.2.2 (cap - x.1), .slice a l.length cap, .func (.func 64) #[] #[.pointer (some ⟨w.heap.size + 1, 0, none⟩)], .slice (some ⟨lb, lo + x.1, none⟩) x.2.1 (cap - x.1), .slice (some ⟨lb, lo + x.1, none⟩) x.2.2 (cap - x.1), undef, undef, undef, undef, undef, undef, undef, undef], defers := [] }) ?assign ?body ?done ?stop
  case assign =>
    intro x W K hK
    dsimp only [encL]
    gi_wp2
    exact hK
  case body =>
    rintro pre ⟨s, n, m⟩ rest W hx ⟨⟨hbx, hne⟩, hB⟩
    have hcx := hbx.cell
    have hfx := hbx.frozen
    have hsum : sumW pre + n ≤ l.length := by
      have h1 := sumW_lines l.length 0 l (Nat.le_refl _)
      rw [hx, sumW_append] at h1
      simp only [sumW] at h1
      omega
    have hw : IntKind.i64.wrap ((sumW pre : Int) + (n : Int)) = (sumW pre : Int) + (n : Int) := IntWalk.i64_in _ (by omega)
    have HN := Lib.hid hne
    have HBX := Lib.hid hbx
    have HB := Lib.hid hB
    clear hne hbx hB hx
    have hgo : sumW (pre ++ [(s, n, m)]) = sumW pre + n := by rw [sumW_append]; simp [sumW]
    have HGO := Lib.hid hgo
    clear hgo
    by_cases hm0 : m = 0
    · subst hm0
      gi_wp2
      refine ⟨(KeepsOthers.setCell _ _ _).from _, ⟨?_, rfl, pre, _, rfl, HN.out, rfl⟩, HB.out.setCell (p := ⟨w.heap.size, 0, none⟩) (Nat.le_refl _) _⟩
      rw [HGO.out]
      push_cast
      exact HBX.out.set _
    · have gm : ((m : Int) == 0) = false := beq_false_of_ne (by omega)
      gi_wp2
      refine ⟨(KeepsOthers.setCell _ _ _).from _, ⟨(Below.refl _ W).setCell (p := ⟨w.heap.size, 0, none⟩) (Nat.le_refl _) _, Below.heap_setCell _ _ _ _ (by simp)⟩, ⟨?_, ?_⟩, HB.out.setCell (p := ⟨w.heap.size, 0, none⟩) (Nat.le_refl _) _⟩
      · rw [HGO.out]
        push_cast
        exact HBX.out.set _
      · intro y hy
        rcases List.mem_append.1 hy with h | h
        · exact HN.out y h
        · obtain rfl := List.mem_singleton.1 h
          exact hm0
  case done =>
    rintro W ⟨⟨hbx, hne⟩, hB⟩ hK
    have hcx := hbx.cell
    have hs : splitS l = sumW (linesP 0 l) := splitL_all hne
    have HS := Lib.hid hs
    clear hs hne
    gi_wp2
    refine ⟨by simp, .inl ⟨_, _, rfl, run_takeDeferred hK, ?_⟩⟩
    exact ⟨_, results_tmp rfl _ _ _, by rw [HS.out]; rfl, hB.trans (belowK_b (w := w) (Nat.le_refl _) W _ _ _ (by simp; omega) hK rfl rfl)⟩
  case stop =>
    rintro c pre W ⟨rest, hp⟩ ⟨⟨hbx, rfl, p, x, rfl, hne, hx⟩, hB⟩ hK
    have hcx := hbx.cell
    have hs : splitS l = sumW (p ++ [x]) := by
      unfold splitS
      rw [← hp, List.append_assoc]
      exact splitL_stop hne hx
    have HS := Lib.hid hs
    clear hs hne hp
    gi_wp2
    refine ⟨by simp, .inl ⟨_, _, rfl, run_takeDeferred hK, ?_⟩⟩
    exact ⟨_, results_tmp rfl _ _ _, by rw [HS.out]; rfl, hB.trans (belowK_b (w := w) (Nat.le_refl _) W _ _ _ (by simp; omega) hK rfl rfl)⟩
end
end Go.Proofs.YtnncldnpkfjhbaaGreatDoor
