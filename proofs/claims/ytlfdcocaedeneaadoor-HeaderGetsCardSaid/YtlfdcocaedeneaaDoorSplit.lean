/-
  Split: where the body begins.
-/
import Derived.Test.YtlfdcocaedeneaaDoorLines
namespace Go.Proofs.YtlfdcocaedeneaaDoor
set_option linter.unusedVariables false
open Go.RowKit Go.Shelf
attribute [local go_sem] Oper.semAt_some

/-- lines makes the iterator: the text lies in a box of its own -/
theorem lines_any (a : Option Addr) (n c : Nat) (w : World) : Calls Tryd.prog 25 #[.slice a n c] w fun e w' => e = .returned (.func (.func 38) #[] #[.pointer (some ⟨w.heap.size, 0, none⟩)]) ∧ w' = w.alloc (.cells #[.slice a n c] 22) := by
  go_enter Tryd.func25, Tryd.ntmps25
  go_wp2_with fail
  go_ret
  exact ⟨rfl, rfl⟩

/-- how long lines are together -/
def sumW : List (Nat × Nat × Nat) → Nat
  | [] => 0
  | x :: r => x.2.1 + sumW r
theorem sumW_append (a b : List (Nat × Nat × Nat)) : sumW (a ++ b) = sumW a + sumW b := by
  induction a with
  | nil => simp [sumW]
  | cons x a ih => simp [sumW, ih]; omega
theorem sumW_lines (n : Nat) : ∀ (k : Nat) (r : List Nat), r.length ≤ n → sumW (linesP k r) = r.length := by
  induction n with
  | zero =>
    intro k r h
    have : r = [] := List.eq_nil_of_length_eq_zero (by omega)
    subst this
    rw [linesP_nil]
    rfl
  | succ n ih =>
    intro k r h
    by_cases hr : r = []
    · subst hr; rw [linesP_nil]; rfl
    · rw [linesP_cons k hr]
      have h1 := wholeN_pos hr
      have h2 := wholeN_le r
      show wholeN r + sumW _ = _
      rw [ih _ _ (by simp; omega)]
      simp
      omega
/-- where the body begins: behind the first empty line -/
def splitL : List (Nat × Nat × Nat) → Nat
  | [] => 0
  | x :: r => x.2.1 + (if x.2.2 = 0 then 0 else splitL r)
def splitS (l : List Nat) : Nat := splitL (linesP 0 l)
theorem splitL_all {xs : List (Nat × Nat × Nat)} (h : ∀ x ∈ xs, x.2.2 ≠ 0) : splitL xs = sumW xs := by
  induction xs with
  | nil => rfl
  | cons x xs ih =>
    have h1 := h x (List.mem_cons_self ..)
    show x.2.1 + _ = x.2.1 + _
    rw [if_neg h1, ih fun y hy => h y (List.mem_cons_of_mem _ hy)]
theorem splitL_stop {pre rest : List (Nat × Nat × Nat)} {x : Nat × Nat × Nat} (h : ∀ y ∈ pre, y.2.2 ≠ 0) (hx : x.2.2 = 0) : splitL (pre ++ x :: rest) = sumW (pre ++ [x]) := by
  induction pre with
  | nil => simp [splitL, sumW, hx]
  | cons y pre ih =>
    have h1 := h y (List.mem_cons_self ..)
    show y.2.1 + _ = y.2.1 + _
    rw [if_neg h1]
    congr 1
    exact ih fun z hz => h z (List.mem_cons_of_mem _ hz)

set_option maxRecDepth 100000 in
set_option maxHeartbeats 4000000 in
theorem split_any (v : Value) (l : List Nat) (w : World) (hr : RowB w v l) (hl : l.length ≤ 140737488351232) :
    Calls Tryd.prog 10 #[v] w fun e w' => e = .returned (.int .i64 (splitS l : Nat)) ∧ Below w.heap.size w w' := by
  obtain ⟨a, cap, rfl⟩ : ∃ a c, v = .slice a l.length c := by obtain ⟨a, len, c, e, h, _⟩ := hr; exact ⟨a, c, by rw [e, h]⟩
  obtain ⟨hc, hm⟩ : l.length ≤ cap ∧ cap ≤ maxLen := by
    obtain ⟨x, len, cp, e, h1, h2, h3, _⟩ := hr
    simp only [Value.slice.injEq] at e
    obtain ⟨rfl, rfl, rfl⟩ := e
    exact ⟨h2, h3⟩
  have hlt := hr.lt
  obtain ⟨lb, lo, ha, hlb, hcells⟩ : ∃ lb lo, (l ≠ [] → a = some ⟨lb, lo, none⟩) ∧ (l ≠ [] → lb < w.heap.size) ∧ CellsL w lb lo l := by
    by_cases h : l = []
    · subst h; exact ⟨0, 0, fun h => absurd rfl h, fun h => absurd rfl h, fun i hi => absurd hi (by simp)⟩
    · have h0 : 0 < l.length := List.length_pos_iff.2 h
      rcases hr.shape with ⟨rfl, he⟩ | ⟨lb, lo, c, e, _, _, _, hcell⟩
      · exact absurd rfl h
      · simp only [Value.slice.injEq] at e
        obtain ⟨rfl, -, rfl⟩ := e
        exact ⟨lb, lo, fun _ => rfl, fun _ => World.block_lt_of_cell? w _ (hcell 0 h0), fun i hi => hcell i hi⟩
  clear hr
  have HA := Lib.hid ha
  have HLB := Lib.hid hlb
  have HLT := Lib.hid hlt
  have HC := Lib.hid hcells
  clear ha hlb hlt hcells
  refine (callsIn_wide (n := 3)).1 ?_
  refine callsIn_of_wp_marks Tryd.func10 rfl trivial ?_ rfl
  simp only [Tryd.ntmps10, List.size_toArray, List.length_cons, List.length_nil, Nat.reduceAdd, Nat.reduceSub, Array.replicate_succ, Array.replicate_zero, List.push_toArray, List.append_toArray, List.nil_append, List.cons_append]
  gi_wp2_with (refine ⟨trivial, ?_⟩; refine (callsIn_wide.2 (lines_any _ _ _ _)).mono ?_; rintro e w' ⟨rfl, rfl⟩)
  have hb0 : Boxed ((w.alloc (.cells #[.int .i64 0] 3)).alloc (.cells #[.slice a l.length cap] 22)) (w.heap.size + 1) 22 (.slice a l.length cap) := by
    have := Boxed.new (w.alloc (.cells #[.int .i64 0] 3)) 22 (.slice a l.length cap)
    rwa [World.size_alloc] at this
  have hbel : Below w.heap.size w ((w.alloc (.cells #[.int .i64 0] 3)).alloc (.cells #[.slice a l.length cap] 22)) := ((Below.refl _ w).alloc (Nat.le_refl _) _).alloc (by simp) _
  refine range_on rfl (by omega) (gf := 38) (lb := #[.pointer (some ⟨w.heap.size + 1, 0, none⟩)]) rfl trivial (enters_of Tryd.func38 (by kernel_rfl) rfl)
    (lines_on 2 a lb lo cap (w.heap.size + 1) w.heap.size l HA.out (by omega) HLB.out hc hm HLT.out) (by simp)
    (fun r => ⟨(hb0.alloc _).alloc _, HC.out.kept (n₀ := w.heap.size) (((hbel.alloc (by simp; omega) _)).alloc (by simp; omega) _) HLB.out⟩)
    (fun h k => ⟨h.1.trans k.1, k.2.trans h.2⟩)
    (fun W r r' hb => ⟨(Below.refl _ W).grown (grownBy_putObj' W _ _) (by have := (Array.getElem?_eq_some_iff.1 hb.2).1; simp at this; omega) (fun k e => by cases e; simp; omega), World.putObj_heap_other (by simp)⟩)
    (fun _ => rfl)
    (fun pre W => (Boxed W w.heap.size 3 (.int .i64 (sumW pre : Nat)) ∧ ∀ x ∈ pre, x.2.2 ≠ 0) ∧ Below w.heap.size w W)
    (fun c pre W => (Boxed W w.heap.size 3 (.int .i64 (sumW pre : Nat)) ∧ c = .exit 0 ∧ ∃ (p : List (Nat × Nat × Nat)) (x : Nat × Nat × Nat), pre = p ++ [x] ∧ (∀ y ∈ p, y.2.2 ≠ 0) ∧ x.2.2 = 0) ∧ Below w.heap.size w W)
    (OwnFrom.and (Own.from (fun s A C row hs hg hr => ⟨boxed_own _ _ (fun p => .int .i64 (sumW p : Nat)) s A C row hs.1 hg hr, hs.2⟩) _) (ownFrom_below (Nat.le_refl _) (by simp; omega)))
    (fun c => OwnFrom.and (Own.from (fun s A C row hs hg hr => ⟨boxed_own _ _ (fun p => .int .i64 (sumW p : Nat)) s A C row hs.1 hg hr, hs.2⟩) _) (ownFrom_below (Nat.le_refl _) (by simp; omega)))
    (fun s A C hs hg => ⟨⟨hs.1.1.kept hg (by simp), hs.1.2⟩, hs.2.grown hg hs.2.size (fun k e => by cases e; omega)⟩)
    (fun c s A C hs hg => ⟨⟨hs.1.1.kept hg (by simp), hs.1.2⟩, hs.2.grown hg hs.2.size (fun k e => by cases e; omega)⟩)
    ⟨⟨(Boxed.new w 3 _).alloc _, by simp⟩, hbel⟩
    (fun x => { tmps := #[.slice a l.length cap, undef, .int .i64 0, .pointer (some ⟨w.heap.size, 0, none⟩), .slice (some ⟨lb, lo + x.1, none⟩) x.2.1 (cap - x.1), .slice (some ⟨lb, lo + x.1, none⟩) x.2.2 (cap - x.1), .slice a l.length cap, .func (.func 38) #[] #[.pointer (some ⟨w.heap.size + 1, 0, none⟩)], .slice (some ⟨lb, lo + x.1, none⟩) x.2.1 (cap - x.1), .slice (some ⟨lb, lo + x.1, none⟩) x.2.2 (cap - x.1), undef, undef, undef, undef, undef, undef, undef, undef], defers := [] }) ?assign ?body ?done ?stop
  case assign =>
    intro x W K hK
    dsimp only [encL]
    gi_wp2
    exact hK
  case body =>
    rintro pre ⟨s, n, m⟩ rest W hx ⟨⟨hbx, hne⟩, hB⟩
    have hcx := hbx.cell
    have hfx := hbx.frozen
    have hsum : sumW pre + n ≤ l.length := by
      have h1 := sumW_lines l.length 0 l (Nat.le_refl _)
      rw [hx, sumW_append] at h1
      simp only [sumW] at h1
      omega
    have hw : IntKind.i64.wrap ((sumW pre : Int) + (n : Int)) = (sumW pre : Int) + (n : Int) := IntWalk.i64_in _ (by omega)
    have HN := Lib.hid hne
    have HBX := Lib.hid hbx
    have HB := Lib.hid hB
    clear hne hbx hB hx
    have hgo : sumW (pre ++ [(s, n, m)]) = sumW pre + n := by rw [sumW_append]; simp [sumW]
    have HGO := Lib.hid hgo
    clear hgo
    by_cases hm0 : m = 0
    · subst hm0
      gi_wp2
      refine ⟨(KeepsOthers.setCell _ _ _).from _, ⟨?_, rfl, pre, _, rfl, HN.out, rfl⟩, HB.out.setCell (p := ⟨w.heap.size, 0, none⟩) (Nat.le_refl _) _⟩
      rw [HGO.out]
      push_cast
      exact HBX.out.set _
    · have gm : ((m : Int) == 0) = false := beq_false_of_ne (by omega)
      gi_wp2
      refine ⟨(KeepsOthers.setCell _ _ _).from _, ⟨(Below.refl _ W).setCell (p := ⟨w.heap.size, 0, none⟩) (Nat.le_refl _) _, Below.heap_setCell _ _ _ _ (by simp)⟩, ⟨?_, ?_⟩, HB.out.setCell (p := ⟨w.heap.size, 0, none⟩) (Nat.le_refl _) _⟩
      · rw [HGO.out]
        push_cast
        exact HBX.out.set _
      · intro y hy
        rcases List.mem_append.1 hy with h | h
        · exact HN.out y h
        · obtain rfl := List.mem_singleton.1 h
          exact hm0
  case done =>
    rintro W ⟨⟨hbx, hne⟩, hB⟩ hK
    have hcx := hbx.cell
    have hs : splitS l = sumW (linesP 0 l) := splitL_all hne
    have HS := Lib.hid hs
    clear hs hne
    gi_wp2
    refine ⟨by simp, .inl ⟨_, _, rfl, run_takeDeferred hK, ?_⟩⟩
    exact ⟨_, results_tmp rfl _ _ _, by rw [HS.out]; rfl, hB.trans (belowK_b (w := w) (Nat.le_refl _) W _ _ _ (by simp; omega) hK rfl rfl)⟩
  case stop =>
    rintro c pre W ⟨rest, hp⟩ ⟨⟨hbx, rfl, p, x, rfl, hne, hx⟩, hB⟩ hK
    have hcx := hbx.cell
    have hs : splitS l = sumW (p ++ [x]) := by
      unfold splitS
      rw [← hp, List.append_assoc]
      exact splitL_stop hne hx
    have HS := Lib.hid hs
    clear hs hne hp
    gi_wp2
    refine ⟨by simp, .inl ⟨_, _, rfl, run_takeDeferred hK, ?_⟩⟩
    exact ⟨_, results_tmp rfl _ _ _, by rw [HS.out]; rfl, hB.trans (belowK_b (w := w) (Nat.le_refl _) W _ _ _ (by simp; omega) hK rfl rfl)⟩
end Go.Proofs.YtlfdcocaedeneaaDoor
