/-
  A part: the walk.
-/
import Derived.Test.YtnncldnpkfjhbaaGreatDoorMg21
import Derived.Lib.SmallJoins
namespace Go.Proofs.YtnncldnpkfjhbaaGreatDoor
set_option linter.unusedVariables false
open Go.RowKit Go.Lib Go.Shelf Go.Joins
attribute [local go_sem] Oper.semAt_some

theorem info37 : (Tryz.prog.info? 37).map (fun i => (i.zero, i.size, i.bytes)) = some (some (.agg #[.string ⟨#[]⟩, .string ⟨#[]⟩, .int .i64 0, .int .i64 0, .int .i64 0, .int .i64 0, .slice none 0 0]), 7, 88) := by kernel_rfl
theorem boxed_below {w W : World} {n k T : Nat} {v : Value} (h : Boxed w k T v) (hb : Below n w W) (hk : k < n) : Boxed W k T v := (hb.block k hk).trans h
theorem cells7 {w : World} {q T : Nat} {x0 x1 x2 x3 x4 x5 x6 : Value} (h : w.heap[q]? = some (.cells #[x0, x1, x2, x3, x4, x5, x6] T (0, 0))) :
    w.cell? ⟨q, 0, none⟩ = some x0 ∧ w.cell? ⟨q, 1, none⟩ = some x1 ∧ w.cell? ⟨q, 2, none⟩ = some x2 ∧ w.cell? ⟨q, 3, none⟩ = some x3 ∧ w.cell? ⟨q, 4, none⟩ = some x4 ∧ w.cell? ⟨q, 5, none⟩ = some x5 ∧ w.cell? ⟨q, 6, none⟩ = some x6 :=
  ⟨cell_of_row _ _ 0 _ _ _ h, cell_of_row _ _ 1 _ _ _ h, cell_of_row _ _ 2 _ _ _ h, cell_of_row _ _ 3 _ _ _ h, cell_of_row _ _ 4 _ _ _ h, cell_of_row _ _ 5 _ _ _ h, cell_of_row _ _ 6 _ _ _ h⟩
theorem free7 {w : World} {q T : Nat} {x0 x1 x2 x3 x4 x5 x6 : Value} (h : w.heap[q]? = some (.cells #[x0, x1, x2, x3, x4, x5, x6] T (0, 0))) :
    w.frozen? ⟨q, 0, none⟩ = false ∧ w.frozen? ⟨q, 1, none⟩ = false ∧ w.frozen? ⟨q, 2, none⟩ = false ∧ w.frozen? ⟨q, 3, none⟩ = false ∧ w.frozen? ⟨q, 4, none⟩ = false ∧ w.frozen? ⟨q, 5, none⟩ = false ∧ w.frozen? ⟨q, 6, none⟩ = false :=
  ⟨unfrozen_of_block h 0, unfrozen_of_block h 1, unfrozen_of_block h 2, unfrozen_of_block h 3, unfrozen_of_block h 4, unfrozen_of_block h 5, unfrozen_of_block h 6⟩
def PartOk (k : Nat) (l : List Nat) (f t n : Nat) (w : World) (e : Ending) (W' : World) : Prop :=
  ∃ v, e = .returned (.agg (headV (partS l k f t) v).toArray) ∧ PtV k (fun g => n ≤ g) W' (partS l k f t) (headV (partS l k f t) v) ∧ Below n w W'
theorem res25 (tmps : Array Value) (W : World) (b : Nat) (x0 x1 x2 x3 x4 x5 x6 : Value) (h : tmps[8]?.getD undef = .pointer (some ⟨b, 0, none⟩)) (hc : W.heap[b]? = some (.cells #[x0, x1, x2, x3, x4, x5, x6] 37 (0, 0))) : (results Tryz.f25 tmps).run Tryz.prog W = .ok (.agg #[x0, x1, x2, x3, x4, x5, x6]) W := by
  obtain ⟨m0, m1, m2, m3, m4, m5, m6⟩ := cells7 hc
  simp [results, Tryz.results25, h, asAddr, loadVar, go_sem, m0, m1, m2, m3, m4, m5, m6]
abbrev set7 (W : World) (n : Nat) (x0 x1 x2 x3 x4 x5 x6 : Value) : World := ((((((W.setCell ⟨n, 0, none⟩ x0).setCell ⟨n, 1, none⟩ x1).setCell ⟨n, 2, none⟩ x2).setCell ⟨n, 3, none⟩ x3).setCell ⟨n, 4, none⟩ x4).setCell ⟨n, 5, none⟩ x5).setCell ⟨n, 6, none⟩ x6
theorem block7 {W : World} {n T : Nat} {z0 z1 z2 z3 z4 z5 z6 : Value} (h : W.heap[n]? = some (.cells #[z0, z1, z2, z3, z4, z5, z6] T (0, 0))) (x0 x1 x2 x3 x4 x5 x6 : Value) : (set7 W n x0 x1 x2 x3 x4 x5 x6).heap[n]? = some (.cells #[x0, x1, x2, x3, x4, x5, x6] T (0, 0)) := by
  have h0 : (W.setCell ⟨n, 0, none⟩ x0).heap[n]? = some (.cells #[x0, z1, z2, z3, z4, z5, z6] T (0, 0)) := (block_setCell h x0).trans (by simp)
  have h1 : ((W.setCell ⟨n, 0, none⟩ x0).setCell ⟨n, 1, none⟩ x1).heap[n]? = some (.cells #[x0, x1, z2, z3, z4, z5, z6] T (0, 0)) := (block_setCell h0 x1).trans (by simp)
  have h2 : (((W.setCell ⟨n, 0, none⟩ x0).setCell ⟨n, 1, none⟩ x1).setCell ⟨n, 2, none⟩ x2).heap[n]? = some (.cells #[x0, x1, x2, z3, z4, z5, z6] T (0, 0)) := (block_setCell h1 x2).trans (by simp)
  have h3 : ((((W.setCell ⟨n, 0, none⟩ x0).setCell ⟨n, 1, none⟩ x1).setCell ⟨n, 2, none⟩ x2).setCell ⟨n, 3, none⟩ x3).heap[n]? = some (.cells #[x0, x1, x2, x3, z4, z5, z6] T (0, 0)) := (block_setCell h2 x3).trans (by simp)
  have h4 : (((((W.setCell ⟨n, 0, none⟩ x0).setCell ⟨n, 1, none⟩ x1).setCell ⟨n, 2, none⟩ x2).setCell ⟨n, 3, none⟩ x3).setCell ⟨n, 4, none⟩ x4).heap[n]? = some (.cells #[x0, x1, x2, x3, x4, z5, z6] T (0, 0)) := (block_setCell h3 x4).trans (by simp)
  have h5 : ((((((W.setCell ⟨n, 0, none⟩ x0).setCell ⟨n, 1, none⟩ x1).setCell ⟨n, 2, none⟩ x2).setCell ⟨n, 3, none⟩ x3).setCell ⟨n, 4, none⟩ x4).setCell ⟨n, 5, none⟩ x5).heap[n]? = some (.cells #[x0, x1, x2, x3, x4, x5, z6] T (0, 0)) := (block_setCell h4 x5).trans (by simp)
  have h6 : (((((((W.setCell ⟨n, 0, none⟩ x0).setCell ⟨n, 1, none⟩ x1).setCell ⟨n, 2, none⟩ x2).setCell ⟨n, 3, none⟩ x3).setCell ⟨n, 4, none⟩ x4).setCell ⟨n, 5, none⟩ x5).setCell ⟨n, 6, none⟩ x6).heap[n]? = some (.cells #[x0, x1, x2, x3, x4, x5, x6] T (0, 0)) := (block_setCell h5 x6).trans (by simp)
  exact h6
theorem other7 (W : World) (n j : Nat) (h : j ≠ n) (x0 x1 x2 x3 x4 x5 x6 : Value) : (set7 W n x0 x1 x2 x3 x4 x5 x6).heap[j]? = W.heap[j]? := by
  unfold set7
  repeat rw [Below.heap_setCell _ _ _ j (by simpa using h)]
theorem below7 {w W : World} {n : Nat} (h : Below n w W) (x0 x1 x2 x3 x4 x5 x6 : Value) : Below n w (set7 W n x0 x1 x2 x3 x4 x5 x6) :=
  ((((((h.setCell (p := ⟨n, 0, none⟩) (by simp) _).setCell (p := ⟨n, 1, none⟩) (by simp) _).setCell (p := ⟨n, 2, none⟩) (by simp) _).setCell (p := ⟨n, 3, none⟩) (by simp) _).setCell (p := ⟨n, 4, none⟩) (by simp) _).setCell (p := ⟨n, 5, none⟩) (by simp) _).setCell (p := ⟨n, 6, none⟩) (by simp) _
/-- the end of the call -/
theorem fin25 {k f t n : Nat} {l : List Nat} {w W : World} {v : Value} {z0 z1 z2 z3 z4 z5 z6 : Value} {tmps : Array Value} (h8 : tmps[8]?.getD undef = .pointer (some ⟨n, 0, none⟩)) (hz : W.heap[n]? = some (.cells #[z0, z1, z2, z3, z4, z5, z6] 37 (0, 0)))
    (hb : Below n w W) {KS SS : ByteArray} {bo ct : Nat} (hp : PtV k (fun g => n < g) W (partS l k f t) (headV (partS l k f t) v)) (hv : headV (partS l k f t) v = [.string KS, .string SS, .int .i64 (f : Nat), .int .i64 (bo : Nat), .int .i64 (t : Nat), .int .i64 (ct : Nat), v]) :
    bodyPost Tryz.prog Tryz.f25 (PartOk k l f t n w) Exit.ret { tmps := tmps, defers := [] } (set7 W n (.string KS) (.string SS) (.int .i64 (f : Nat)) (.int .i64 (bo : Nat)) (.int .i64 (t : Nat)) (.int .i64 (ct : Nat)) v) := by
  refine bodyPost_ret (v := .agg (headV (partS l k f t) v).toArray) ?_ rfl ?_
  · rw [hv]
    exact res25 _ _ n _ _ _ _ _ _ _ h8 (block7 hz _ _ _ _ _ _ _)
  · exact ⟨v, rfl, hp.keep (fun g hg => Nat.le_of_lt hg) (fun g hg C fz _ => other7 _ _ _ (by omega) _ _ _ _ _ _ _), below7 hb _ _ _ _ _ _ _⟩
theorem headV_one {k : Nat} {X : Nat → Prop} {W : World} {p : PT} {cs : List Value} (h : PtV k X W p cs) : ∀ u ∈ cs, u.oneCell' = true := by
  obtain ⟨a, c, rfl⟩ := h.shape
  intro u hu
  simp only [headV, List.mem_cons, List.not_mem_nil, or_false] at hu
  rcases hu with rfl | rfl | rfl | rfl | rfl | rfl | rfl <;> rfl
theorem spC_at (o : List (Nat × Nat)) : ∀ (i : Nat) (h : i < o.length), (spC o)[i * 2]? = some (.int .i64 (o[i].1 : Nat)) ∧ (spC o)[i * 2 + 1]? = some (.int .i64 (o[i].2 : Nat)) := by
  induction o with
  | nil => intro i h; simp at h
  | cons x o ih =>
    intro i h
    have e : spC (x :: o) = .int .i64 (x.1 : Nat) :: .int .i64 (x.2 : Nat) :: spC o := rfl
    rw [e]
    cases i with
    | zero => exact ⟨rfl, rfl⟩
    | succ i =>
      have := ih i (by simpa using h)
      rw [show (i + 1) * 2 = i * 2 + 1 + 1 by omega]
      simpa using this
theorem sp_cells {w : World} {B : Nat} {v : Value} {o : List (Nat × Nat)} (h : w.ownsRow B 70 2 v o.length (spC o)) (h0 : 0 < o.length) : ∃ g c, v = .slice (some ⟨g, 0, none⟩) o.length c ∧ o.length ≤ c ∧ g < w.heap.size ∧ ∀ i (hi : i < o.length), w.cell? ⟨g, i * 2, none⟩ = some (.int .i64 (o[i].1 : Nat)) ∧ w.cell? ⟨g, i * 2 + 1, none⟩ = some (.int .i64 (o[i].2 : Nat)) := by
  rcases h.2 with ⟨_, hz⟩ | ⟨g, cap, cur, hv, hB, hh, hc, hmx, hs, ht⟩
  · omega
  · refine ⟨g, cap, hv, hc, (Array.getElem?_eq_some_iff.1 hh).1, fun i hi => ?_⟩
    have h2 := spC_at o i hi
    rw [← ht, List.getElem?_take, if_pos (by omega), List.getElem?_take, if_pos (by omega)] at h2
    rw [cell_of_row _ _ _ _ _ _ hh, cell_of_row _ _ _ _ _ _ hh]
    simpa using h2
/-- the loop over the pieces, j of them done -/
def LpI (k n q f bo t ct : Nat) (w : World) (KS SS : ByteArray) (ps : List PT) (sv : Value) (SP : List (Nat × Nat)) (j : Nat) (wr : World) : Prop :=
  (∃ v xs, wr.heap[q]? = some (.cells #[.string KS, .string SS, .int .i64 (f : Nat), .int .i64 (bo : Nat), .int .i64 (t : Nat), .int .i64 (ct : Nat), v] 37 (0, 0)) ∧ wr.ownsRow (q + 1) 37 7 v j xs ∧ KidsV k (fun g => q < g ∧ v.ownBlock ≠ some g) wr (ps.take j) xs) ∧
  wr.heap[n]? = some (.cells #[.string ⟨#[]⟩, .string ⟨#[]⟩, .int .i64 0, .int .i64 0, .int .i64 0, .int .i64 0, .slice none 0 0] 37 (0, 0)) ∧ Below n w wr ∧ wr.ownsRow 0 70 2 sv SP.length (spC SP)
theorem own_shape2' {w : World} {B T z : Nat} {v : Value} {n : Nat} {xs : List Value} (h : w.ownsRow B T z v n xs) : ∃ a c, v = .slice a n c := own_shape2 h
theorem partS_multi {l : List Nat} {k f t : Nat} (h : kindS (ctS l f t) = multiL ∧ bndS (ctS l f t) ≠ []) : partS l (k + 1) f t = .mk (kindS (ctS l f t)) (subS (ctS l f t)) f (bodyS l f t) t (cntS l (bodyS l f t) t) ((spansS l ((bndS (ctS l f t)).map UInt8.toNat) (bodyS l f t) t).map fun p => partS l k p.1 p.2) := by
  rw [partS, if_pos h]
theorem partS_letter {l : List Nat} {k f t : Nat} (h : ¬ (kindS (ctS l f t) = multiL ∧ bndS (ctS l f t) ≠ [])) (h2 : kindS (ctS l f t) = messL ∧ subS (ctS l f t) = rfcL) : partS l (k + 1) f t = .mk (kindS (ctS l f t)) (subS (ctS l f t)) f (bodyS l f t) t (cntS l (bodyS l f t) t) [partS l k (bodyS l f t) t] := by
  rw [partS, if_neg h, if_pos h2]
theorem partS_plain {l : List Nat} {k f t : Nat} (h : ¬ (kindS (ctS l f t) = multiL ∧ bndS (ctS l f t) ≠ [])) (h2 : ¬ (kindS (ctS l f t) = messL ∧ subS (ctS l f t) = rfcL)) : partS l (k + 1) f t = .mk (kindS (ctS l f t)) (subS (ctS l f t)) f (bodyS l f t) t (cntS l (bodyS l f t) t) [] := by
  rw [partS, if_neg h, if_neg h2]
/-- a part's value, its cells by themselves -/
theorem PartOk.lit {k : Nat} {l : List Nat} {f t n : Nat} {w : World} {e : Ending} {W' : World} (h : PartOk k l f t n w e W') : ∃ (K0 S0 : ByteArray) (h0 f0 t0 n0 : Nat) (a : Option Addr) (kn c : Nat), e = .returned (.agg #[.string K0, .string S0, .int .i64 (h0 : Nat), .int .i64 (f0 : Nat), .int .i64 (t0 : Nat), .int .i64 (n0 : Nat), .slice a kn c]) ∧
    PtV k (fun g => n ≤ g) W' (partS l k f t) [.string K0, .string S0, .int .i64 (h0 : Nat), .int .i64 (f0 : Nat), .int .i64 (t0 : Nat), .int .i64 (n0 : Nat), .slice a kn c] ∧ Below n w W' := by
  obtain ⟨v, rfl, hp, hb⟩ := h
  obtain ⟨a, c, e⟩ := hp.shape
  rw [e] at hp ⊢
  exact ⟨_, _, _, _, _, _, _, _, _, rfl, hp, hb⟩
theorem rowOf1 {w : World} (x : List Value) (hx : x.length = 7) : (w.alloc (.cells x.toArray 37)).ownsRow w.heap.size 37 7 (.slice (some ⟨w.heap.size, 0, none⟩) 1 1) 1 x := by
  refine ⟨by omega, .inr ⟨w.heap.size, 1, x.toArray, rfl, Nat.le_refl _, heap_alloc_new w _, Nat.le_refl _, by decide, by simp [hx], ?_⟩⟩
  rw [List.take_of_length_le (by simp [hx])]
/-- what is said of each depth -/
def PartThm (l : List Nat) (a : Option Addr) (cap bB pB k : Nat) : Prop :=
  ∀ (f t d : Nat) (w : World), k + d = 7 → RowB w (.slice a l.length cap) l → Boxed w bB 22 (.slice a l.length cap) → Boxed w pB 60 (.func (.func 25) #[] #[.pointer (some ⟨bB, 0, none⟩), .pointer (some ⟨pB, 0, none⟩)]) → f ≤ t → t ≤ l.length →
    Calls Tryz.prog 25 #[.int .i64 (f : Nat), .int .i64 (t : Nat), .int .i64 (d : Nat), .pointer (some ⟨bB, 0, none⟩), .pointer (some ⟨pB, 0, none⟩)] w (PartOk k l f t w.heap.size w)
set_option maxRecDepth 100000 in
set_option maxHeartbeats 8000000 in
theorem part_step (l : List Nat) (a : Option Addr) (cap bB pB k : Nat) (hIH : ∀ k', k' < k → PartThm l a cap bB pB k') (hl : l.length ≤ 100000) (f t d : Nat) (w : World) (hkd : k + d = 7) (hr : RowB w (.slice a l.length cap) l)
    (hb : Boxed w bB 22 (.slice a l.length cap)) (hp : Boxed w pB 60 (.func (.func 25) #[] #[.pointer (some ⟨bB, 0, none⟩), .pointer (some ⟨pB, 0, none⟩)])) (hf : f ≤ t) (ht : t ≤ l.length) :
    Calls Tryz.prog 25 #[.int .i64 (f : Nat), .int .i64 (t : Nat), .int .i64 (d : Nat), .pointer (some ⟨bB, 0, none⟩), .pointer (some ⟨pB, 0, none⟩)] w (PartOk k l f t w.heap.size w) := by
  obtain ⟨-, hlc, hcm, lb, lo, hat, hcl⟩ := hr.at
  have cb := hb.cell
  have hlt := hb.lt
  have hltB := hlt
  have hbd := bodyS_le hf ht
  have hbody : f + splitS (rngS l f t) = bodyS l f t := rfl
  have h1 := splitS_le (rngS l f t)
  have hr1 := (hr.rng hf ht).below ((Below.refl w.heap.size w).alloc (Nat.le_refl _) (.cells #[.string ⟨#[]⟩, .string ⟨#[]⟩, .int .i64 0, .int .i64 0, .int .i64 0, .int .i64 0, .slice none 0 0] 37))
  have HSP := Lib.hid (split_any _ _ _ hr1 (by rw [rngS_len ht]; omega))
  obtain ⟨bo, hbo⟩ : ∃ bo, bodyS l f t = bo := ⟨_, rfl⟩
  rw [hbo] at hbody hbd
  have hbi : (f : Int) + (splitS (rngS l f t) : Int) = (bo : Int) := by rw [← hbody]; exact (Int.natCast_add _ _).symm
  rw [rngS_len ht] at h1
  have HR := Lib.hid hr
  have HKD := Lib.hid hkd
  have HF := Lib.hid (And.intro hf (And.intro ht (And.intro hbd (And.intro hlc hcm))))
  have HAT := Lib.hid (And.intro hat hcl)
  have HBO := Lib.hid hbo
  have hwf : f ≤ l.length := by omega
  have HIH := Lib.hid hIH
  clear hr hr1 hat hcl hbo hbody hkd hIH
  go_enter Tryz.func25, Tryz.ntmps25
  go_upto_region 2 with (go_at_call 26; refine HSP.out.mono ?_; rintro e w1 ⟨rfl, hb1⟩; have cb1 := (hb1.cell (p := ⟨bB, 0, none⟩) (by simp; omega)).trans (show (w.alloc (.cells #[.string ⟨#[]⟩, .string ⟨#[]⟩, .int .i64 0, .int .i64 0, .int .i64 0, .int .i64 0, .slice none 0 0] 37)).cell? ⟨bB, 0, none⟩ = _ from (hb.alloc _).cell))
  obtain ⟨W2, hW2⟩ : ∃ W2, w1.alloc (.cells #[.string ⟨#[]⟩, .string ⟨#[]⟩, .int .i64 (f : Nat), .int .i64 (bo : Nat), .int .i64 (t : Nat), .int .i64 0, .slice none 0 0] 37) = W2 := ⟨_, rfl⟩
  obtain ⟨q, hq⟩ : ∃ q, w1.heap.size = q := ⟨_, rfl⟩
  have hs1 := hb1.size
  simp at hs1
  have hbe : Below w.heap.size w W2 := by rw [← hW2]; exact (((Below.refl _ w).alloc (Nat.le_refl _) _).trans (hb1.mono (by simp))).alloc (by omega) _
  have hnb : W2.heap[w.heap.size]? = some (.cells #[.string ⟨#[]⟩, .string ⟨#[]⟩, .int .i64 0, .int .i64 0, .int .i64 0, .int .i64 0, .slice none 0 0] 37 (0, 0)) := by
    rw [← hW2, Below.heap_alloc _ _ _ (by omega), hb1.block _ (by simp), heap_alloc_new]
  have hqb : W2.heap[q]? = some (.cells #[.string ⟨#[]⟩, .string ⟨#[]⟩, .int .i64 (f : Nat), .int .i64 (bo : Nat), .int .i64 (t : Nat), .int .i64 0, .slice none 0 0] 37 (0, 0)) := by rw [← hW2, ← hq, heap_alloc_new]
  have hnq : w.heap.size < q := by omega
  have hr2 := (HR.out.below hbe).rng HF.out.2.2.1.1 (Nat.le_trans HF.out.2.2.1.2 ht)
  have hrl : (rngS l f bo).length = bo - f := rngS_len (by omega)
  have HFI := Lib.hid (fields_any _ _ _ hr2 (by omega))
  have cb2 := (boxed_below hb hbe hlt).cell
  have c2 : W2.cell? ⟨q, 2, none⟩ = some (.int .i64 (f : Nat)) := cell_of_row _ _ 2 _ _ _ hqb
  have c3 : W2.cell? ⟨q, 3, none⟩ = some (.int .i64 (bo : Nat)) := cell_of_row _ _ 3 _ _ _ hqb
  rw [hW2, hq]
  generalize (Value.slice (if cap = f then a else a.map fun x => x.add f) (t - f) (cap - f)) = vr1
  have H2 := Lib.hid (And.intro hbe (And.intro hnb (And.intro hqb hnq)))
  have hfb := hbd.1
  have HTL : Hid (∀ x ∈ toldS (rngS l f bo), x.1.size ≤ 140737488351232 ∧ x.2.size ≤ 140737488351232) := Lib.hid (fun x hx => by have := toldS_len (rngS l f bo) x hx; omega)
  have HTN : Hid ((toldS (rngS l f bo)).length ≤ 100000) := Lib.hid (by have := fieldsS_len (rngS l f bo); unfold toldS; rw [List.length_map]; omega)
  have hbl : bo ≤ l.length := by omega
  clear hW2 hq hs1 hbe hnb hqb hnq hr2 hb1 cb1 hrl h1 hbi hbd HSP
  clear w1
  go_upto_region 4 with first
    | (go_at_call 28; refine HFI.out.mono ?_; rintro e w3 ⟨vf, rfl, hown, hb3⟩)
    | (go_at_call 27; refine (get_any vf (toldS (rngS l f bo)) ctN w3 (hown.tks HTL.out) (by decide) HTN.out).mono ?_; rintro e w4 ⟨rfl, hb4⟩)
  obtain ⟨TX, hTX⟩ : ∃ TX, (getS (toldS (rngS l f bo)) ctN).1 = TX := ⟨_, rfl⟩
  obtain ⟨BX, hBX⟩ : ∃ BX, (getS (toldS (rngS l f bo)) ctN).2 = BX := ⟨_, rfl⟩
  rw [hTX, hBX]
  generalize (Value.slice (if cap = f then a else a.map fun x => x.add f) (bo - f) (cap - f)) = vr2
  have hcx : strL (ctS l f t) = TX := by unfold ctS; rw [HBO.out, hTX, strL_back]
  have hb24 : Below W2.heap.size W2 w4 := hb3.trans (hb4.mono hb3.size)
  have hbe4 : Below w.heap.size w w4 := H2.out.1.trans (hb24.mono (by have := H2.out.1.size; omega))
  have hnb4 := (hb24.block _ (Array.getElem?_eq_some_iff.1 H2.out.2.1).1).trans H2.out.2.1
  have hqb4 := (hb24.block _ (Array.getElem?_eq_some_iff.1 H2.out.2.2.1).1).trans H2.out.2.2.1
  have H4 := Lib.hid (And.intro hbe4 (And.intro hnb4 (And.intro hqb4 H2.out.2.2.2)))
  have HTY := Lib.hid (type_any (ctS l f t) w4 (by have := ctS_len hf ht; omega))
  rw [hcx] at HTY
  clear hb3 hb4 hown hb24 hbe4 hnb4 hqb4 cb2 c2 c3 H2 HTL HTN HFI hTX hBX hcx
  obtain ⟨KS, hKS⟩ : ∃ KS, strL (kindS (ctS l f t)) = KS := ⟨_, rfl⟩
  obtain ⟨SS, hSS⟩ : ∃ SS, strL (subS (ctS l f t)) = SS := ⟨_, rfl⟩
  obtain ⟨BS, hBS⟩ : ∃ BS, strL (bndS (ctS l f t)) = BS := ⟨_, rfl⟩
  rw [hKS, hSS, hBS] at HTY
  have HKS := Lib.hid (And.intro hKS (And.intro hSS hBS))
  clear hKS hSS hBS
  clear w3 W2
  go_upto_region 5 with (go_at_call 29; refine HTY.out.mono ?_; rintro e w5 ⟨rfl, hb5⟩; have hqb5 := (hb5.block _ (Array.getElem?_eq_some_iff.1 H4.out.2.2.1).1).trans H4.out.2.2.1; have e0 : w5.cell? ⟨q, 0, none⟩ = some (.string ⟨#[]⟩) := cell_of_row _ _ 0 _ _ _ hqb5; have e1 : w5.cell? ⟨q, 1, none⟩ = some (.string ⟨#[]⟩) := cell_of_row _ _ 1 _ _ _ hqb5; have f0 := unfrozen_of_block hqb5 0; have f1 := unfrozen_of_block hqb5 1)
  have hq6 : ((w5.setCell ⟨q, 0, none⟩ (.string KS)).setCell ⟨q, 1, none⟩ (.string SS)).heap[q]? = some (.cells #[.string KS, .string SS, .int .i64 (f : Nat), .int .i64 (bo : Nat), .int .i64 (t : Nat), .int .i64 0, .slice none 0 0] 37 (0, 0)) := block_setCell (block_setCell hqb5 _) _
  have hn6 : ((w5.setCell ⟨q, 0, none⟩ (.string KS)).setCell ⟨q, 1, none⟩ (.string SS)).heap[w.heap.size]? = some (.cells #[.string ⟨#[]⟩, .string ⟨#[]⟩, .int .i64 0, .int .i64 0, .int .i64 0, .int .i64 0, .slice none 0 0] 37 (0, 0)) :=
    (Below.heap_setCell _ _ _ _ (by have := H4.out.2.2.2; simp; omega)).trans ((Below.heap_setCell _ _ _ _ (by have := H4.out.2.2.2; simp; omega)).trans ((hb5.block _ (Array.getElem?_eq_some_iff.1 H4.out.2.1).1).trans H4.out.2.1))
  have hb6 : Below w.heap.size w ((w5.setCell ⟨q, 0, none⟩ (.string KS)).setCell ⟨q, 1, none⟩ (.string SS)) := ((H4.out.1.trans (hb5.mono H4.out.1.size)).setCell (p := ⟨q, 0, none⟩) (by have := H4.out.2.2.2; simp; omega) _).setCell (p := ⟨q, 1, none⟩) (by have := H4.out.2.2.2; simp; omega) _
  have H6 := Lib.hid (And.intro hb6 (And.intro hn6 (And.intro hq6 H4.out.2.2.2)))
  generalize (w5.setCell ⟨q, 0, none⟩ (.string KS)).setCell ⟨q, 1, none⟩ (.string SS) = W6 at *
  clear hq6 hn6 hb6 hb5 hqb5 e0 e1 f0 f1 H4 HTY
  clear w5
  have hcv : (convert 22 22 (.slice (some ⟨W6.heap.size, 0, none⟩) 1 1)).run Tryz.prog (W6.alloc (.cells #[.int .u8 10] 5)) = .ok (.slice (some ⟨W6.heap.size, 0, none⟩) 1 1) (W6.alloc (.cells #[.int .u8 10] 5 (1, 2))) := Lib.run_convert_bytes_const (P := Tryz.prog) W6 22 5 #[.int .u8 10] 1 1 Tryz.underlying22 Tryz.underlying5
  have cb6 := (boxed_below hb H6.out.1 hlt).cell
  have e3 : W6.cell? ⟨q, 3, none⟩ = some (.int .i64 (bo : Nat)) := cell_of_row _ _ 3 _ _ _ H6.out.2.2.1
  have e4 : W6.cell? ⟨q, 4, none⟩ = some (.int .i64 (t : Nat)) := cell_of_row _ _ 4 _ _ _ H6.out.2.2.1
  have hbt : bo ≤ t := HF.out.2.2.1.2
  obtain ⟨W7, hW7⟩ : ∃ W7, W6.alloc (.cells #[.int .u8 10] 5 (1, 2)) = W7 := ⟨_, rfl⟩
  rw [hW7] at hcv
  have hb7 : Below W6.heap.size W6 W7 := by rw [← hW7]; exact (Below.refl _ _).alloc (Nat.le_refl _) _
  have hc7 : W7.cell? ⟨W6.heap.size, 0, none⟩ = some (.int .u8 10) := by rw [← hW7]; exact World.cell?_alloc_mark _ _ _ _ _
  have hq7 := (hb7.block _ (Array.getElem?_eq_some_iff.1 H6.out.2.2.1).1).trans H6.out.2.2.1
  have e5 : W7.cell? ⟨q, 5, none⟩ = some (.int .i64 0) := cell_of_row _ _ 5 _ _ _ hq7
  have f5 := unfrozen_of_block hq7 5
  have HCN := Lib.hid (count_any ((((HR.out.below H6.out.1).rng hbt ht)).below hb7) W6.heap.size 0 1 hc7)
  clear hW7 hc7
  go_upto_region 6 with (go_at_call 30; refine HCN.out.mono ?_; rintro e w8 ⟨rfl, hw8⟩; subst hw8; clear hcv)
  obtain ⟨ct, hct⟩ : ∃ ct, (rngS l bo t).count 10 = ct := ⟨_, rfl⟩
  rw [hct]
  have hq8 : (w8.setCell ⟨q, 5, none⟩ (.int .i64 (ct : Nat))).heap[q]? = some (.cells #[.string KS, .string SS, .int .i64 (f : Nat), .int .i64 (bo : Nat), .int .i64 (t : Nat), .int .i64 (ct : Nat), .slice none 0 0] 37 (0, 0)) := block_setCell hq7 _
  have hs6 := H6.out.1.size
  have hn8 : (w8.setCell ⟨q, 5, none⟩ (.int .i64 (ct : Nat))).heap[w.heap.size]? = some (.cells #[.string ⟨#[]⟩, .string ⟨#[]⟩, .int .i64 0, .int .i64 0, .int .i64 0, .int .i64 0, .slice none 0 0] 37 (0, 0)) :=
    (Below.heap_setCell _ _ _ _ (by have := H6.out.2.2.2; simp; omega)).trans ((hb7.block _ (Array.getElem?_eq_some_iff.1 H6.out.2.1).1).trans H6.out.2.1)
  have hb8 : Below w.heap.size w (w8.setCell ⟨q, 5, none⟩ (.int .i64 (ct : Nat))) := (H6.out.1.trans (hb7.mono hs6)).setCell (p := ⟨q, 5, none⟩) (by have := H6.out.2.2.2; simp; omega) _
  have H8 := Lib.hid (And.intro hb8 (And.intro hn8 (And.intro hq8 H6.out.2.2.2)))
  have HCT := Lib.hid hct
  generalize w8.setCell ⟨q, 5, none⟩ (.int .i64 (ct : Nat)) = W8 at *
  clear hq8 hn8 hb8 hb7 hq7 e3 e4 e5 f5 H6 HCN hct hs6 cb6
  clear w8
  generalize (Value.slice (if cap = bo then a else a.map fun x => x.add bo) (t - bo) (cap - bo)) = vr3
  generalize W6.heap.size = s6
  obtain ⟨g0, g1, g2, g3, g4, g5, g6⟩ := cells7 H8.out.2.2.1
  obtain ⟨m0, m1, m2, m3, m4, m5, m6⟩ := cells7 H8.out.2.1
  obtain ⟨u0, u1, u2, u3, u4, u5, u6⟩ := free7 H8.out.2.1
  cases k with
  | zero =>
    obtain rfl : d = 7 := by have := HKD.out; omega
    go_wp2_with fail
    have hh : headV (partS l 0 f t) (.slice none 0 0) = [.string KS, .string SS, .int .i64 (f : Nat), .int .i64 (bo : Nat), .int .i64 (t : Nat), .int .i64 (ct : Nat), .slice none 0 0] := by
      unfold headV
      rw [← HKS.out.1, ← HKS.out.2.1, ← HBO.out, ← HCT.out, ← HBO.out]
      rfl
    exact fin25 rfl H8.out.2.1 H8.out.1 ⟨rfl, rfl⟩ hh
  | succ k =>
    have hdz : (d : Int) ≤ 6 := by have := HKD.out; omega
    have hd6 : decide ((6 : Int) < (d : Int)) = false := decide_eq_false (by have := HKD.out; omega)
    have hd0 : (d : Int) + 1 = ((d + 1 : Nat) : Int) := by omega
    have HD0 := Lib.hid hd0
    have hk1 := strL_eqB (kindS (ctS l f t)) [109, 117, 108, 116, 105, 112, 97, 114, 116]
    have hk2 := strL_eqB (kindS (ctS l f t)) [109, 101, 115, 115, 97, 103, 101]
    have hs1 := strL_eqB (subS (ctS l f t)) [114, 102, 99, 56, 50, 50]
    have hb1 := strL_eqB (bndS (ctS l f t)) []
    rw [HKS.out.1] at hk1 hk2
    rw [HKS.out.2.1] at hs1
    rw [HKS.out.2.2] at hb1
    have hhd : ∀ kids v, headV (.mk (kindS (ctS l f t)) (subS (ctS l f t)) f (bodyS l f t) t (cntS l (bodyS l f t) t) kids) v = [.string KS, .string SS, .int .i64 (f : Nat), .int .i64 (bo : Nat), .int .i64 (t : Nat), .int .i64 (ct : Nat), v] := by
      intro kids v
      rw [← HKS.out.1, ← HKS.out.2.1, ← HCT.out, ← HBO.out]
      rfl
    have HHD := Lib.hid hhd
    clear hhd hd0
    by_cases hm : kindS (ctS l f t) = multiL ∧ bndS (ctS l f t) ≠ []
    · have e1 : (KS.toList == ([109, 117, 108, 116, 105, 112, 97, 114, 116] : List UInt8)) = true := by rw [hk1]; exact decide_eq_true hm.1
      have e2 : (BS.toList == ([] : List UInt8)) = false := by rw [hb1]; exact decide_eq_false hm.2
      have e3 : (BS.toList != ([] : List UInt8)) = true := by rw [bne, e2]; rfl
      clear hk1 hk2 hs1 hb1
      have HM := Lib.hid hm
      clear hm
      have hspn := spans_any a lb lo cap bo t (bndS (ctS l f t)) l W8 (fun h => (HAT.out.1 h).1) (fun h => Nat.lt_of_lt_of_le (HAT.out.1 h).2 H8.out.1.size) (HAT.out.2.kept H8.out.1 (fun h => (HAT.out.1 h).2)) hlc hcm HR.out.lt hl HF.out.2.2.1.2 ht (by have := bndS_len (ctS l f t); omega)
      rw [HKS.out.2.2] at hspn
      obtain ⟨SP, hSP⟩ : ∃ SP, spansS l ((bndS (ctS l f t)).map UInt8.toNat) bo t = SP := ⟨_, rfl⟩
      rw [hSP] at hspn
      obtain ⟨m, hmm⟩ : ∃ m, SP.length = m := ⟨_, rfl⟩
      have hm30 : m ≤ 30 := by rw [← hmm, ← hSP]; exact spansS_len _ _ _ _
      have hin : ∀ p ∈ SP, bo ≤ p.1 ∧ p.1 ≤ p.2 ∧ p.2 ≤ t := by rw [← hSP]; exact spansS_in HF.out.2.2.1.2 ht
      rw [hmm] at hspn
      have HSPN := Lib.hid hspn
      have HSI := Lib.hid (And.intro hSP (And.intro hmm hin))
      have cb8 := (boxed_below hb H8.out.1 hlt).cell
      clear hspn hSP hmm hin m0 m1 m2 m3 m4 m5 m6 u0 u1 u2 u3 u4 u5 u6
      go_wp2_with (go_at_call 31; refine HSPN.out.mono ?_; rintro e w9 ⟨sv, rfl, hsrow, hb9⟩; obtain ⟨sa, sc, rfl⟩ := own_shape2 hsrow)
      obtain ⟨ps, hps⟩ : ∃ ps, (SP.map fun p => partS l k p.1 p.2) = ps := ⟨_, rfl⟩
      have hpl : ps.length = m := by rw [← hps, List.length_map, HSI.out.2.1]
      have h9 : LpI k w.heap.size q f bo t ct w KS SS ps (.slice sa m sc) SP 0 w9 := by
        refine ⟨⟨.slice none 0 0, [], (hb9.block _ (Array.getElem?_eq_some_iff.1 H8.out.2.2.1).1).trans H8.out.2.2.1, World.ownsRow_nil _ _ _ _, ?_⟩, (hb9.block _ (Array.getElem?_eq_some_iff.1 H8.out.2.1).1).trans H8.out.2.1, H8.out.1.trans (hb9.mono H8.out.1.size), ?_⟩
        · rw [List.take_zero]; exact KidsV.nil _ _ _
        · rw [HSI.out.2.1]; exact ownsRow_to0 hsrow
      have HPS := Lib.hid (And.intro hps hpl)
      clear hsrow hb9 hps hpl cb8 g0 g1 g2 g3 g4 g5 g6 e1 e2 e3
      go_loopw [73] (fun i wr => ∃ j : Nat, j ≤ m ∧ i = .int .i64 (j : Nat) ∧ LpI k w.heap.size q f bo t ct w KS SS ps (.slice sa m sc) SP j wr) (fun i _ => m - (RowKit.intOf i).toNat)
      case atStart => exact ⟨0, Nat.zero_le _, rfl, h9⟩
      case round =>
        obtain ⟨j, hj, rfl, hI⟩ := hrel
        rename World => wr
        obtain ⟨⟨v, xs, hq, hrow, hkd2⟩, hn, hbw, hsp⟩ := hI
        by_cases hlt : j < m
        · have hlz : (j : Int) < (m : Int) := by omega
          obtain ⟨sg, sc', hse, hscl, hsg, hsc⟩ := sp_cells hsp (by rw [HSI.out.2.1]; omega)
          obtain ⟨rfl, -, rfl⟩ := Value.slice.inj hse
          obtain ⟨c1, c2⟩ := hsc j (by rw [HSI.out.2.1]; exact hlt)
          obtain ⟨sf, hsf⟩ : ∃ sf, (SP[j]'(by rw [HSI.out.2.1]; exact hlt)).1 = sf := ⟨_, rfl⟩
          obtain ⟨st, hst⟩ : ∃ st, (SP[j]'(by rw [HSI.out.2.1]; exact hlt)).2 = st := ⟨_, rfl⟩
          have hin := HSI.out.2.2 _ (List.getElem_mem (show j < SP.length by rw [HSI.out.2.1]; exact hlt))
          rw [hsf] at c1 hin
          rw [hst] at c2 hin
          have hjc : (j : Int) < (sc : Int) := by rw [HSI.out.2.1] at hscl; omega
          have HW := Lib.hid (And.intro hq (And.intro hrow (And.intro hkd2 (And.intro hn (And.intro hbw hsp)))))
          have HIN := Lib.hid (And.intro hin (And.intro hsf hst))
          have hqs : q < wr.heap.size := (Array.getElem?_eq_some_iff.1 hq).1
          clear hq hrow hkd2 hn hbw hsp hin hsf hst hsc hse hscl
          go_upto_region 12 with fail
          obtain ⟨va, vc, rfl⟩ := own_shape2' HW.out.2.1
          obtain ⟨vv, hvv⟩ : ∃ vv : Value, Value.slice va j vc = vv := ⟨_, rfl⟩
          rw [hvv] at HW
          have hvi : ∀ x : Nat, vv.ownBlock = some x → q + 1 ≤ x ∧ x < wr.heap.size := fun x hx => World.ownsRow.lt HW.out.2.1 x hx
          obtain ⟨WD, hWD⟩ : ∃ WD, (wr.alloc (.cells #[.int .i64 (sf : Nat), .int .i64 (st : Nat)] 70)).drew = WD := ⟨_, rfl⟩
          have hbD : Below wr.heap.size wr WD := by rw [← hWD]; exact ((Below.refl _ wr).alloc (Nat.le_refl _) _).drew
          have hsD : WD.heap.size = wr.heap.size + 1 := by rw [← hWD]; simp
          have hbw := HW.out.2.2.2.2.1
          have hws := hbw.size
          have hps := hp.lt
          have hnq := H8.out.2.2.2
          have hwD : Below w.heap.size w WD := hbw.trans (hbD.mono hws)
          have s1 : WD.cell? ⟨q, 6, none⟩ = some vv := (hbD.cell (p := ⟨q, 6, none⟩) hqs).trans (cell_of_row _ _ 6 _ _ _ HW.out.1)
          have s2 : WD.cell? ⟨pB, 0, none⟩ = some (.func (.func 25) #[] #[.pointer (some ⟨bB, 0, none⟩), .pointer (some ⟨pB, 0, none⟩)]) := (boxed_below hp hwD hps).cell
          have s3 : WD.cell? ⟨wr.heap.size, 0, none⟩ = some (.int .i64 (sf : Nat)) := by rw [← hWD]; exact World.cell?_alloc_mark _ _ _ _ 0
          have s4 : WD.cell? ⟨wr.heap.size, 1, none⟩ = some (.int .i64 (st : Nat)) := by rw [← hWD]; exact World.cell?_alloc_mark _ _ _ _ 1
          have hih := HIH.out k (Nat.lt_succ_self k) sf st (d + 1) WD (by have := HKD.out; omega) (HR.out.below hwD) (boxed_below hb hwD hltB) (boxed_below hp hwD hps) HIN.out.1.2.1 (Nat.le_trans HIN.out.1.2.2 ht)
          rw [← HD0.out] at hih
          have HIC := Lib.hid hih
          obtain ⟨i0, hi0, hz0, hz1, hz2⟩ := info_parts info37
          have HI := Lib.hid hi0
          clear hi0
          have hwr : IntKind.i64.wrap ((d : Int) + 1) = (d : Int) + 1 := IntWalk.i64_in _ ⟨by omega, by omega⟩
          clear hih
          refine AnyBut.enter (by kernel_rfl) (fun u => u.cell? ⟨q, 6, none⟩ = some vv ∧ u.cell? ⟨pB, 0, none⟩ = some (.func (.func 25) #[] #[.pointer (some ⟨bB, 0, none⟩), .pointer (some ⟨pB, 0, none⟩)]) ∧ u.cell? ⟨wr.heap.size, 0, none⟩ = some (.int .i64 (sf : Nat)) ∧ u.cell? ⟨wr.heap.size, 1, none⟩ = some (.int .i64 (st : Nat))) (fun i => i == 13) ?_
          rw [hWD]
          have hS0 : WD.cell? ⟨q, 6, none⟩ = some vv ∧ WD.cell? ⟨pB, 0, none⟩ = some (.func (.func 25) #[] #[.pointer (some ⟨bB, 0, none⟩), .pointer (some ⟨pB, 0, none⟩)]) ∧ WD.cell? ⟨wr.heap.size, 0, none⟩ = some (.int .i64 (sf : Nat)) ∧ WD.cell? ⟨wr.heap.size, 1, none⟩ = some (.int .i64 (st : Nat)) := ⟨s1, s2, s3, s4⟩
          clear s1 s2 s3 s4 hWD
          refine AnyBut.take0 (i := 0) (oi := ⟨_, _, _, _, _, _⟩) (v := ?_) rfl (by kernel_rfl) (by kernel_rfl) (by kernel_rfl) (fun _ _ _ h => h) (Or.inl ⟨by rfl, ?_⟩) ?_
          rotate_left
          · intro w; go_simp <;> with_reducible rfl
          simp only [Act.put, List.setIfInBounds_toArray, List.set_cons_zero, List.set_cons_succ]
          refine AnyBut.take (i := 1) (oi := ⟨_, _, _, _, _, _⟩) (v := ?_) rfl (by kernel_rfl) (by kernel_rfl) (by kernel_rfl) (by kernel_rfl) (fun _ _ _ h => h) (Or.inl ⟨by rfl, ?_⟩) hS0 ?_
          rotate_left
          · intro u hSu; (try dsimp only at hSu); obtain ⟨s1, s2, s3, s4⟩ := hSu; go_simp <;> with_reducible rfl
          simp only [Act.put, List.setIfInBounds_toArray, List.set_cons_zero, List.set_cons_succ]
          refine AnyBut.take (i := 2) (oi := ⟨_, _, _, _, _, _⟩) (v := ?_) rfl (by kernel_rfl) (by kernel_rfl) (by kernel_rfl) (by kernel_rfl) (fun _ _ _ h => h) (Or.inl ⟨by rfl, ?_⟩) hS0 ?_
          rotate_left
          · intro u hSu; (try dsimp only at hSu); obtain ⟨s1, s2, s3, s4⟩ := hSu; go_simp <;> with_reducible rfl
          simp only [Act.put, List.setIfInBounds_toArray, List.set_cons_zero, List.set_cons_succ]
          refine AnyBut.take0 (i := 3) (oi := ⟨_, _, _, _, _, _⟩) (v := ?_) rfl (by kernel_rfl) (by kernel_rfl) (by kernel_rfl) (fun _ _ _ h => h) (Or.inl ⟨by rfl, ?_⟩) ?_
          rotate_left
          · intro w; go_simp <;> with_reducible rfl
          simp only [Act.put, List.setIfInBounds_toArray, List.set_cons_zero, List.set_cons_succ]
          refine AnyBut.take (i := 4) (oi := ⟨_, _, _, _, _, _⟩) (v := ?_) rfl (by kernel_rfl) (by kernel_rfl) (by kernel_rfl) (by kernel_rfl) (fun _ _ _ h => h) (Or.inl ⟨by rfl, ?_⟩) hS0 ?_
          rotate_left
          · intro u hSu; (try dsimp only at hSu); obtain ⟨s1, s2, s3, s4⟩ := hSu; go_simp <;> with_reducible rfl
          simp only [Act.put, List.setIfInBounds_toArray, List.set_cons_zero, List.set_cons_succ]
          refine AnyBut.take0 (i := 5) (oi := ⟨_, _, _, _, _, _⟩) (v := ?_) rfl (by kernel_rfl) (by kernel_rfl) (by kernel_rfl) (fun _ _ _ h => h) (Or.inl ⟨by rfl, ?_⟩) ?_
          rotate_left
          · intro w; go_simp <;> with_reducible rfl
          simp only [Act.put, List.setIfInBounds_toArray, List.set_cons_zero, List.set_cons_succ]
          refine AnyBut.take (i := 6) (oi := ⟨_, _, _, _, _, _⟩) (v := ?_) rfl (by kernel_rfl) (by kernel_rfl) (by kernel_rfl) (by kernel_rfl) (fun _ _ _ h => h) (Or.inl ⟨by rfl, ?_⟩) hS0 ?_
          rotate_left
          · intro u hSu; (try dsimp only at hSu); obtain ⟨s1, s2, s3, s4⟩ := hSu; go_simp <;> with_reducible rfl
          simp only [Act.put, List.setIfInBounds_toArray, List.set_cons_zero, List.set_cons_succ]
          refine AnyBut.take0 (i := 7) (oi := ⟨_, _, _, _, _, _⟩) (v := ?_) rfl (by kernel_rfl) (by kernel_rfl) (by kernel_rfl) (fun _ _ _ h => h) (Or.inl ⟨by rfl, ?_⟩) ?_
          rotate_left
          · intro w; go_simp <;> with_reducible rfl
          simp only [Act.put, List.setIfInBounds_toArray, List.set_cons_zero, List.set_cons_succ]
          refine AnyBut.take0 (i := 8) (oi := ⟨_, _, _, _, _, _⟩) (v := ?_) rfl (by kernel_rfl) (by kernel_rfl) (by kernel_rfl) (fun _ _ _ h => h) (Or.inl ⟨by rfl, ?_⟩) ?_
          rotate_left
          · intro w; go_simp <;> with_reducible rfl
          simp only [Act.put, List.setIfInBounds_toArray, List.set_cons_zero, List.set_cons_succ]
          refine AnyBut.ready (rs := [9]) (by kernel_rfl) (by simp) ?_
          refine ButReady.cons (o := ⟨_, _, _, _, _, _⟩) rfl (fun K hK => ?_) ButReady.nil
          go_simp
          go_wp2_with (go_at_call 25; refine HIC.out.mono ?_; intro e w9 hw9; obtain ⟨K0, S0, h0, f0, t0, n0, ka, kn, kc, rfl, hpv, hb9⟩ := hw9.lit)
          refine hK _ _ (fun _ h => ⟨(hb9.cell (p := ⟨q, 6, none⟩) (show q < WD.heap.size by omega)).trans h.1, (hb9.cell (p := ⟨pB, 0, none⟩) (show pB < WD.heap.size by omega)).trans h.2.1, (hb9.cell (p := ⟨wr.heap.size, 0, none⟩) (show wr.heap.size < WD.heap.size by omega)).trans h.2.2.1, (hb9.cell (p := ⟨wr.heap.size, 1, none⟩) (show wr.heap.size < WD.heap.size by omega)).trans h.2.2.2⟩) ?_
          clear hK K
          refine AnyBut.ready (rs := [10]) (by kernel_rfl) (by simp) ?_
          refine ButReady.cons (o := ⟨_, _, _, _, _, _⟩) rfl (fun K hK => ?_) ButReady.nil
          go_simp
          refine hK _ _ (fun _ h => ⟨(World.cell?_alloc_past _ _ _ (show q < w9.heap.size by have := hb9.size; omega)).trans h.1, (World.cell?_alloc_past _ _ _ (show pB < w9.heap.size by have := hb9.size; omega)).trans h.2.1, (World.cell?_alloc_past _ _ _ (show wr.heap.size < w9.heap.size by have := hb9.size; omega)).trans h.2.2.1, (World.cell?_alloc_past _ _ _ (show wr.heap.size < w9.heap.size by have := hb9.size; omega)).trans h.2.2.2⟩) ?_
          clear hK K
          obtain ⟨L7, hL7⟩ : ∃ L7 : List Value, L7 = [.string K0, .string S0, .int .i64 (h0 : Nat), .int .i64 (f0 : Nat), .int .i64 (t0 : Nat), .int .i64 (n0 : Nat), .slice ka kn kc] := ⟨_, rfl⟩
          have hcs : (#[.string K0, .string S0, .int .i64 (h0 : Nat), .int .i64 (f0 : Nat), .int .i64 (t0 : Nat), .int .i64 (n0 : Nat), .slice ka kn kc] : Array Value) = L7.toArray := by rw [hL7]
          rw [← hL7] at hpv
          rw [hcs]
          have hl7 := hpv.len
          have hs9 := hb9.size
          obtain ⟨WE, hWE⟩ : ∃ WE, w9.alloc (.cells L7.toArray 37) = WE := ⟨_, rfl⟩
          have hsE : WE.heap.size = w9.heap.size + 1 := by rw [← hWE]; simp
          have hLE : WE.heap[w9.heap.size]? = some (.cells L7.toArray 37 (0, 0)) := by rw [← hWE]; exact heap_alloc_new _ _
          have hoE : ∀ g, g < w9.heap.size → WE.heap[g]? = w9.heap[g]? := fun g hg => by rw [← hWE]; exact Below.heap_alloc _ _ _ hg
          have hoR : ∀ g, g < wr.heap.size → WE.heap[g]? = wr.heap[g]? := fun g hg => (hoE g (by omega)).trans ((hb9.block g (by omega)).trans (hbD.block g hg))
          have hownE : WE.ownsRow (q + 1) 37 7 vv j xs := ownsRow_same HW.out.2.1 (fun g hg C fz hh => hoR g (hvi g hg).2)
          rw [hWE]
          have hsz9 : WE.heap.size = w9.heap.size + 1 := hsE
          refine AnyBut.ready (rs := [11]) (by kernel_rfl) (by simp) ?_
          refine ButReady.cons (o := ⟨_, _, _, _, _, _⟩) rfl (fun K hK => ?_) ButReady.nil
          refine step_append_lies _ (by rfl) _ _ _ (by rfl) (q + 1) 37 i0 _ 7 88 Tryz.underlying35 HI.out hz0 hz1 hz2 rfl (by decide) vv j xs (by rfl) hownE ⟨w9.heap.size, 0, none⟩ 1 1 L7 (by rfl) (by rw [hl7]) (World.news_of_block (cs := L7.toArray) (t := 37) (fr := (0, 0)) hLE) (headV_one hpv) (by omega) (by unfold maxLen; omega) (by omega) (by omega) (w9.heap.size + 1) hsE ?_
          intro gg cap10 w10 hown10 hgrow hat hlt10
          have hblk : ∀ g, g < WE.heap.size → vv.ownBlock ≠ some g → w10.heap[g]? = WE.heap[g]? := fun g hg hne => hgrow.block g hg (fun e => hne e.symm)
          have hnv : ∀ g, g ≤ q → vv.ownBlock ≠ some g := fun g hg e => by have := (hvi g e).1; omega
          have hnw : vv.ownBlock ≠ some wr.heap.size := fun e => by have := (hvi _ e).2; omega
          refine hK _ _ (fun _ h => ⟨(World.cell?_of_block (hblk q (by omega) (hnv q (Nat.le_refl _)))).trans h.1, (World.cell?_of_block (hblk pB (by omega) (hnv pB (by omega)))).trans h.2.1, (World.cell?_of_block (hblk wr.heap.size (by omega) hnw)).trans h.2.2.1, (World.cell?_of_block (hblk wr.heap.size (by omega) hnw)).trans h.2.2.2⟩) ?_
          clear hK K
          simp only [Act.put, List.setIfInBounds_toArray, List.set_cons_zero, List.set_cons_succ]
          refine AnyBut.take0 (i := 12) (oi := ⟨_, _, _, _, _, _⟩) (v := ?_) rfl (by kernel_rfl) (by kernel_rfl) (by kernel_rfl) (fun _ _ _ h => h) (Or.inl ⟨by rfl, ?_⟩) ?_
          rotate_left
          · intro w; go_simp <;> with_reducible rfl
          simp only [Act.put, List.setIfInBounds_toArray, List.set_cons_zero, List.set_cons_succ]
          have hq10 := (hblk q (by omega) (hnv q (Nat.le_refl _))).trans ((hoR q hqs).trans HW.out.1)
          have x6 : w10.cell? ⟨q, 6, none⟩ = some vv := cell_of_row _ _ 6 _ _ _ hq10
          have y6 := unfrozen_of_block hq10 6
          refine AnyBut.ready (rs := [13]) (by kernel_rfl) (by simp) ?_
          refine ButReady.cons (o := ⟨_, _, _, _, _, _⟩) rfl (fun K hK => ?_) ButReady.nil
          go_simp
          refine hK _ _ (fun h => by cases h) ?_
          clear hK K
          refine AnyBut.done (by kernel_rfl) ?_ _
          obtain ⟨nv, hnvv⟩ : ∃ nv : Value, Value.slice (some ⟨gg, 0, none⟩) (j + 1) cap10 = nv := ⟨_, rfl⟩
          rw [hnvv] at hown10
          have hnob : nv.ownBlock = some gg := by rw [← hnvv]; rfl
          rw [hnvv]
          obtain ⟨WF, hWF⟩ : ∃ WF, w10.setCell ⟨q, 6, none⟩ nv = WF := ⟨_, rfl⟩
          have hoF : ∀ g, g ≠ q → WF.heap[g]? = w10.heap[g]? := fun g hg => by rw [← hWF]; exact Below.heap_setCell _ _ _ _ (by simpa using hg)
          have hqF : WF.heap[q]? = some (.cells #[.string KS, .string SS, .int .i64 (f : Nat), .int .i64 (bo : Nat), .int .i64 (t : Nat), .int .i64 (ct : Nat), nv] 37 (0, 0)) := by rw [← hWF]; exact block_setCell hq10 _
          have hold : ∀ g, g < wr.heap.size → vv.ownBlock ≠ some g → g ≠ q → WF.heap[g]? = wr.heap[g]? := fun g h1 h2 h3 => (hoF g h3).trans ((hblk g (by omega) h2).trans (hoR g h1))
          have hggq : q + 1 ≤ gg := (World.ownsRow.lt hown10 gg hnob).1
          have hLPI : LpI k w.heap.size q f bo t ct w KS SS ps (.slice (some ⟨sg, 0, none⟩) m sc) SP (j + 1) WF := by
            refine ⟨⟨nv, xs ++ L7, hqF, ownsRow_same hown10 (fun g hg C fz hh => hoF g (by have := (World.ownsRow.lt hown10 g hg).1; omega)), ?_⟩, ?_, ?_, ?_⟩
            · have hjl : j < ps.length := by rw [HPS.out.2]; exact hlt
              rw [List.take_succ_eq_append_getElem hjl]
              have hpj : ps[j] = partS l k sf st := by
                have : ps[j]? = some (partS l k sf st) := by
                  rw [← HPS.out.1, List.getElem?_map, List.getElem?_eq_getElem (show j < SP.length by rw [HSI.out.2.1]; exact hlt)]
                  simp only [Option.map_some, HIN.out.2.1, HIN.out.2.2]
                simpa [hjl] using this
              rw [hpj]
              refine KidsV.snoc (HW.out.2.2.1.lt.keep (fun g hg => ⟨hg.1.1, ?_⟩) (fun g hg C fz _ => hold g hg.2 hg.1.2 (by have := hg.1.1; omega))) (hpv.lt.keep (fun g hg => ⟨by have := hg.1; omega, ?_⟩) (fun g hg C fz _ => (hoF g (by have := hg.1; omega)).trans ((hblk g (by have := hg.2; omega) (fun e => by have := (hvi g e).2; have := hg.1; omega)).trans (hoE g hg.2))))
              · rw [hnob]
                intro e
                have e2 : gg = g := Option.some.inj e
                rcases hat with h | h
                · rw [e2] at h; exact hg.1.2 h
                · have := hg.2; omega
              · rw [hnob]
                intro e
                have e2 : gg = g := Option.some.inj e
                rcases hat with h | h
                · have := (hvi gg h).2; have := hg.1; omega
                · have := hg.2; omega
            · exact (hold _ (by omega) (hnv _ (by omega)) (by omega)).trans HW.out.2.2.2.1
            · rw [← hWF]
              refine ((hwD.trans (hb9.mono (by omega))).trans ?_).setCell (p := ⟨q, 6, none⟩) (by simp; omega) _
              have hbE : Below w.heap.size w9 WE := by rw [← hWE]; exact (Below.refl _ _).alloc (by omega) _
              exact hbE.grown hgrow (by omega) (fun g hg => by have := (hvi g hg).1; omega)
            · refine ownsRow_same HW.out.2.2.2.2.2 (fun g hg C fz hh => hold g ?_ ?_ ?_)
              · exact (Array.getElem?_eq_some_iff.1 hh).1
              · intro e
                rcases HW.out.2.1.2 with ⟨h2, _⟩ | ⟨g2, c2, cur2, h2, _, hh2, _⟩
                · rw [h2] at e; cases e
                · rw [h2] at e
                  obtain rfl : g2 = g := Option.some.inj e
                  rw [hh] at hh2
                  simp at hh2
              · intro e
                subst e
                rw [hh] at HW
                have := HW.out.1
                simp at this
          have HLP := Lib.hid hLPI
          rw [hWF]
          clear hLPI hold hqF hoF hWF hggq hnob hq10 x6 y6 hat hgrow hlt10 hown10 hblk hnv hnw hsz9 hownE hoR hoE hLE hsE hWE hs9 hl7 hcs hpv hL7 hb9 hw9 hS0 hbD hsD hwD hvi HIC
          generalize w9.heap.size = s9
          clear WE WD w10
          subst hnvv
          go_wp2_with fail
          go_roundw
          case rel => exact ⟨j + 1, by omega, by go_num, HLP.out⟩
          case measure => simp [RowKit.intOf]; omega
        · have hlz : ¬ (j : Int) < (m : Int) := by omega
          obtain rfl : j = m := by omega
          obtain ⟨g0, g1, g2, g3, g4, g5, g6⟩ := cells7 hq
          obtain ⟨m0, m1, m2, m3, m4, m5, m6⟩ := cells7 hn
          obtain ⟨u0, u1, u2, u3, u4, u5, u6⟩ := free7 hn
          have hvs : ∃ va vc, v = .slice va j vc := own_shape2' hrow
          obtain ⟨va, vc, rfl⟩ := hvs
          have HFI : Hid (PtV (k + 1) (fun g => w.heap.size < g) wr (partS l (k + 1) f t) (headV (partS l (k + 1) f t) (.slice va j vc))) := Lib.hid (by
            have hkk : (partS l (k + 1) f t).kids = ps := by rw [partS_multi HM.out, ← HPS.out.1, HBO.out, HSI.out.1]; rfl
            have hnq := H8.out.2.2.2
            refine PtV.ofKids (B := q + 1) (xs := xs) (by rw [hkk, HPS.out.2]; exact hrow) (fun g hg => by have := (World.ownsRow.lt hrow g hg).1; omega) ?_
            rw [hkk]
            rw [List.take_of_length_le (by rw [HPS.out.2]; exact Nat.le_refl _)] at hkd2
            exact hkd2.keep (fun g hg => by have := hg.1; omega) (fun _ _ _ _ _ => rfl))
          have hz := hn
          have HZ := Lib.hid (And.intro hn hbw)
          clear hq hrow hkd2 hn hbw hsp hz
          go_wp2_with fail
          exact fin25 rfl HZ.out.1 HZ.out.2 HFI.out (by rw [partS_multi HM.out]; exact HHD.out _ _)
    · have hplain : ¬ (kindS (ctS l f t) = messL ∧ subS (ctS l f t) = rfcL) → PtV (k + 1) (fun g => w.heap.size < g) W8 (partS l (k + 1) f t) (headV (partS l (k + 1) f t) (.slice none 0 0)) := fun h2 => by
        have hkk : (partS l (k + 1) f t).kids = [] := by rw [partS_plain hm h2]; rfl
        refine PtV.ofKids (B := 0) (xs := []) (by rw [hkk]; exact World.ownsRow_nil _ _ _ _) (fun g hg => by cases hg) ?_
        rw [hkk]
        exact KidsV.nil _ _ _
      have HPL := Lib.hid hplain
      have HM := Lib.hid hm
      clear hplain
      by_cases hmu : kindS (ctS l f t) = multiL
      · have hnb : bndS (ctS l f t) = [] := by
          by_cases hb0 : bndS (ctS l f t) = []
          · exact hb0
          · exact absurd ⟨hmu, hb0⟩ hm
        have e1 : (KS.toList == ([109, 117, 108, 116, 105, 112, 97, 114, 116] : List UInt8)) = true := by rw [hk1]; exact decide_eq_true hmu
        have e2 : (BS.toList == ([] : List UInt8)) = true := by rw [hb1]; exact decide_eq_true hnb
        have e3 : (BS.toList != ([] : List UInt8)) = false := by rw [bne, e2]; rfl
        have hne : ¬ kindS (ctS l f t) = messL := by rw [hmu]; decide
        have e4 : (KS.toList == ([109, 101, 115, 115, 97, 103, 101] : List UInt8)) = false := by rw [hk2]; exact decide_eq_false hne
        have HPQ := Lib.hid (HPL.out (fun h => hne h.1))
        have HPP := Lib.hid (show partS l (k + 1) f t = _ from partS_plain hm (fun h => hne h.1))
        clear hk1 hk2 hs1 hb1 hmu hnb hne hm
        go_wp2_with fail
        exact fin25 rfl H8.out.2.1 H8.out.1 HPQ.out (by rw [HPP.out]; exact HHD.out _ _)
      · have e1 : (KS.toList == ([109, 117, 108, 116, 105, 112, 97, 114, 116] : List UInt8)) = false := by rw [hk1]; exact decide_eq_false hmu
        clear hmu
        by_cases hme : kindS (ctS l f t) = messL
        · have e4 : (KS.toList == ([109, 101, 115, 115, 97, 103, 101] : List UInt8)) = true := by rw [hk2]; exact decide_eq_true hme
          by_cases hsu : subS (ctS l f t) = rfcL
          · have e5 : (SS.toList == ([114, 102, 99, 56, 50, 50] : List UInt8)) = true := by rw [hs1]; exact decide_eq_true hsu
            have HPP := Lib.hid (show partS l (k + 1) f t = _ from partS_letter hm ⟨hme, hsu⟩)
            have cp8 := (boxed_below hp H8.out.1 hp.lt).cell
            have hih := HIH.out k (Nat.lt_succ_self k) bo t (d + 1) W8 (by have := HKD.out; omega) (HR.out.below H8.out.1) (boxed_below hb H8.out.1 hlt) (boxed_below hp H8.out.1 hp.lt) hbt ht
            rw [← HD0.out] at hih
            have HIC := Lib.hid hih
            clear hk1 hk2 hs1 hb1 hme hsu hm hih
            go_upto_region 16 with (go_at_call 25; refine HIC.out.mono ?_; intro e w9 hw9; obtain ⟨K0, S0, h0, f0, t0, n0, ka, kn, kc, rfl, hpv, hb9⟩ := hw9.lit; have hq9 := (hb9.block _ (Array.getElem?_eq_some_iff.1 H8.out.2.2.1).1).trans H8.out.2.2.1; have x6 : w9.cell? ⟨q, 6, none⟩ = some (.slice none 0 0) := cell_of_row _ _ 6 _ _ _ hq9; have y6 := unfrozen_of_block hq9 6; have hql : q < w9.heap.size := (Array.getElem?_eq_some_iff.1 hq9).1)
            obtain ⟨L7, hL7⟩ : ∃ L7 : List Value, L7 = [.string K0, .string S0, .int .i64 (h0 : Nat), .int .i64 (f0 : Nat), .int .i64 (t0 : Nat), .int .i64 (n0 : Nat), .slice ka kn kc] := ⟨_, rfl⟩
            have hcs : (#[.string K0, .string S0, .int .i64 (h0 : Nat), .int .i64 (f0 : Nat), .int .i64 (t0 : Nat), .int .i64 (n0 : Nat), .slice ka kn kc] : Array Value) = L7.toArray := by rw [hL7]
            rw [← hL7] at hpv
            rw [hcs]
            have hl7 := hpv.len
            obtain ⟨sv, hsv⟩ : ∃ sv : Value, Value.slice (some ⟨w9.heap.size, 0, none⟩) 1 1 = sv := ⟨_, rfl⟩
            obtain ⟨WA, hWA⟩ : ∃ WA, w9.setCell ⟨q, 6, none⟩ sv = WA := ⟨_, rfl⟩
            have hsA : WA.heap.size = w9.heap.size := by rw [← hWA]; simp [World.setCell]
            have hnq := H8.out.2.2.2
            have hn9 := (hb9.block _ (Array.getElem?_eq_some_iff.1 H8.out.2.1).1).trans H8.out.2.1
            have hqA : WA.heap[q]? = some (.cells #[.string KS, .string SS, .int .i64 (f : Nat), .int .i64 (bo : Nat), .int .i64 (t : Nat), .int .i64 (ct : Nat), sv] 37 (0, 0)) := by rw [← hWA]; exact block_setCell hq9 _
            have hoA : ∀ g, g ≠ q → WA.heap[g]? = w9.heap[g]? := fun g hg => by rw [← hWA]; exact Below.heap_setCell _ _ _ _ (by simpa using hg)
            have hqF : (WA.alloc (.cells L7.toArray 37)).heap[q]? = _ := (Below.heap_alloc _ _ _ (by omega)).trans hqA
            have hnF : (WA.alloc (.cells L7.toArray 37)).heap[w.heap.size]? = _ := (Below.heap_alloc _ _ _ (by omega)).trans ((hoA _ (by omega)).trans hn9)
            have hbF : Below w.heap.size w (WA.alloc (.cells L7.toArray 37)) := by
              rw [← hWA]
              exact ((H8.out.1.trans (hb9.mono H8.out.1.size)).setCell (p := ⟨q, 6, none⟩) (by simp; omega) _).alloc (by have := H8.out.1.size; have := hb9.size; simp [World.setCell]; omega) _
            have hP8 := (Array.getElem?_eq_some_iff.1 H8.out.2.2.1).1
            have hpF : PtV (k + 1) (fun g => w.heap.size < g) (WA.alloc (.cells L7.toArray 37)) (partS l (k + 1) f t) (headV (partS l (k + 1) f t) sv) := by
              have hkk : (partS l (k + 1) f t).kids = [partS l k bo t] := by rw [HPP.out, HBO.out]; rfl
              have hr1 := rowOf1 (w := WA) L7 hl7
              rw [hsA, hsv] at hr1
              refine PtV.ofKids (B := w9.heap.size) (xs := L7) (by rw [hkk]; exact hr1) (fun g hg => by have := (World.ownsRow.lt hr1 g hg).1; omega) ?_
              rw [hkk]
              have h1 := (KidsV.nil k (fun g => w.heap.size < g) (WA.alloc (.cells L7.toArray 37))).snoc (p := partS l k bo t) (cs := L7) (hpv.lt.keep (fun g hg => by have := hg.1; omega) (fun g hg C fz _ => (Below.heap_alloc _ _ _ (by rw [hsA]; exact hg.2)).trans (hoA g (by have := hg.1; omega))))
              exact h1
            obtain ⟨g0, g1, g2, g3, g4, g5, g6⟩ := cells7 hqF
            obtain ⟨m0, m1, m2, m3, m4, m5, m6⟩ := cells7 hnF
            obtain ⟨u0, u1, u2, u3, u4, u5, u6⟩ := free7 hnF
            obtain ⟨ta, tn, tc, hts⟩ : ∃ ta tn tc, sv = .slice ta tn tc := ⟨_, _, _, hsv.symm⟩
            have HF9 := Lib.hid (And.intro hnF (And.intro hbF hpF))
            rw [hsv, hWA]
            generalize WA.alloc (.cells L7.toArray 37) = WF at *
            clear hqF hnF hbF hpF hqA hoA hn9 hsA hcs hpv hl7 hb9 hq9 hw9 x6 y6 hql hP8 hnq
            clear hWA hsv
            clear WA
            subst hts
            go_wp2_with fail
            exact fin25 rfl HF9.out.1 HF9.out.2.1 HF9.out.2.2 (by rw [HPP.out]; exact HHD.out _ _)
          · have e5 : (SS.toList == ([114, 102, 99, 56, 50, 50] : List UInt8)) = false := by rw [hs1]; exact decide_eq_false hsu
            have HPQ := Lib.hid (HPL.out (fun h => hsu h.2))
            have HPP := Lib.hid (show partS l (k + 1) f t = _ from partS_plain hm (fun h => hsu h.2))
            clear hk1 hk2 hs1 hb1 hme hsu hm
            go_wp2_with fail
            exact fin25 rfl H8.out.2.1 H8.out.1 HPQ.out (by rw [HPP.out]; exact HHD.out _ _)
        · have e4 : (KS.toList == ([109, 101, 115, 115, 97, 103, 101] : List UInt8)) = false := by rw [hk2]; exact decide_eq_false hme
          have HPQ := Lib.hid (HPL.out (fun h => hme h.1))
          have HPP := Lib.hid (show partS l (k + 1) f t = _ from partS_plain hm (fun h => hme h.1))
          clear hk1 hk2 hs1 hb1 hme hm
          go_wp2_with fail
          exact fin25 rfl H8.out.2.1 H8.out.1 HPQ.out (by rw [HPP.out]; exact HHD.out _ _)
theorem part_any (l : List Nat) (a : Option Addr) (cap bB pB : Nat) (hl : l.length ≤ 100000) (k : Nat) : PartThm l a cap bB pB k :=
  Nat.strongRecOn k fun k ih => fun f t d w h1 h2 h3 h4 h5 h6 => part_step l a cap bB pB k ih hl f t d w h1 h2 h3 h4 h5 h6
end Go.Proofs.YtnncldnpkfjhbaaGreatDoor
