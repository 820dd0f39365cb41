/-
  Several texts of one proof, each in a section of its own: SpnE, MadeP.
-/
import Derived.Test.YtnncldnpkfjhbaaGreatDoorMg14
import Derived.Deep.DeepCutAuto
import Derived.BigRegion
import Derived.Deep.RegionLaw
import Derived.Test.YtnncldnpkfjhbaaGreatDoorMg13
namespace Go.Proofs.YtnncldnpkfjhbaaGreatDoor
section
set_option linter.unusedVariables false
open Go.RowKit Go.Lib Go.Shelf

def spC (o : List (Nat × Nat)) : List Value := o.flatMap fun p => [.int .i64 (p.1 : Nat), .int .i64 (p.2 : Nat)]
theorem spC_snoc (o : List (Nat × Nat)) (a b : Nat) : spC (o ++ [(a, b)]) = spC o ++ [.int .i64 (a : Nat), .int .i64 (b : Nat)] := by simp [spC]
theorem spC_len (o : List (Nat × Nat)) : (spC o).length = o.length * 2 := by
  induction o with
  | nil => rfl
  | cons p o ih =>
    have : spC (p :: o) = [.int .i64 (p.1 : Nat), .int .i64 (p.2 : Nat)] ++ spC o := rfl
    rw [this, List.length_append, ih]
    simp
    omega
def begV : Option Nat → Value
  | some g => .int .i64 (g : Nat)
  | none => .int .i64 (-1)
theorem info70 : (Tryz.prog.info? 70).map (fun i => (i.zero, i.size, i.bytes)) = some (some (.agg #[.int .i64 0, .int .i64 0]), 2, 16) := by kernel_rfl

/-- what the call has between two lines, n the heap's size at its beginning -/
structure SpI (n : Nat) (w W : World) (a : Option Addr) (l : List Nat) (cap t : Nat) (bd : ByteArray) (s : List (Nat × Nat) × Option Nat) : Prop where
  bb : Boxed W n 22 (.slice a l.length cap)
  bt : Boxed W (n + 1) 3 (.int .i64 (t : Nat))
  bs : Boxed W (n + 2) 9 (.string bd)
  br : Boxed W (n + 3) 67 (.slice none 0 0)
  bo : ∃ v, Boxed W (n + 4) 67 v ∧ W.ownsRow (n + 10) 70 2 v s.1.length (spC s.1)
  bg : Boxed W (n + 5) 3 (begV s.2)
  bf : Boxed W (n + 6) 97 (.func (.func 53) #[] #[.pointer (some ⟨n + 5, 0, none⟩), .pointer (some ⟨n + 4, 0, none⟩), .pointer (some ⟨n, 0, none⟩)])
  below : Below n w W
  size : n + 10 ≤ W.heap.size
theorem ownsRow_keepX2 {X : Nat → Prop} {W W' : World} {B t n z : Nat} {v : Value} {xs : List Value} (h : W.ownsRow B t z v n xs) (hk : KeepX X W W') (hX : ∀ k C fz, W.heap[k]? = some (.cells C t fz) → B ≤ k → ¬ X k) : W'.ownsRow B t z v n xs := by
  refine ⟨h.1, ?_⟩
  rcases h.2 with h2 | ⟨g, cap, cur, hv, hB, hh, r⟩
  · exact .inl h2
  · exact .inr ⟨g, cap, cur, hv, hB, (hk.1 g _ _ _ hh (hX g _ _ hh hB)).trans hh, r⟩
theorem SpI.keep {n : Nat} {w W W' : World} {a : Option Addr} {l : List Nat} {cap t : Nat} {bd : ByteArray} {s : List (Nat × Nat) × Option Nat} (h : SpI n w W a l cap t bd s) {X : Nat → Prop} (hk : KeepX X W W') (hb : Below n W W') (hX : ∀ k, X k → n + 7 ≤ k ∧ ∀ C fz, W.heap[k]? = some (.cells C 70 fz) → k < n + 10) : SpI n w W' a l cap t bd s := by
  have hx : ∀ k, k < n + 7 → ¬ X k := fun k h1 h2 => by have := (hX k h2).1; omega
  obtain ⟨v, h1, h2⟩ := h.bo
  exact ⟨boxed_keepX h.bb hk (hx _ (by omega)), boxed_keepX h.bt hk (hx _ (by omega)), boxed_keepX h.bs hk (hx _ (by omega)), boxed_keepX h.br hk (hx _ (by omega)), ⟨v, boxed_keepX h1 hk (hx _ (by omega)), ownsRow_keepX2 h2 hk fun k C fz e hB hx => by have := (hX k hx).2 C fz e; omega⟩, boxed_keepX h.bg hk (hx _ (by omega)), boxed_keepX h.bf hk (hx _ (by omega)), h.below.trans hb, Nat.le_trans h.size hk.2⟩
theorem own_shape2 {w : World} {B T z : Nat} {v : Value} {n : Nat} {xs : List Value} (h : w.ownsRow B T z v n xs) : ∃ a c, v = .slice a n c := by
  rcases h.2 with ⟨hv, h0⟩ | ⟨g, cap, cur, hv, _⟩
  · exact ⟨none, 0, by rw [hv, h0]⟩
  · exact ⟨_, cap, hv⟩
/-- what the end of a piece leaves alone -/
def KeepE (n : Nat) (W W' : World) : Prop := (∀ k, k ≠ n + 4 → k ≠ n + 5 → k < W.heap.size → (∀ C fz, W.heap[k]? = some (.cells C 70 fz) → k < n + 10) → W'.heap[k]? = W.heap[k]?) ∧ W.heap.size ≤ W'.heap.size

theorem SpI.renew {n : Nat} {w W W' : World} {a : Option Addr} {l : List Nat} {cap t : Nat} {bd : ByteArray} {s : List (Nat × Nat) × Option Nat} (h : SpI n w W a l cap t bd s) (hk : KeepE n W W') (hb : Below n W W') {o : List (Nat × Nat)} {b : Option Nat}
    (hbo : ∃ v, Boxed W' (n + 4) 67 v ∧ W'.ownsRow (n + 10) 70 2 v o.length (spC o)) (hbg : Boxed W' (n + 5) 3 (begV b)) : SpI n w W' a l cap t bd (o, b) := by
  have hx : ∀ {k T : Nat} {v : Value}, Boxed W k T v → T ≠ 70 → k ≠ n + 4 → k ≠ n + 5 → Boxed W' k T v := fun {k T v} hB hT h1 h2 => (hk.1 k h1 h2 hB.lt (fun C fz e => by
    have := hB.symm.trans e
    simp at this
    exact absurd this.2.1 hT)).trans hB
  exact ⟨hx h.bb (by decide) (by omega) (by omega), hx h.bt (by decide) (by omega) (by omega), hx h.bs (by decide) (by omega) (by omega), hx h.br (by decide) (by omega) (by omega), hbo, hbg, hx h.bf (by decide) (by omega) (by omega), h.below.trans hb, Nat.le_trans h.size hk.2⟩
theorem keepE_below {n : Nat} {W W' : World} (h : Below W.heap.size W W') : KeepE n W W' := ⟨fun k _ _ h3 _ => h.block k h3, h.size⟩
theorem keepE_set (n : Nat) (W : World) (j : Nat) (u : Value) (hj : j = n + 4 ∨ j = n + 5) : KeepE n W (W.setCell ⟨j, 0, none⟩ u) := ⟨fun k h1 h2 _ _ => Below.heap_setCell W _ u k (by simp; omega), by simp [World.setCell]⟩
theorem KeepE.trans {n : Nat} {A B C : World} (h : KeepE n A B) (k : KeepE n B C) (hc : ∀ j, (∀ D fz, A.heap[j]? = some (.cells D 70 fz) → j < n + 10) → j < A.heap.size → j ≠ n + 4 → j ≠ n + 5 → ∀ D fz, B.heap[j]? = some (.cells D 70 fz) → j < n + 10) : KeepE n A C :=
  ⟨fun j h1 h2 h3 h4 => (k.1 j h1 h2 (Nat.lt_of_lt_of_le h3 h.2) (hc j h4 h3 h1 h2)).trans (h.1 j h1 h2 h3 h4), Nat.le_trans h.2 k.2⟩
theorem KeepE.then {n : Nat} {A B C : World} (h : KeepE n A B) (k : KeepE n B C) : KeepE n A C :=
  h.trans k fun j h1 h2 h3 h4 D fz e => h1 D fz ((h.1 j h3 h4 h2 h1).symm.trans e)

set_option maxHeartbeats 4000000 in
set_option maxRecDepth 100000 in
theorem end_any {n : Nat} {w W : World} {a : Option Addr} {lb lo : Nat} {l : List Nat} {cap t : Nat} {bd : ByteArray} {s : List (Nat × Nat) × Option Nat} (h : SpI n w W a l cap t bd s) (k : Nat) (hk : k ≤ l.length)
    (ha : l ≠ [] → a = some ⟨lb, lo, none⟩) (hc : CellsL W lb lo l) (hlb : l ≠ [] → lb < n) (hl : l.length ≤ cap) (hm : cap ≤ maxLen) (hll : l.length ≤ 1000000) (hs : s.1.length ≤ 1000) :
    Calls Tryz.prog 53 #[.int .i64 (k : Nat), .pointer (some ⟨n + 5, 0, none⟩), .pointer (some ⟨n + 4, 0, none⟩), .pointer (some ⟨n, 0, none⟩)] W fun e W' => e = .returned (.tuple #[]) ∧ SpI n w W' a l cap t bd (closeS l s k, none) ∧ KeepE n W W' ∧ Below n W W' := by
  have hbg := h.bg
  have fg := hbg.frozen
  obtain ⟨so, sb⟩ := s
  have H := Lib.hid h
  cases sb with
  | none =>
    have cg : W.cell? ⟨n + 5, 0, none⟩ = some (.int .i64 (-1)) := hbg.cell
    have HE : Hid (KeepE n W (W.setCell ⟨n + 5, 0, none⟩ (.int .i64 (-1)))) := Lib.hid (keepE_set n W _ _ (.inr rfl))
    clear h hbg hc
    go_enter Tryz.func53, Tryz.ntmps53
    go_wp2
    go_end0
    have hb : Below n W (W.setCell ⟨n + 5, 0, none⟩ (.int .i64 (-1))) := (Below.refl _ _).setCell (p := ⟨n + 5, 0, none⟩) (by simp) _
    obtain ⟨v, h1, h2⟩ := H.out.bo
    exact ⟨rfl, H.out.renew HE.out hb ⟨v, h1.other (by omega) _, ownsRow_keepX2 h2 (keepX_set W _ _ _) fun k C fz e hB hx => by
      subst hx
      have := H.out.bg.symm.trans e
      simp at this⟩ (H.out.bg.set (begV none)), HE.out, hb⟩
  | some g =>
    have cg : W.cell? ⟨n + 5, 0, none⟩ = some (.int .i64 (g : Nat)) := hbg.cell
    have cb := h.bb.cell
    obtain ⟨v, hv, hrow⟩ := h.bo
    have cv := hv.cell
    have fv := hv.frozen
    obtain ⟨oa, oc, rfl⟩ := own_shape2 hrow
    simp only at hrow hs
    have hv : Boxed W (n + 4) 67 (.slice oa so.length oc) := hv
    have cv : W.cell? ⟨n + 4, 0, none⟩ = some (.slice oa so.length oc) := cv
    have hg0 : (0 : Int) ≤ (g : Int) := by omega
    have hdg : decide ((0 : Int) ≤ (g : Int)) = true := decide_eq_true hg0
    have HW := Lib.hid (woe_any a lb lo cap g k l W.drew ha hc hl hll hk)
    obtain ⟨q, hq⟩ : ∃ q, woE l g k = q := ⟨_, rfl⟩
    rw [hq] at HW
    have HQ := Lib.hid hq
    have HC := Lib.hid hc
    obtain ⟨m, hmm⟩ : ∃ m, so.length = m := ⟨_, rfl⟩
    rw [hmm] at hv hrow cv hs
    have HR := Lib.hid (And.intro hv (And.intro hrow (And.intro hmm hs)))
    have dv : W.drew.cell? ⟨n + 4, 0, none⟩ = some (.slice oa m oc) := cv
    have dg : W.drew.cell? ⟨n + 5, 0, none⟩ = some (.int .i64 (g : Nat)) := cg
    have dv2 : (W.alloc (.cells #[.int .i64 (g : Nat), .int .i64 (q : Nat)] 70)).drew.cell? ⟨n + 4, 0, none⟩ = some (.slice oa m oc) := (hv.alloc (.cells #[.int .i64 (g : Nat), .int .i64 (q : Nat)] 70)).cell
    have db : W.drew.cell? ⟨n, 0, none⟩ = some (.slice a l.length cap) := cb
    obtain ⟨i0, hi0, hz0, hz1, hz2⟩ := info_parts info70
    have HI := Lib.hid hi0
    have hWs := h.size
    have HS := Lib.hid hWs
    clear h hbg hc hv hrow hq hmm hi0 hs hWs
    go_enter Tryz.func53, Tryz.ntmps53
    go_upto_region 1 with fail
    refine AnyBut.enter (by kernel_rfl) (fun u => u.cell? ⟨n + 4, 0, none⟩ = some (.slice oa m oc) ∧ u.cell? ⟨n + 5, 0, none⟩ = some (.int .i64 (g : Nat)) ∧ u.cell? ⟨n, 0, none⟩ = some (.slice a l.length cap)) (fun i => i == 9) ?_
    have hS0 : W.drew.cell? ⟨n + 4, 0, none⟩ = some (.slice oa m oc) ∧ W.drew.cell? ⟨n + 5, 0, none⟩ = some (.int .i64 (g : Nat)) ∧ W.drew.cell? ⟨n, 0, none⟩ = some (.slice a l.length cap) := ⟨dv, dg, db⟩
    refine AnyBut.take (i := 0) (oi := ⟨_, _, _, _, _, _⟩) (v := ?_) rfl (by kernel_rfl) (by kernel_rfl) (by kernel_rfl) (by kernel_rfl) (fun _ _ _ h => h) (Or.inl ⟨by rfl, ?_⟩) (by assumption) ?_
    rotate_left
    · intro u hSu; (try dsimp only at hSu); obtain ⟨s1, s2, s3⟩ := hSu; go_simp <;> with_reducible rfl
    simp only [Act.put, List.setIfInBounds_toArray, List.set_cons_zero, List.set_cons_succ]
    refine AnyBut.take (i := 1) (oi := ⟨_, _, _, _, _, _⟩) (v := ?_) rfl (by kernel_rfl) (by kernel_rfl) (by kernel_rfl) (by kernel_rfl) (fun _ _ _ h => h) (Or.inl ⟨by rfl, ?_⟩) (by assumption) ?_
    rotate_left
    · intro u hSu; (try dsimp only at hSu); obtain ⟨s1, s2, s3⟩ := hSu; go_simp <;> with_reducible rfl
    simp only [Act.put, List.setIfInBounds_toArray, List.set_cons_zero, List.set_cons_succ]
    refine AnyBut.take (i := 2) (oi := ⟨_, _, _, _, _, _⟩) (v := ?_) rfl (by kernel_rfl) (by kernel_rfl) (by kernel_rfl) (by kernel_rfl) (fun _ _ _ h => h) (Or.inl ⟨by rfl, ?_⟩) (by assumption) ?_
    rotate_left
    · intro u hSu; (try dsimp only at hSu); obtain ⟨s1, s2, s3⟩ := hSu; go_simp <;> with_reducible rfl
    simp only [Act.put, List.setIfInBounds_toArray, List.set_cons_zero, List.set_cons_succ]
    refine AnyBut.take (i := 3) (oi := ⟨_, _, _, _, _, _⟩) (v := ?_) rfl (by kernel_rfl) (by kernel_rfl) (by kernel_rfl) (by kernel_rfl) (fun _ _ _ h => h) (Or.inl ⟨by rfl, ?_⟩) (by assumption) ?_
    rotate_left
    · intro u hSu; (try dsimp only at hSu); obtain ⟨s1, s2, s3⟩ := hSu; go_simp <;> with_reducible rfl
    simp only [Act.put, List.setIfInBounds_toArray, List.set_cons_zero, List.set_cons_succ]
    refine AnyBut.take0 (i := 4) (oi := ⟨_, _, _, _, _, _⟩) (v := ?_) rfl (by kernel_rfl) (by kernel_rfl) (by kernel_rfl) (fun _ _ _ h => h) (Or.inl ⟨by rfl, ?_⟩) ?_
    rotate_left
    · intro w; go_simp <;> with_reducible rfl
    simp only [Act.put, List.setIfInBounds_toArray, List.set_cons_zero, List.set_cons_succ]
    refine AnyBut.ready (rs := [5]) (by kernel_rfl) (by simp) ?_
    refine ButReady.cons (o := ⟨_, _, _, _, _, _⟩) rfl (fun K hK => ?_) ButReady.nil
    go_simp
    go_wp2_with (go_at_call 54; refine HW.out.mono ?_; rintro e w' ⟨rfl, rfl⟩)
    refine hK _ _ (fun _ h => h) ?_
    clear hK K
    refine AnyBut.take0 (i := 6) (oi := ⟨_, _, _, _, _, _⟩) (v := ?_) rfl (by kernel_rfl) (by kernel_rfl) (by kernel_rfl) (fun _ _ _ h => h) (Or.inl ⟨by rfl, ?_⟩) ?_
    rotate_left
    · intro w; go_simp <;> with_reducible rfl
    simp only [Act.put, List.setIfInBounds_toArray, List.set_cons_zero, List.set_cons_succ]
    refine AnyBut.ready (rs := [7]) (by kernel_rfl) (by simp) ?_
    refine ButReady.cons (o := ⟨_, _, _, _, _, _⟩) rfl (fun K hK => ?_) ButReady.nil
    go_simp
    have hall : ∀ j, j < W.heap.size → (W.drew.alloc (.cells #[.int .i64 (g : Nat), .int .i64 (q : Nat)] 70)).heap[j]? = W.heap[j]? := fun j hj => Below.heap_alloc W.drew _ j hj
    refine hK _ _ (fun _ h => ⟨(World.cell?_of_block (hall (n + 4) (by have := HS.out; omega))).trans h.1, (World.cell?_of_block (hall (n + 5) (by have := HS.out; omega))).trans h.2.1, (World.cell?_of_block (hall n (by have := HS.out; omega))).trans h.2.2⟩) ?_
    clear hK K
    refine AnyBut.ready (rs := [8]) (by kernel_rfl) (by simp) ?_
    refine ButReady.cons (o := ⟨_, _, _, _, _, _⟩) rfl (fun K hK => ?_) ButReady.nil
    refine step_append_lies _ (by rfl) _ _ _ (by rfl) (n + 10) 70 i0 _ 2 16 Tryz.underlying67 HI.out hz0 hz1 hz2 rfl (by decide) (.slice oa m oc) m (spC so) (by rfl) (World.ownsRow.alloc (show W.drew.ownsRow _ _ _ _ _ _ from HR.out.2.1) _) ⟨W.heap.size, 0, none⟩ 1 1 [.int .i64 (g : Nat), .int .i64 (q : Nat)] (by rfl) (by rfl) (World.news_of_block (cs := #[.int .i64 (g : Nat), .int .i64 (q : Nat)]) (t := 70) (fr := (0, 0)) (heap_alloc_new W.drew _)) (by simp [Value.oneCell']) (by omega) (by have := HR.out.2.2.2; unfold maxLen; omega) (by have := HR.out.2.2.2; omega) (by have := HS.out; simp; omega) (W.heap.size + 1) (by simp) ?_
    intro gg cap9 w9 hown9 hgrow hat hlt9
    have hnb : ∀ j, j < n + 7 → some j ≠ (Value.slice oa m oc).ownBlock := fun j hj e => by have := (World.ownsRow.lt HR.out.2.1 _ e.symm).1; omega
    have hblk : ∀ j, j < n + 7 → w9.heap[j]? = W.heap[j]? := fun j hj => (hgrow.block j (by have := HS.out; simp; omega) (hnb j hj)).trans (hall j (by have := HS.out; omega))
    refine hK _ _ (fun _ h => ⟨(World.cell?_of_block (hblk (n + 4) (by omega))).trans cv, (World.cell?_of_block (hblk (n + 5) (by omega))).trans cg, (World.cell?_of_block (hblk n (by omega))).trans cb⟩) ?_
    clear hK K
    have c9 : w9.cell? ⟨n + 4, 0, none⟩ = some (.slice oa m oc) := (World.cell?_of_block (hblk (n + 4) (by omega))).trans cv
    have f9 : w9.frozen? ⟨n + 4, 0, none⟩ = false := (World.frozen?_of_block (hblk (n + 4) (by omega))).trans fv
    simp only [Act.put, List.setIfInBounds_toArray, List.set_cons_zero, List.set_cons_succ]
    refine AnyBut.ready (rs := [9]) (by kernel_rfl) (by simp) ?_
    refine ButReady.cons (o := ⟨_, _, _, _, _, _⟩) rfl (fun K hK => ?_) ButReady.nil
    go_simp
    refine hK _ _ (fun h => by cases h) ?_
    clear hK K
    refine AnyBut.done (by kernel_rfl) ?_ _
    have hX : Boxed w9 (n + 4) 67 (.slice oa m oc) := (hblk _ (by omega)).trans HR.out.1
    have hY : Boxed w9 (n + 5) 3 (.int .i64 (g : Nat)) := (hblk _ (by omega)).trans H.out.bg
    have hY2 : Boxed (w9.setCell ⟨n + 4, 0, none⟩ (.slice (some ⟨gg, 0, none⟩) (m + 1) cap9)) (n + 5) 3 (.int .i64 (g : Nat)) := hY.other (by omega) _
    have hr2 : (w9.setCell ⟨n + 4, 0, none⟩ (.slice (some ⟨gg, 0, none⟩) (m + 1) cap9)).ownsRow (n + 10) 70 2 (.slice (some ⟨gg, 0, none⟩) (m + 1) cap9) (m + 1) (spC (so ++ [(g, q)])) := by
      rw [spC_snoc]
      refine ownsRow_keepX2 hown9 (keepX_set w9 _ _ _) fun k C fz e hB hx => by omega
    have hs9 := hgrow.size
    simp at hs9
    have hK9 : KeepE n W (w9.setCell ⟨n + 4, 0, none⟩ (.slice (some ⟨gg, 0, none⟩) (m + 1) cap9)) := ⟨fun j h1 h2 h3 h4 => (Below.heap_setCell w9 _ _ j (by simpa using h1)).trans ((hgrow.block j (by simp; omega) (fun e => by
      rcases HR.out.2.1.2 with ⟨e2, _⟩ | ⟨g2, cap2, cur2, e2, hB2, hh2, _⟩
      · rw [e2] at e; cases e
      · rw [e2] at e
        obtain rfl : j = g2 := by simpa [Value.ownBlock] using e
        have := h4 _ _ hh2
        omega)).trans (hall j h3)), by simp [World.setCell]; omega⟩
    have hB9 : Below n W (w9.setCell ⟨n + 4, 0, none⟩ (.slice (some ⟨gg, 0, none⟩) (m + 1) cap9)) := (((((Below.refl n W).drew).alloc (by have := HS.out; simp; omega) _).grown hgrow (by have := HS.out; simp; omega) (fun k e => by have := (World.ownsRow.lt HR.out.2.1 _ e).1; omega))).setCell (p := ⟨n + 4, 0, none⟩) (by simp) _
    have ch := hY2.cell
    have fh := hY2.frozen
    have H9 := Lib.hid (And.intro (hX.set (.slice (some ⟨gg, 0, none⟩) (m + 1) cap9)) (And.intro hY2 (And.intro hr2 (And.intro hK9 hB9))))
    generalize w9.setCell ⟨n + 4, 0, none⟩ (.slice (some ⟨gg, 0, none⟩) (m + 1) cap9) = w10 at *
    clear hX hY hY2 hr2 hK9 hB9 c9 f9 hblk hnb hall hown9 hgrow hat hlt9
    go_wp2_with fail
    go_end0
    have hcl : closeS l (so, some g) k = so ++ [(g, q)] := by unfold closeS; simp only; rw [HQ.out]
    have hK10 : KeepE n W (w10.setCell ⟨n + 5, 0, none⟩ (.int .i64 (-1))) := H9.out.2.2.2.1.then (keepE_set n w10 _ _ (.inr rfl))
    have hB10 : Below n W (w10.setCell ⟨n + 5, 0, none⟩ (.int .i64 (-1))) := H9.out.2.2.2.2.setCell (p := ⟨n + 5, 0, none⟩) (by simp) _
    rw [hcl]
    refine ⟨rfl, H.out.renew hK10 hB10 ⟨_, H9.out.1.other (by omega) _, ?_⟩ (H9.out.2.1.set (begV none)), hK10, hB10⟩
    rw [List.length_append, HR.out.2.2.1]
    exact ownsRow_keepX2 H9.out.2.2.1 (keepX_set w10 _ _ _) fun k C fz e hB hx => by omega
end
section
set_option linter.unusedVariables false
open Go.RowKit Go.Lib

/-- a text's bytes as numbers -/
def natsOf (s : ByteArray) : List Nat := s.data.toList.map UInt8.toNat
theorem strT_natsOf (s : ByteArray) : strT (natsOf s) = s := by
  unfold strT natsOf
  apply ByteArray.ext
  simp [List.map_map, Function.comp_def]
theorem natsOf_append (a b : ByteArray) : natsOf (a ++ b) = natsOf a ++ natsOf b := by simp [natsOf, ByteArray.data_append]
theorem natsOf_lt (s : ByteArray) : ∀ c ∈ natsOf s, c < 256 := by
  intro c hc
  obtain ⟨x, _, rfl⟩ := List.mem_map.1 hc
  exact x.toNat_lt
theorem natsOf_length (s : ByteArray) : (natsOf s).length = s.size := by simp [natsOf]

theorem aheadN_all (d : Nat) (z r : List Nat) (h : ∀ c ∈ z, c ≠ d) : aheadN d (z ++ d :: r) = z.length := by
  induction z with
  | nil => simp [aheadN]
  | cons y z ih =>
    have h1 := h y (List.mem_cons_self ..)
    have := ih fun c hc => h c (List.mem_cons_of_mem _ hc)
    simp only [aheadN, List.cons_append, List.takeWhile_cons] at this ⊢
    simp [h1, this]
theorem lineX_crlf {y : List Nat} (h : ∀ c ∈ y, c ≠ 10) : LineP (y ++ [13, 10]) ∧ lineX (y ++ [13, 10]) = y := by
  have e : y ++ [13, 10] = (y ++ [13]) ++ 10 :: [] := by simp
  have ha : aheadN 10 (y ++ [13, 10]) = y.length + 1 := by
    rw [e, aheadN_all 10 (y ++ [13]) [] (fun c hc => by
      rcases List.mem_append.1 hc with h1 | h1
      · exact h c h1
      · simp at h1; omega)]
    simp
  refine ⟨by unfold LineP; rw [ha]; simp, ?_⟩
  unfold lineX
  have e2 : (y ++ [13, 10]).take (y.length + 1) = y ++ [13] := by
    rw [e, List.take_append_of_le_length (by simp)]
    rw [List.take_of_length_le (by simp)]
  rw [ha, e2]
  unfold trimN
  rw [if_pos (by simp)]
  simp

/-- what a field is made of -/
def x1 (n t : List Nat) : List Nat := n ++ [58, 32] ++ t ++ [13, 10]
def x2 (t : List Nat) : List Nat := [32, 9] ++ t ++ [32] ++ [13, 10]
structure OkN (n : List Nat) : Prop where
  ne : n ≠ []
  ok : ∀ c ∈ n, 33 ≤ c ∧ c ≤ 126 ∧ c ≠ 58
def OkT (t : List Nat) : Prop := ∀ c ∈ t, 32 < c
def mkF (p : List Nat × List Nat) : Fd := ⟨strN (p.1.map lowN), [32] ++ p.2 ++ ([32, 9] ++ p.2 ++ [32]), x1 p.1 p.2 ++ x2 p.2⟩
theorem runR_field {n t : List Nat} (hn : OkN n) (ht : OkT t) (s : List Fd × Option Fd) (r : List Nat) : runR s (x1 n t ++ (x2 t ++ r)) = runR (s.1 ++ s.2.toList, some (mkF (n, t))) r := by
  obtain ⟨l1, e1⟩ := lineX_crlf (y := n ++ [58, 32] ++ t) (fun c hc => by
    simp only [List.mem_append, List.mem_cons, List.not_mem_nil, or_false] at hc
    rcases hc with (h | h | h) | h
    · have := hn.ok c h; omega
    · omega
    · omega
    · have := ht c h; omega)
  obtain ⟨l2, e2⟩ := lineX_crlf (y := [32, 9] ++ t ++ [32]) (fun c hc => by
    simp only [List.mem_append, List.mem_cons, List.not_mem_nil, or_false] at hc
    rcases hc with ((h | h) | h) | h
    · omega
    · omega
    · have := ht c h; omega
    · omega)
  have n0 : n ++ [58, 32] ++ t ≠ [] := by simp
  have n1 : [32, 9] ++ t ++ [32] ≠ [] := by simp
  obtain ⟨d, m, rfl⟩ : ∃ d m, n = d :: m := by
    cases n with
    | nil => exact absurd rfl hn.ne
    | cons d m => exact ⟨d, m, rfl⟩
  have hd := hn.ok d (List.mem_cons_self ..)
  have ha : aheadN 58 (d :: m ++ [58, 32] ++ t) = (d :: m).length := by
    have := aheadN_all 58 (d :: m) (32 :: t) (fun c hc => (hn.ok c hc).2.2)
    simpa using this
  have hnm : nameN (d :: m ++ [58, 32] ++ t) = some (d :: m).length := by
    have hall : ∀ c ∈ (d :: m ++ [58, 32] ++ t).take (d :: m).length, nameC c = true := by
      intro c hc
      rw [List.append_assoc, List.take_append_of_le_length (Nat.le_refl _), List.take_length] at hc
      have := hn.ok c hc
      simp [nameC]
      exact ⟨by omega, by omega⟩
    unfold nameN
    rw [ha, if_pos ⟨by simp, by simp, hall⟩]
  have hg1 : goesB (d :: m ++ [58, 32] ++ t) = false := by
    unfold goesB
    have g1 : d ≠ 32 := by omega
    have g2 : d ≠ 9 := by omega
    simp [g1, g2]
  have hg2 : goesB ([32, 9] ++ t ++ [32]) = true := rfl
  unfold x1 x2
  rw [runR_line l1, e1, if_neg n0, runR_line l2, e2, if_neg n1]
  congr 1
  have hs1 : stepF s (d :: m ++ [58, 32] ++ t ++ [13, 10]) (d :: m ++ [58, 32] ++ t) = (s.1 ++ s.2.toList, some ⟨strN ((d :: m).map lowN), [32] ++ t, d :: m ++ [58, 32] ++ t ++ [13, 10]⟩) := by
    unfold stepF
    rw [hg1, hnm]
    simp only [Bool.false_eq_true, if_false, Option.map_some]
    congr 3
    · unfold nameT
      rw [hnm]
      simp only
      rw [List.append_assoc, List.take_append_of_le_length (Nat.le_refl _), List.take_length]
    · rw [List.append_assoc, List.drop_append]
      simp
  rw [hs1]
  unfold stepF
  rw [hg2]
  simp only [if_true, Option.map_some]
  rfl

def flatF (P : List (List Nat × List Nat)) : List Nat := P.flatMap fun p => x1 p.1 p.2 ++ x2 p.2
theorem line_end (r : List Nat) : LineP [13, 10] ∧ lineX [13, 10] = [] := lineX_crlf (y := []) (by simp)
theorem made_run (body : List Nat) : ∀ (P : List (List Nat × List Nat)) (s : List Fd × Option Fd), (∀ p ∈ P, OkN p.1 ∧ OkT p.2) →
    (runR s (flatF P ++ ([13, 10] ++ body))).1 ++ (runR s (flatF P ++ ([13, 10] ++ body))).2.toList = s.1 ++ s.2.toList ++ P.map mkF := by
  intro P
  induction P with
  | nil =>
    intro s _
    rw [show flatF [] ++ ([13, 10] ++ body) = [13, 10] ++ body from rfl, runR_line (line_end body).1, if_pos (line_end body).2]
    simp
  | cons p P ih =>
    intro s h
    have hp := h p (List.mem_cons_self ..)
    have e : flatF (p :: P) ++ ([13, 10] ++ body) = x1 p.1 p.2 ++ (x2 p.2 ++ (flatF P ++ ([13, 10] ++ body))) := by simp [flatF]
    rw [e, runR_field hp.1 hp.2, ih _ fun q hq => h q (List.mem_cons_of_mem _ hq)]
    simp
theorem made_split (body : List Nat) : ∀ (P : List (List Nat × List Nat)), (∀ p ∈ P, OkN p.1 ∧ OkT p.2) → splitR (flatF P ++ ([13, 10] ++ body)) = (flatF P ++ [13, 10]).length := by
  intro P
  induction P with
  | nil =>
    intro _
    rw [show flatF [] ++ ([13, 10] ++ body) = [13, 10] ++ body from rfl, splitR_line (line_end body).1, if_pos (line_end body).2]
    rfl
  | cons p P ih =>
    intro h
    have hp := h p (List.mem_cons_self ..)
    obtain ⟨l1, e1⟩ := lineX_crlf (y := p.1 ++ [58, 32] ++ p.2) (fun c hc => by
      simp only [List.mem_append, List.mem_cons, List.not_mem_nil, or_false] at hc
      rcases hc with (h | h | h) | h
      · have := hp.1.ok c h; omega
      · omega
      · omega
      · have := hp.2 c h; omega)
    obtain ⟨l2, e2⟩ := lineX_crlf (y := [32, 9] ++ p.2 ++ [32]) (fun c hc => by
      simp only [List.mem_append, List.mem_cons, List.not_mem_nil, or_false] at hc
      rcases hc with ((h | h) | h) | h
      · omega
      · omega
      · have := hp.2 c h; omega
      · omega)
    have e : flatF (p :: P) ++ ([13, 10] ++ body) = x1 p.1 p.2 ++ (x2 p.2 ++ (flatF P ++ ([13, 10] ++ body))) := by simp [flatF]
    rw [e]
    unfold x1 x2
    rw [splitR_line l1, e1, if_neg (by simp), splitR_line l2, e2, if_neg (by simp), ih fun q hq => h q (List.mem_cons_of_mem _ hq)]
    simp [flatF, x1, x2]
    omega
/-- a text between blanks, cut -/
theorem cut_made (t : List Nat) (h : ∀ c ∈ t, 32 < c ∧ c < 256) : cutT ([32] ++ t ++ ([32, 9] ++ t ++ [32])) = if t = [] then ⟨#[]⟩ else strT (t ++ [32, 9] ++ t) := by
  unfold cutT
  by_cases h0 : t = []
  · subst h0; rfl
  · rw [if_neg h0]
    have hb : ∀ c ∈ t.map UInt8.ofNat, ([32, 9] : List UInt8).contains c = false := by
      intro c hc
      obtain ⟨k, hk, rfl⟩ := List.mem_map.1 hc
      have := h k hk
      have e : (UInt8.ofNat k).toNat = k := by simp; omega
      have n1 : ¬ UInt8.ofNat k = 32 := fun e2 => by rw [e2] at e; simp at e; omega
      have n2 : ¬ UInt8.ofNat k = 9 := fun e2 => by rw [e2] at e; simp at e; omega
      simp [n1, n2]
    have e : (strT ([32] ++ t ++ ([32, 9] ++ t ++ [32]))).data.toList = 32 :: (t.map UInt8.ofNat ++ [32, 9] ++ t.map UInt8.ofNat) ++ [32] := by simp [strT]
    rw [e]
    have e3 : strT (t ++ [32, 9] ++ t) = ⟨(t.map UInt8.ofNat ++ [32, 9] ++ t.map UInt8.ofNat).toArray⟩ := by simp [strT]
    rw [e3]
    obtain ⟨u, hu⟩ : ∃ u, t.map UInt8.ofNat = u := ⟨_, rfl⟩
    rw [hu] at hb ⊢
    have hu0 : u ≠ [] := by intro e; subst e; simp at hu; exact h0 hu
    congr 2
    unfold trimS trimLeftS trimRightS
    obtain ⟨q, z, rfl⟩ : ∃ q z, u = q ++ [z] := ⟨u.dropLast, u.getLast hu0, (List.dropLast_concat_getLast hu0).symm⟩
    have hz : ([32, 9] : List UInt8).contains z = false := hb z (by simp)
    have hrev : (32 :: (q ++ [z] ++ [32, 9] ++ (q ++ [z])) ++ [32]).reverse = 32 :: z :: (32 :: (q ++ [z] ++ [32, 9] ++ q)).reverse := by simp
    rw [hrev]
    have h32 : ([32, 9] : List UInt8).contains 32 = true := rfl
    rw [List.dropWhile_cons, if_pos h32, List.dropWhile_cons, if_neg (by rw [hz]; simp)]
    have hrev2 : (z :: (32 :: (q ++ [z] ++ [32, 9] ++ q)).reverse).reverse = 32 :: (q ++ [z] ++ [32, 9] ++ (q ++ [z])) := by simp
    rw [hrev2, List.dropWhile_cons, if_pos h32]
    cases q with
    | nil => rw [show ([] ++ [z] ++ [32, 9] ++ ([] ++ [z]) : List UInt8) = z :: ([32, 9] ++ [z]) from rfl, List.dropWhile_cons, if_neg (by rw [hz]; simp)]
    | cons c q =>
      have hc : ([32, 9] : List UInt8).contains c = false := hb c (by simp)
      rw [show ((c :: q) ++ [z] ++ [32, 9] ++ ((c :: q) ++ [z]) : List UInt8) = c :: (q ++ [z] ++ [32, 9] ++ ((c :: q) ++ [z])) from rfl, List.dropWhile_cons, if_neg (by rw [hc]; simp)]
end
end Go.Proofs.YtnncldnpkfjhbaaGreatDoor
