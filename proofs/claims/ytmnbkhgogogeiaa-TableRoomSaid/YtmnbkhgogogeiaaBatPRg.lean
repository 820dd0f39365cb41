/-
  batches, f40: what lies there between two rounds.
-/
import Derived.Test.YtmnbkhgogogeiaaRg30
import Derived.Test.YtmnbkhgogogeiaaToldRg
import Derived.Test.YtmnbkhgogogeiaaItrXRg
namespace Go.Proofs.Ytmnbkhgogogeiaa
set_option linter.unusedVariables false
open Go.RowKit

def Pr.chg (x : Pr) : Chg := ⟨x.key, x.val, false⟩
/-- what counts against a record's length -/
def lotN (L : List Pr) : Nat := (L.map fun x => x.key.length + x.val.length + 8).sum
theorem lotN_snoc (L : List Pr) (x : Pr) : lotN (L ++ [x]) = lotN L + (x.key.length + x.val.length + 8) := by simp [lotN, List.sum_append]
theorem lotN_pre (pre rest : List Pr) : lotN pre ≤ lotN (pre ++ rest) := by simp [lotN, List.sum_append]
/-- a lot lies there -/
structure BM (W w : World) (M b3 b4 z g cap : Nat) (ov : Value) (C : List Ch) : Prop where
  out : Boxed W b3 81 (.slice (some ⟨g, 0, none⟩) 1 cap)
  size : Boxed W b4 3 (.int .i64 (z : Nat))
  row : W.ownsRow M 22 1 (.slice (some ⟨g, 0, none⟩) 1 cap) 1 [ov]
  chr : ChR W M ov C
  bel : Below b3 w W
/-- between two rounds -/
def BI (w : World) (M b3 b4 : Nat) (pre : List Pr) (W : World) : Prop :=
  (pre = [] ∧ Boxed W b3 81 (.slice none 0 0) ∧ Boxed W b4 3 (.int .i64 0) ∧ Below b3 w W ∧ M ≤ W.heap.size) ∨
  (pre ≠ [] ∧ ∃ g cap ov C, BM W w M b3 b4 (16 + lotN pre) g cap ov C ∧ C.map Ch.of = pre.map Pr.chg)
theorem ChR.kept {W W' : World} {M : Nat} {v : Value} {C : List Ch} (h : ChR W M v C) {row : Option Nat} (hg : W.grownBy W' row) (hr : ∀ r, row = some r → ∃ o : Obj, W.heap[r]? = some o ∧ o.isCells = false) : ChR W' M v C := by
  have key : ∀ {t : TypeId} {sz n : Nat} {v : Value} {xs : List Value}, W.ownsRow M t sz v n xs → W'.ownsRow M t sz v n xs := by
    intro t sz n v xs hx
    cases row with
    | none =>
      refine ⟨hx.1, ?_⟩
      rcases hx.2 with h1 | ⟨g, cp, cur, e2, hB, hh, r⟩
      · exact .inl h1
      · exact .inr ⟨g, cp, cur, e2, hB, (hg.block g (lt_of_block hh) (by simp)).trans hh, r⟩
    | some rr =>
    refine World.ownsRow.kept hx hg (.inr fun e => ?_)
    rcases hx.2 with ⟨e2, _⟩ | ⟨g, cp, cur, e2, hB, hh, _⟩
    · rw [e2] at e; cases e
    · rw [e2] at e
      obtain ⟨o, ho, hc⟩ := hr g (by rw [← e]; rfl)
      rw [hh] at ho
      cases ho
      cases hc
  exact ⟨key h.row, fun x hx => ⟨key (h.own x hx).1, key (h.own x hx).2.1, (h.own x hx).2.2⟩⟩
theorem BM.kept {W W' w : World} {M b3 b4 z g cap : Nat} {ov : Value} {C : List Ch} (h : BM W w M b3 b4 z g cap ov C) {row : Option Nat} (hg : W.grownBy W' row) (hr : ∀ r, row = some r → b3 ≤ r ∧ ∃ o : Obj, W.heap[r]? = some o ∧ o.isCells = false) (hb : b3 ≤ W.heap.size) : BM W' w M b3 b4 z g cap ov C := by
  have hne : ∀ (j : Nat) cs t fr, W.heap[j]? = some (.cells cs t fr) → some j ≠ row := fun j cs t fr hj e => by
    obtain ⟨-, o, ho, hc⟩ := hr j e.symm
    rw [hj] at ho
    cases ho
    cases hc
  refine ⟨h.out.kept hg (hne _ _ _ _ h.out), h.size.kept hg (hne _ _ _ _ h.size), World.ownsRow.kept h.row hg (.inr fun e => ?_), h.chr.kept hg (fun r e => (hr r e).2), h.bel.grown hg hb (fun r e => (hr r e).1)⟩
  rcases h.row.2 with ⟨e2, _⟩ | ⟨g, cp, cur, e2, hB, hh, _⟩
  · cases e2
  · rw [e2] at e
    exact hne _ _ _ _ hh (by rw [← e]; rfl)
theorem BM.calm {W W' w : World} {M b3 b4 z g cap : Nat} {ov : Value} {C : List Ch} (h : BM W w M b3 b4 z g cap ov C) (hb : Below W.heap.size W W') (h3 : b3 ≤ W.heap.size) : BM W' w M b3 b4 z g cap ov C :=
  ⟨(hb.block _ h.out.lt).trans h.out, (hb.block _ h.size.lt).trans h.size, ownsRow_below h.row hb, h.chr.below hb, h.bel.trans (hb.mono h3)⟩
theorem BI.kept {w W W' : World} {M b3 b4 : Nat} {pre : List Pr} (h : BI w M b3 b4 pre W) {row : Option Nat} (hg : W.grownBy W' row) (hr : ∀ r, row = some r → b3 ≤ r ∧ ∃ o : Obj, W.heap[r]? = some o ∧ o.isCells = false) (hb : b3 ≤ W.heap.size) : BI w M b3 b4 pre W' := by
  have hne : ∀ (j : Nat) cs t fr, W.heap[j]? = some (.cells cs t fr) → some j ≠ row := fun j cs t fr hj e => by
    obtain ⟨-, o, ho, hc⟩ := hr j e.symm
    rw [hj] at ho
    cases ho
    cases hc
  rcases h with ⟨h0, h1, h2, h3, h4⟩ | ⟨h0, g, cap, ov, C, h1, h2⟩
  · exact .inl ⟨h0, h1.kept hg (hne _ _ _ _ h1), h2.kept hg (hne _ _ _ _ h2), h3.grown hg hb (fun r e => (hr r e).1), Nat.le_trans h4 hg.size⟩
  · exact .inr ⟨h0, g, cap, ov, C, h1.kept hg hr hb, h2⟩
theorem BI.calm {w W W' : World} {M b3 b4 : Nat} {pre : List Pr} (h : BI w M b3 b4 pre W) (hb : Below W.heap.size W W') (h3' : b3 ≤ W.heap.size) : BI w M b3 b4 pre W' := by
  rcases h with ⟨h0, h1, h2, h3, h4⟩ | ⟨h0, g, cap, ov, C, h1, h2⟩
  · exact .inl ⟨h0, (hb.block _ h1.lt).trans h1, (hb.block _ h2.lt).trans h2, h3.trans (hb.mono h3'), Nat.le_trans h4 hb.size⟩
  · exact .inr ⟨h0, g, cap, ov, C, h1.calm hb h3', h2⟩
theorem BI.bel {w W : World} {M b3 b4 : Nat} {pre : List Pr} (h : BI w M b3 b4 pre W) : Below b3 w W := by
  rcases h with ⟨h0, h1, h2, h3, h4⟩ | ⟨h0, g, cap, ov, C, h1, h2⟩
  · exact h3
  · exact h1.bel
theorem BI.lt {w W : World} {M b3 b4 : Nat} {pre : List Pr} (h : BI w M b3 b4 pre W) : b3 < W.heap.size := by
  rcases h with ⟨h0, h1, h2, h3, h4⟩ | ⟨h0, g, cap, ov, C, h1, h2⟩
  · exact h1.lt
  · exact h1.out.lt


theorem Try.info22 : (Try.prog.info? 22).map (fun i => (i.zero, i.size, i.bytes)) = some (some (.slice none 0 0), 1, 24) := by kernel_rfl
/-- what a round may turn -/
def OwnX (W : World) (m b3 b4 : Nat) (k : Nat) : Prop := k = b3 ∨ k = b4 ∨ (m ≤ k ∧ ∀ o, W.heap[k]? = some o → o.isCells = true)
theorem OwnX.keeps {W W' : World} {m b3 b4 : Nat} (h : Beside (OwnX W m b3 b4) W W') (h3 : ∃ cs t fr, W.heap[b3]? = some (.cells cs t fr)) (h4 : ∃ cs t fr, W.heap[b4]? = some (.cells cs t fr)) (D : Nat) : KeepsFrom D W W' :=
  ⟨h.size, fun k o _ hk ho => (h.block k (Array.getElem?_eq_some_iff.1 hk).1 (by
    rintro (rfl | rfl | ⟨_, hc⟩)
    · obtain ⟨cs, t, fr, e⟩ := h3
      rw [hk] at e
      cases e
      cases ho
    · obtain ⟨cs, t, fr, e⟩ := h4
      rw [hk] at e
      cases e
      cases ho
    · rw [hc o hk] at ho
      cases ho)).trans hk⟩
theorem OwnX.bx {W W' : World} {m b3 b4 : Nat} (h : Beside (OwnX W m b3 b4) W W') (hm : m ≤ W.heap.size) : Bx (fun k => k = b3 ∨ k = b4) m W W' :=
  ⟨h.size, fun k hk hX => h.block k (by omega) (by
    rintro (rfl | rfl | ⟨h1, _⟩)
    · exact hX (.inl rfl)
    · exact hX (.inr rfl)
    · omega)⟩
theorem OwnX.of {W W' : World} {m b3 b4 g : Nat} {cs : Array Value} {t : TypeId} {fr : Nat × Nat} (h : Beside (OwnX W m b3 b4) W W') (h34 : b3 < m ∧ b4 < m) (hg : W'.heap[g]? = some (.cells cs t fr)) (hm : m ≤ g) : OwnX W m b3 b4 g := by
  refine .inr (.inr ⟨hm, fun o ho => ?_⟩)
  cases hc : o.isCells with
  | true => rfl
  | false =>
    have := h.block g (Array.getElem?_eq_some_iff.1 ho).1 (by
      rintro (rfl | rfl | ⟨_, hx⟩)
      · omega
      · omega
      · rw [hx o ho] at hc
        cases hc)
    rw [hg, ho] at this
    cases this
    cases hc
theorem BM.ne34 {W w : World} {M b3 b4 z g cap : Nat} {ov : Value} {C : List Ch} (h : BM W w M b3 b4 z g cap ov C) : b3 ≠ b4 := by
  rintro rfl
  have h1 := h.out
  have h2 := h.size
  unfold Boxed at h1 h2
  rw [h1] at h2
  cases h2
theorem BM.gblock {W w : World} {M b3 b4 z g cap : Nat} {ov : Value} {C : List Ch} (h : BM W w M b3 b4 z g cap ov C) : ∃ cur : Array Value, M ≤ g ∧ W.heap[g]? = some (.cells cur 22 (0, 0)) ∧ cur[0]? = some ov := by
  rcases h.row.2 with ⟨e, _⟩ | ⟨g', cp, cur, e, hB, hh, hc, hmx, hs, ht⟩
  · cases e
  · cases e
    refine ⟨cur, hB, hh, ?_⟩
    have : cur.toList[0]? = some ov := by
      have e : (cur.toList.take (1 * 1))[0]? = cur.toList[0]? := List.getElem?_take_of_lt (by decide)
      rw [← e, ht]
      rfl
    simpa using this
theorem ChR.beside {W W' : World} {M : Nat} {v : Value} {C : List Ch} (h : ChR W M v C) {p : Nat} {cs : Array Value} {t : TypeId} {fr : Nat × Nat} (hp : W.heap[p]? = some (.cells cs t fr)) (h1 : t ≠ 35) (h2 : t ≠ 5) (hb : Beside (fun k => k = p) W W') : ChR W' M v C :=
  ⟨ownsRow_beside h.row hb (fun k hk e => ownsRow_ne h.row hp h1 k hk e), fun x hx => ⟨ownsRow_beside (h.own x hx).1 hb (fun k hk e => ownsRow_ne (h.own x hx).1 hp h2 k hk e), ownsRow_beside (h.own x hx).2.1 hb (fun k hk e => ownsRow_ne (h.own x hx).2.1 hp h2 k hk e), (h.own x hx).2.2⟩⟩
theorem BM.set4 {W w : World} {M b3 b4 z g cap : Nat} {ov : Value} {C : List Ch} (h : BM W w M b3 b4 z g cap ov C) (h34 : b3 < b4) (z' : Nat) : BM (W.setCell ⟨b4, 0, none⟩ (.int .i64 (z' : Nat))) w M b3 b4 z' g cap ov C := by
  have hb : Beside (fun k => k = b4) W (W.setCell ⟨b4, 0, none⟩ (.int .i64 (z' : Nat))) := (Beside.refl (fun k => k = b4) W).setCell (p := ⟨b4, 0, none⟩) (.inl rfl) _
  refine ⟨h.out.kept (grownBy_setCell' W b4 _) (fun e => h.ne34 (Option.some.inj e)), Boxed.set _ h.size, ownsRow_beside h.row hb (fun k hk e => ownsRow_ne h.row h.size (by decide) k hk e), h.chr.beside h.size (by decide) (by decide) hb, h.bel.setCell (p := ⟨b4, 0, none⟩) (by show b3 ≤ b4; omega) _⟩
/-- .. behind an append of a change -/
theorem BM.app {W W2 w : World} {M b3 b4 z g cap : Nat} {ov ov' : Value} {C : List Ch} {x : Ch} (h : BM W w M b3 b4 z g cap ov C) (h3 : b3 < M) (hM : M ≤ W.heap.size) (hx : OwnB W M x.kv x.key ∧ OwnB W M x.vv x.val ∧ (∀ n ∈ x.key, n < 256) ∧ ∀ n ∈ x.val, n < 256)
    (hg : (W.drew.alloc (.cells #[x.kv, x.vv, .bool x.drop] 35)).grownBy W2 ov.ownBlock) (ho : W2.ownsRow M 35 3 ov' (C.length + 1) (chC C ++ x.cells)) : BM (W2.setCell ⟨g, 0, none⟩ ov') w M b3 b4 z g cap ov' (C ++ [x]) := by
  have hA : Below W.heap.size W (W.drew.alloc (.cells #[x.kv, x.vv, .bool x.drop] 35)) := ((Below.refl _ _).drew).alloc (Nat.le_refl _) _
  have h1 := h.calm hA (Nat.le_of_lt h.out.lt)
  have hch : ChR W2 M ov' (C ++ [x]) := h1.chr.grown ⟨ownsRow_below hx.1 hA, ownsRow_below hx.2.1 hA, hx.2.2⟩ hg rfl ho
  have hlow : ∀ k, ov.ownBlock = some k → M ≤ k := fun k e => (World.ownsRow.lt h1.chr.row k e).1
  have h3' : Boxed W2 b3 81 (.slice (some ⟨g, 0, none⟩) 1 cap) := h1.out.kept hg (fun e => by have := hlow b3 e.symm; omega)
  have h4' : Boxed W2 b4 3 (.int .i64 (z : Nat)) := h1.size.kept hg (fun e => ownsRow_ne h1.chr.row h1.size (by decide) b4 e.symm rfl)
  obtain ⟨cur, hgM, hgb, -⟩ := h1.gblock
  have hr' : W2.ownsRow M 22 1 (.slice (some ⟨g, 0, none⟩) 1 cap) 1 [ov] := World.ownsRow.kept h1.row hg (.inr fun e => ownsRow_ne h1.chr.row hgb (by decide) g (by rw [← e]; rfl) rfl)
  have hgb2 : W2.heap[g]? = some (.cells cur 22 (0, 0)) := (hg.block g (lt_of_block hgb) (fun e => ownsRow_ne h1.chr.row hgb (by decide) g e.symm rfl)).trans hgb
  have hb : Beside (fun k => k = g) W2 (W2.setCell ⟨g, 0, none⟩ ov') := (Beside.refl (fun k => k = g) W2).setCell (p := ⟨g, 0, none⟩) (.inl rfl) _
  have hbW : Below b3 w W2 := h1.bel.grown hg (Nat.le_trans (Nat.le_trans (Nat.le_of_lt h3) hM) hA.size) (fun k e => by have := hlow k e; omega)
  refine ⟨h3'.kept (grownBy_setCell' W2 g _) (fun e => by cases e; omega), h4'.kept (grownBy_setCell' W2 g _) (fun e => by cases e; unfold Boxed at h4'; rw [h4'] at hgb2; cases hgb2), ?_, hch.beside hgb2 (by decide) (by decide) hb, hbW.setCell (p := ⟨g, 0, none⟩) (by show b3 ≤ g; omega) _⟩
  exact (World.ownsRow.stored hr' 0 ov').1
end Go.Proofs.Ytmnbkhgogogeiaa
