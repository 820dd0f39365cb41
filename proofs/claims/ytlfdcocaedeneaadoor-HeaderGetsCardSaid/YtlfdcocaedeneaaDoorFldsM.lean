/-
  fields: a field opened, written.
-/
import Derived.Test.YtlfdcocaedeneaaDoorFldsP
namespace Go.Proofs.YtlfdcocaedeneaaDoor
set_option linter.unusedVariables false
open Go.RowKit Go.Lib

/-- a field is open, in block g -/
structure Tl (n : Nat) (W : World) (fin : List Fd) (f : Fd) (gf : List Nat) (g Bo E : Nat) (vo : Value) : Prop where
  out : Boxed W n 50 vo
  row : W.ownsRow (n + 3) 52 1 vo (gf ++ [g]).length (ptrs (gf ++ [g]))
  fins : fin2 W (n + 3) E fin gf
  box : Boxed W (n + 1) 52 (.pointer (some ⟨g, 0, none⟩))
  fld : FldAt W g Bo f.nm f.T f.R
  le1 : E ≤ Bo
  le2 : n + 3 ≤ Bo
  le3 : E ≤ W.heap.size
theorem Tl.inv {n : Nat} {W : World} {fin : List Fd} {f : Fd} {gf : List Nat} {g Bo E : Nat} {vo : Value} (h : Tl n W fin f gf g Bo E vo) : FInv n W (fin, some f) :=
  ⟨vo, gf, [g], E, h.out, h.row, h.fins, ⟨g, Bo, rfl, h.box, h.fld, h.le1, h.le2⟩, h.le3⟩
theorem FInv.tl {n : Nat} {W : World} {fin : List Fd} {f : Fd} (h : FInv n W (fin, some f)) : ∃ gf g Bo E vo, Tl n W fin f gf g Bo E vo := by
  obtain ⟨vo, gf, go, E, h1, h2, h3, ⟨g, Bo, rfl, hb, hf, e1, e2⟩, h5⟩ := h
  exact ⟨gf, g, Bo, E, vo, h1, h2, h3, hb, hf, e1, e2, h5⟩
/-- behind a write of the open field -/
theorem Tl.fr {n : Nat} {W W' : World} {fin : List Fd} {f f' : Fd} {gf : List Nat} {g Bo E : Nat} {vo : Value} (h : Tl n W fin f gf g Bo E vo) (hf : Fr Bo g W W') (hfld : FldAt W' g Bo f'.nm f'.T f'.R) : Tl n W' fin f' gf g Bo E vo := by
  have hb := h.le2
  have hE := h.le1
  refine ⟨(hf.1.block n (by omega)).trans h.out, ?_, ?_, (hf.1.block (n + 1) (by omega)).trans h.box, hfld, h.le1, h.le2, Nat.le_trans h.le3 hf.1.size⟩
  · refine ⟨h.row.1, ?_⟩
    rcases h.row.2 with h2 | ⟨b, cap, cur, e, hb2, hh, r⟩
    · exact .inl h2
    · refine .inr ⟨b, cap, cur, e, hb2, hf.2 b _ hh ?_ (by intro c fz e; cases e), r⟩
      obtain ⟨a, v, r', ha, hc⟩ := h.fld
      intro e2
      cases e2
      rw [hc.row] at hh
      simp at hh
  · refine fin2_map (fun f0 g0 hf0 => ?_) _ _ h.fins
    have hk : KeepX (fun k => Bo ≤ k) W W' := ⟨fun k C t fz _ hx => hf.1.block k (by omega), hf.1.size⟩
    exact hf0.keep hk (fun k hx => .inr (by omega))

/-- the new field's cells -/
abbrev newF (W : World) (nm : ByteArray) : World := W.alloc (.cells #[.string nm, .pointer none, .slice none 0 0, .slice none 0 0] 57)
/-- the new field lies there, open names it; out has it not yet -/
structure Md (n : Nat) (W : World) (fin : List Fd) (nm : ByteArray) (gf : List Nat) (g : Nat) (vo : Value) : Prop where
  out : Boxed W n 50 vo
  row : W.ownsRow (n + 3) 52 1 vo gf.length (ptrs gf)
  fins : fin2 W (n + 3) g fin gf
  box : Boxed W (n + 1) 52 (.pointer (some ⟨g, 0, none⟩))
  fld : W.heap[g]? = some (.cells #[.string nm, .pointer none, .slice none 0 0, .slice none 0 0] 57 (0, 0))
  le : n + 3 ≤ g
theorem FInv.opens {n : Nat} {W : World} {fin : List Fd} (h : FInv n W (fin, none)) (nm : ByteArray) (hn : n + 3 ≤ W.heap.size) :
    ∃ gf vo, Md n ((newF W nm).setCell ⟨n + 1, 0, none⟩ (.pointer (some ⟨W.heap.size, 0, none⟩))) fin nm gf W.heap.size vo := by
  obtain ⟨vo, gf, go, E, h1, h2, h3, ⟨rfl, h4⟩, h5⟩ := h
  rw [List.append_nil] at h2
  have k1 := keepX_alloc W (.cells #[.string nm, .pointer none, .slice none 0 0, .slice none 0 0] 57)
  have k2 := keepX_set (newF W nm) (n + 1) 0 (.pointer (some ⟨W.heap.size, 0, none⟩))
  refine ⟨gf, vo, boxed_keepX (boxed_keepX h1 k1 (fun h => h)) k2 (by omega), ownsRow_keepX (ownsRow_keepX h2 k1 (fun k hx => hx.elim)) k2 (fun k hx => by omega), ?_, (boxed_keepX h4 k1 (fun h => h)).set _, ?_, hn⟩
  · exact fin2_map (fun f g hf => (((hf.mono h5).keep k1 (fun k hx => hx.elim)).keep k2 (fun k hx => .inl (by omega)))) _ _ h3
  · rw [Below.heap_setCell _ _ _ _ (by simp; omega)]
    exact World.alloc_heap_new W _
/-- behind the append to out -/
theorem Md.tl {n : Nat} {W W1 W' : World} {fin : List Fd} {nm : ByteArray} {gf : List Nat} {g : Nat} {vo vo' : Value} (h : Md n W fin nm gf g vo) (h1 : KeepX (fun _ => False) W W1) (hg : W1.grownBy W' vo.ownBlock)
    (ho : W'.ownsRow (n + 3) 52 1 vo' (gf.length + 1) (ptrs gf ++ [.pointer (some ⟨g, 0, none⟩)])) : Tl n (W'.setCell ⟨n, 0, none⟩ vo') fin ⟨nm, [], []⟩ gf g g g vo' := by
  have hle := h.le
  have k1 : KeepX (fun k => vo.ownBlock = some k) W1 W' := ⟨fun k C t fz hk hx => hg.block k (Array.getElem?_eq_some_iff.1 hk).1 (fun e => hx e.symm), hg.size⟩
  have k2 := keepX_set W' n 0 vo'
  have hvo : ∀ k, vo.ownBlock = some k → n + 3 ≤ k ∧ ∃ C fz, W1.heap[k]? = some (.cells C 52 fz) := by
    intro k hk
    rcases h.row.2 with ⟨rfl, _⟩ | ⟨b, cap, cur, rfl, hb, hh, r⟩
    · simp [Value.ownBlock] at hk
    · simp [Value.ownBlock] at hk
      subst hk
      exact ⟨hb, cur, (0, 0), (h1.1 b _ _ _ hh (fun h => h)).trans hh⟩
  have other : ∀ k C t fz, W1.heap[k]? = some (.cells C t fz) → t ≠ 52 → vo.ownBlock ≠ some k := by
    intro k C t fz hk ht e
    obtain ⟨_, C', fz', h2⟩ := hvo k e
    rw [hk] at h2
    simp at h2
    exact ht h2.2.1
  have low : ∀ k, k < n + 3 → vo.ownBlock ≠ some k := by
    intro k hk e
    have := (hvo k e).1
    omega
  have hfl : W1.heap[g]? = _ := (h1.1 g _ _ _ h.fld (fun h => h)).trans h.fld
  have hfl2 : W'.heap[g]? = _ := (k1.1 g _ _ _ hfl (other g _ _ _ hfl (by decide))).trans hfl
  have hfl3 : (W'.setCell ⟨n, 0, none⟩ vo').heap[g]? = _ := (k2.1 g _ _ _ hfl2 (by omega)).trans hfl2
  refine ⟨(boxed_keepX (boxed_keepX h.out h1 (fun h => h)) k1 (low n (by omega))).set _, ?_, ?_, boxed_keepX (boxed_keepX (boxed_keepX h.box h1 (fun h => h)) k1 (low (n + 1) (by omega))) k2 (by omega), ⟨_, _, _, .inl rfl, hfl3, World.ownsRow_nil _ _ _ _, World.ownsRow_nil _ _ _ _, by intro k hk; simp [Value.ownBlock] at hk, Nat.le_refl _⟩, Nat.le_refl _, hle, ?_⟩
  · have e : ptrs (gf ++ [g]) = ptrs gf ++ [.pointer (some ⟨g, 0, none⟩)] := by simp [ptrs]
    rw [e, List.length_append]
    exact ownsRow_keepX ho k2 (fun k hx => by omega)
  · refine fin2_map (fun f0 g0 hf0 => ?_) _ _ h.fins
    have hf1 := hf0.keep h1 (fun k hx => hx.elim)
    obtain ⟨a, v, r, ha, hc, e1, e2, e3⟩ := hf1
    have hown : ∀ (u : Value) (m : List Nat), OwnB W1 (n + 3) u m → ∀ k, u.ownBlock = some k → vo.ownBlock ≠ some k := by
      intro u m hu k hk
      rcases hu.2 with ⟨rfl, _⟩ | ⟨b, cap, cur, rfl, hb, hh, r⟩
      · simp [Value.ownBlock] at hk
      · simp [Value.ownBlock] at hk
        subst hk
        exact other b _ _ _ hh (by decide)
    have hc2 := hc.keep k1 (other g0 _ _ _ hc.row (by decide)) (hown v _ hc.own) (hown r _ hc.raw)
    exact Fin.keep ⟨a, v, r, ha, hc2, e1, e2, e3⟩ k2 (fun k hx => .inl (by omega))
  · have := (Array.getElem?_eq_some_iff.1 hfl3).1
    omega
end Go.Proofs.YtlfdcocaedeneaaDoor
