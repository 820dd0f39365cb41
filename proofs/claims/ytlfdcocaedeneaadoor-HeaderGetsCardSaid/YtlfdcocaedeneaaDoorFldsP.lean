/-
  The header's fields, purely, and how they lie while fields goes over the lines.
-/
import Derived.Test.YtlfdcocaedeneaaDoorRound
import Derived.Test.YtlfdcocaedeneaaDoorSplit
namespace Go.Proofs.YtlfdcocaedeneaaDoor
set_option linter.unusedVariables false
open Go.RowKit Go.Lib

structure Fd where
  nm : ByteArray
  T : List Nat
  R : List Nat
/-- a line: the fields that are over, and the one that a line may go on with -/
def stepF (s : List Fd × Option Fd) (wh tx : List Nat) : List Fd × Option Fd :=
  if goesB tx then (s.1, s.2.map fun f => ⟨f.nm, f.T ++ tx, f.R ++ wh⟩)
  else (s.1 ++ s.2.toList, (nameN tx).map fun n => ⟨nameT tx, tx.drop (n + 1), wh⟩)
def lineW (l : List Nat) (x : Nat × Nat × Nat) : List Nat := (l.drop x.1).take x.2.1
def lineT (l : List Nat) (x : Nat × Nat × Nat) : List Nat := (l.drop x.1).take x.2.2
def runF (l : List Nat) (s : List Fd × Option Fd) (xs : List (Nat × Nat × Nat)) : List Fd × Option Fd := xs.foldl (fun s x => stepF s (lineW l x) (lineT l x)) s
theorem runF_snoc (l : List Nat) (s : List Fd × Option Fd) (xs : List (Nat × Nat × Nat)) (x : Nat × Nat × Nat) : runF l s (xs ++ [x]) = stepF (runF l s xs) (lineW l x) (lineT l x) := by simp [runF]
def headF (xs : List (Nat × Nat × Nat)) : List (Nat × Nat × Nat) := xs.takeWhile fun x => x.2.2 != 0
/-- the fields of a text's header -/
def fieldsS (l : List Nat) : List Fd := (runF l ([], none) (headF (linesP 0 l))).1 ++ (runF l ([], none) (headF (linesP 0 l))).2.toList

/-- cells lie as they lay, but for the blocks X -/
def KeepX (X : Nat → Prop) (W W' : World) : Prop := (∀ k C t fz, W.heap[k]? = some (.cells C t fz) → ¬ X k → W'.heap[k]? = W.heap[k]?) ∧ W.heap.size ≤ W'.heap.size

theorem ownB_keep {X : Nat → Prop} {W W' : World} {B : Nat} {v : Value} {l : List Nat} (h : OwnB W B v l) (hk : KeepX X W W') (hX : ∀ k, v.ownBlock = some k → ¬ X k) : OwnB W' B v l := by
  refine ⟨h.1, ?_⟩
  rcases h.2 with h2 | ⟨b, cap, cur, rfl, hb, hh, r⟩
  · exact .inl h2
  · exact .inr ⟨b, cap, cur, rfl, hb, (hk.1 b _ _ _ hh (hX b rfl)).trans hh, r⟩
theorem FldC.keep {X : Nat → Prop} {a v r : Value} {W W' : World} {g B : Nat} {nm : ByteArray} {T R : List Nat} (k : FldC a v r W g B nm T R) (hk : KeepX X W W') (h1 : ¬ X g) (h2 : ∀ j, v.ownBlock = some j → ¬ X j) (h3 : ∀ j, r.ownBlock = some j → ¬ X j) : FldC a v r W' g B nm T R :=
  ⟨(hk.1 g _ _ _ k.row h1).trans k.row, ownB_keep k.own hk h2, ownB_keep k.raw hk h3, k.ne, k.base⟩

/-- a field that is over: all of it below E -/
def Fin (W : World) (b E : Nat) (f : Fd) (g : Nat) : Prop := ∃ a v r, (a = .pointer none ∨ a = .pointer (some ⟨g, 1, none⟩)) ∧ FldC a v r W g b f.nm f.T f.R ∧ g < E ∧ (∀ k, v.ownBlock = some k → k < E) ∧ ∀ k, r.ownBlock = some k → k < E
theorem Fin.keep {X : Nat → Prop} {W W' : World} {b E g : Nat} {f : Fd} (h : Fin W b E f g) (hk : KeepX X W W') (hX : ∀ k, X k → k < b ∨ E ≤ k) : Fin W' b E f g := by
  obtain ⟨a, v, r, ha, hc, h1, h2, h3⟩ := h
  refine ⟨a, v, r, ha, hc.keep hk (fun hx => by rcases hX _ hx with h | h <;> have := hc.base <;> omega) (fun j hj hx => by rcases hX _ hx with h | h; have := hc.own.ownLe j hj; omega; have := h2 j hj; omega) (fun j hj hx => by rcases hX _ hx with h | h; have := hc.raw.ownLe j hj; omega; have := h3 j hj; omega), h1, h2, h3⟩
theorem Fin.mono {W : World} {b E E' g : Nat} {f : Fd} (h : Fin W b E f g) (hE : E ≤ E') : Fin W b E' f g := by
  obtain ⟨a, v, r, ha, hc, h1, h2, h3⟩ := h
  exact ⟨a, v, r, ha, hc, by omega, fun k hk => by have := h2 k hk; omega, fun k hk => by have := h3 k hk; omega⟩
theorem Fin.all {W : World} {b E g : Nat} {f : Fd} (h : Fin W b E f g) : Fin W b W.heap.size f g := by
  obtain ⟨a, v, r, ha, hc, h1, h2, h3⟩ := h
  exact ⟨a, v, r, ha, hc, hc.lt, ownB_lt hc.own, ownB_lt hc.raw⟩
theorem ownB_base {W : World} {B B' : Nat} {v : Value} {l : List Nat} (h : OwnB W B v l) (hB : B' ≤ B) : OwnB W B' v l := by
  refine ⟨h.1, ?_⟩
  rcases h.2 with h2 | ⟨b, cap, cur, rfl, hb, r⟩
  · exact .inl h2
  · exact .inr ⟨b, cap, cur, rfl, by omega, r⟩
theorem Fin.of {W : World} {b B g : Nat} {f : Fd} (h : FldAt W g B f.nm f.T f.R) (hb : b ≤ B) : Fin W b W.heap.size f g := by
  obtain ⟨a, v, r, ha, hc⟩ := h
  exact ⟨a, v, r, ha, ⟨hc.row, ownB_base hc.own hb, ownB_base hc.raw hb, hc.ne, by have := hc.base; omega⟩, hc.lt, ownB_lt hc.own, ownB_lt hc.raw⟩

/-- the fields' pointers -/
def ptrs (gs : List Nat) : List Value := gs.map fun g => .pointer (some ⟨g, 0, none⟩)
def fin2 (W : World) (b E : Nat) : List Fd → List Nat → Prop
  | [], [] => True
  | f :: fs, g :: gs => Fin W b E f g ∧ fin2 W b E fs gs
  | _, _ => False
theorem fin2_map {W W' : World} {b E b' E' : Nat} (h : ∀ f g, Fin W b E f g → Fin W' b' E' f g) : ∀ (fs : List Fd) (gs : List Nat), fin2 W b E fs gs → fin2 W' b' E' fs gs
  | [], [], _ => trivial
  | f :: fs, g :: gs, k => ⟨h f g k.1, fin2_map h fs gs k.2⟩
  | [], _ :: _, k => k.elim
  | _ :: _, [], k => k.elim
theorem fin2_snoc {W : World} {b E : Nat} {f : Fd} {g : Nat} (hf : Fin W b E f g) : ∀ (fs : List Fd) (gs : List Nat), fin2 W b E fs gs → fin2 W b E (fs ++ [f]) (gs ++ [g])
  | [], [], _ => ⟨hf, trivial⟩
  | f :: fs, g :: gs, k => ⟨k.1, fin2_snoc hf fs gs k.2⟩
  | [], _ :: _, k => k.elim
  | _ :: _, [], k => k.elim
theorem ownsRow_keepX {X : Nat → Prop} {W W' : World} {B t n : Nat} {v : Value} {xs : List Value} (h : W.ownsRow B t 1 v n xs) (hk : KeepX X W W') (hX : ∀ k, X k → k < B) : W'.ownsRow B t 1 v n xs := by
  refine ⟨h.1, ?_⟩
  rcases h.2 with h2 | ⟨b, cap, cur, rfl, hb, hh, r⟩
  · exact .inl h2
  · exact .inr ⟨b, cap, cur, rfl, hb, (hk.1 b _ _ _ hh (fun hx => by have := hX b hx; omega)).trans hh, r⟩
theorem boxed_keepX {X : Nat → Prop} {W W' : World} {B t : Nat} {v : Value} (h : Boxed W B t v) (hk : KeepX X W W') (hX : ¬ X B) : Boxed W' B t v := (hk.1 B _ _ _ h hX).trans h
/-- the open field, and its pointer -/
def Open (n : Nat) (W : World) (E : Nat) : Option Fd → List Nat → Prop
  | none, go => go = [] ∧ Boxed W (n + 1) 52 (.pointer none)
  | some f, go => ∃ g Bo, go = [g] ∧ Boxed W (n + 1) 52 (.pointer (some ⟨g, 0, none⟩)) ∧ FldAt W g Bo f.nm f.T f.R ∧ E ≤ Bo ∧ n + 3 ≤ Bo
/-- how fields' variables lie: out's box in block n, open's in n + 1, the lines' place in n + 2, all else behind -/
def FInv (n : Nat) (W : World) (s : List Fd × Option Fd) : Prop :=
  ∃ (vo : Value) (gf go : List Nat) (E : Nat), Boxed W n 50 vo ∧ W.ownsRow (n + 3) 52 1 vo (gf ++ go).length (ptrs (gf ++ go)) ∧ fin2 W (n + 3) E s.1 gf ∧ Open n W E s.2 go ∧ E ≤ W.heap.size

theorem Open.keep {X : Nat → Prop} {n E : Nat} {W W' : World} {op : Option Fd} {go : List Nat} (h : Open n W E op go) (hk : KeepX X W W') (hX : ∀ k, X k → k = n + 2) : Open n W' E op go := by
  cases op with
  | none => exact ⟨h.1, boxed_keepX h.2 hk (fun hx => by have := hX _ hx; omega)⟩
  | some f =>
    obtain ⟨g, Bo, rfl, hb, ⟨a, v, r, ha, hc⟩, h1, h2⟩ := h
    refine ⟨g, Bo, rfl, boxed_keepX hb hk (fun hx => by have := hX _ hx; omega), ⟨a, v, r, ha, hc.keep hk (fun hx => by have := hX _ hx; have := hc.base; omega) (fun j hj hx => by have := hX _ hx; have := hc.own.ownLe j hj; omega) (fun j hj hx => by have := hX _ hx; have := hc.raw.ownLe j hj; omega)⟩, h1, h2⟩
/-- whatever turns no cells but the lines' place -/
theorem FInv.keep {X : Nat → Prop} {n : Nat} {W W' : World} {s : List Fd × Option Fd} (h : FInv n W s) (hk : KeepX X W W') (hX : ∀ k, X k → k = n + 2) : FInv n W' s := by
  obtain ⟨vo, gf, go, E, h1, h2, h3, h4, h5⟩ := h
  exact ⟨vo, gf, go, E, boxed_keepX h1 hk (fun hx => by have := hX _ hx; omega), ownsRow_keepX h2 hk (fun k hx => by have := hX _ hx; omega), fin2_map (fun f g hf => hf.keep hk (fun k hx => .inl (by have := hX _ hx; omega))) _ _ h3, h4.keep hk hX, Nat.le_trans h5 hk.2⟩
theorem keepX_below {W W' : World} (hb : Below W.heap.size W W') : KeepX (fun _ => False) W W' := ⟨fun k C t fz hk _ => hb.block k (Array.getElem?_eq_some_iff.1 hk).1, hb.size⟩
theorem keepX_set (W : World) (b j : Nat) (u : Value) : KeepX (fun k => k = b) W (W.setCell ⟨b, j, none⟩ u) := ⟨fun k C t fz hk hx => Below.heap_setCell W _ u k hx, by simp [World.setCell]⟩
theorem keepX_alloc (W : World) (o : Obj) : KeepX (fun _ => False) W (W.alloc o) := keepX_below ((Below.refl _ W).alloc (Nat.le_refl _) o)
/-- 'open = nil' -/
theorem FInv.close {n : Nat} {W : World} {s : List Fd × Option Fd} (h : FInv n W s) : FInv n (W.setCell ⟨n + 1, 0, none⟩ (.pointer none)) (s.1 ++ s.2.toList, none) := by
  obtain ⟨vo, gf, go, E, h1, h2, h3, h4, h5⟩ := h
  have hk := keepX_set W (n + 1) 0 (.pointer none)
  have hf : ∀ f g, Fin W (n + 3) E f g → Fin (W.setCell ⟨n + 1, 0, none⟩ (.pointer none)) (n + 3) W.heap.size f g := fun f g hf => (hf.mono h5).keep hk (fun k hx => .inl (by omega))
  refine ⟨vo, gf ++ go, [], W.heap.size, boxed_keepX h1 hk (by omega), ?_, ?_, ?_, by simp [World.setCell]⟩
  · rw [List.append_nil]
    exact ownsRow_keepX h2 hk (fun k hx => by omega)
  · cases hs : s.2 with
    | none =>
      rw [hs] at h4
      obtain ⟨rfl, _⟩ := h4
      rw [List.append_nil]
      simp only [Option.toList, List.append_nil]
      exact fin2_map hf _ _ h3
    | some f =>
      rw [hs] at h4
      obtain ⟨g, Bo, rfl, hb, ha, e1, e2⟩ := h4
      exact fin2_snoc ((Fin.of ha e2).keep hk (fun k hx => .inl (by omega))) _ _ (fin2_map hf _ _ h3)
  · refine ⟨rfl, ?_⟩
    cases hs : s.2 with
    | none => rw [hs] at h4; exact h4.2.set _
    | some f => rw [hs] at h4; obtain ⟨g, Bo, _, hb, _⟩ := h4; exact hb.set _
end Go.Proofs.YtlfdcocaedeneaaDoor
