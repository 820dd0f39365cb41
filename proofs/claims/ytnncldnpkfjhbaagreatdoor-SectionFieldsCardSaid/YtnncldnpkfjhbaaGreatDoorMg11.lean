/-
  Several texts of one proof, each in a section of its own: FldsM, FldsL, FldsE.
-/
import Derived.Test.YtnncldnpkfjhbaaGreatDoorMg10
import Derived.Deep.RegionHeld
namespace Go.Proofs.YtnncldnpkfjhbaaGreatDoor
section
set_option linter.unusedVariables false
open Go.RowKit Go.Lib

/-- a field is open, in block g -/
structure Tl (n : Nat) (W : World) (fin : List Fd) (f : Fd) (gf : List Nat) (g Bo E : Nat) (vo : Value) : Prop where
  out : Boxed W n 77 vo
  row : W.ownsRow (n + 3) 79 1 vo (gf ++ [g]).length (ptrs (gf ++ [g]))
  fins : fin2 W (n + 3) E fin gf
  box : Boxed W (n + 1) 79 (.pointer (some ⟨g, 0, none⟩))
  fld : FldAt W g Bo f.nm f.T f.R
  le1 : E ≤ Bo
  le2 : n + 3 ≤ Bo
  le3 : E ≤ W.heap.size
theorem Tl.inv {n : Nat} {W : World} {fin : List Fd} {f : Fd} {gf : List Nat} {g Bo E : Nat} {vo : Value} (h : Tl n W fin f gf g Bo E vo) : FInv n W (fin, some f) :=
  ⟨vo, gf, [g], E, h.out, h.row, h.fins, ⟨g, Bo, rfl, h.box, h.fld, h.le1, h.le2⟩, h.le3⟩
theorem FInv.tl {n : Nat} {W : World} {fin : List Fd} {f : Fd} (h : FInv n W (fin, some f)) : ∃ gf g Bo E vo, Tl n W fin f gf g Bo E vo := by
  obtain ⟨vo, gf, go, E, h1, h2, h3, ⟨g, Bo, rfl, hb, hf, e1, e2⟩, h5⟩ := h
  exact ⟨gf, g, Bo, E, vo, h1, h2, h3, hb, hf, e1, e2, h5⟩
/-- behind a write of the open field -/
theorem Tl.fr {n : Nat} {W W' : World} {fin : List Fd} {f f' : Fd} {gf : List Nat} {g Bo E : Nat} {vo : Value} (h : Tl n W fin f gf g Bo E vo) (hf : Fr Bo g W W') (hfld : FldAt W' g Bo f'.nm f'.T f'.R) : Tl n W' fin f' gf g Bo E vo := by
  have hb := h.le2
  have hE := h.le1
  refine ⟨(hf.1.block n (by omega)).trans h.out, ?_, ?_, (hf.1.block (n + 1) (by omega)).trans h.box, hfld, h.le1, h.le2, Nat.le_trans h.le3 hf.1.size⟩
  · refine ⟨h.row.1, ?_⟩
    rcases h.row.2 with h2 | ⟨b, cap, cur, e, hb2, hh, r⟩
    · exact .inl h2
    · refine .inr ⟨b, cap, cur, e, hb2, hf.2 b _ hh ?_ (by intro c fz e; cases e), r⟩
      obtain ⟨a, v, r', ha, hc⟩ := h.fld
      intro e2
      cases e2
      rw [hc.row] at hh
      simp at hh
  · refine fin2_map (fun f0 g0 hf0 => ?_) _ _ h.fins
    have hk : KeepX (fun k => Bo ≤ k) W W' := ⟨fun k C t fz _ hx => hf.1.block k (by omega), hf.1.size⟩
    exact hf0.keep hk (fun k hx => .inr (by omega))

/-- the new field's cells -/
abbrev newF (W : World) (nm : ByteArray) : World := W.alloc (.cells #[.string nm, .pointer none, .slice none 0 0, .slice none 0 0] 84)
/-- the new field lies there, open names it; out has it not yet -/
structure Md (n : Nat) (W : World) (fin : List Fd) (nm : ByteArray) (gf : List Nat) (g : Nat) (vo : Value) : Prop where
  out : Boxed W n 77 vo
  row : W.ownsRow (n + 3) 79 1 vo gf.length (ptrs gf)
  fins : fin2 W (n + 3) g fin gf
  box : Boxed W (n + 1) 79 (.pointer (some ⟨g, 0, none⟩))
  fld : W.heap[g]? = some (.cells #[.string nm, .pointer none, .slice none 0 0, .slice none 0 0] 84 (0, 0))
  le : n + 3 ≤ g
theorem FInv.opens {n : Nat} {W : World} {fin : List Fd} (h : FInv n W (fin, none)) (nm : ByteArray) (hn : n + 3 ≤ W.heap.size) :
    ∃ gf vo, Md n ((newF W nm).setCell ⟨n + 1, 0, none⟩ (.pointer (some ⟨W.heap.size, 0, none⟩))) fin nm gf W.heap.size vo := by
  obtain ⟨vo, gf, go, E, h1, h2, h3, ⟨rfl, h4⟩, h5⟩ := h
  rw [List.append_nil] at h2
  have k1 := keepX_alloc W (.cells #[.string nm, .pointer none, .slice none 0 0, .slice none 0 0] 84)
  have k2 := keepX_set (newF W nm) (n + 1) 0 (.pointer (some ⟨W.heap.size, 0, none⟩))
  refine ⟨gf, vo, boxed_keepX (boxed_keepX h1 k1 (fun h => h)) k2 (by omega), ownsRow_keepX (ownsRow_keepX h2 k1 (fun k hx => hx.elim)) k2 (fun k hx => by omega), ?_, (boxed_keepX h4 k1 (fun h => h)).set _, ?_, hn⟩
  · exact fin2_map (fun f g hf => (((hf.mono h5).keep k1 (fun k hx => hx.elim)).keep k2 (fun k hx => .inl (by omega)))) _ _ h3
  · rw [Below.heap_setCell _ _ _ _ (by simp; omega)]
    exact World.alloc_heap_new W _
/-- behind the append to out -/
theorem Md.tl {n : Nat} {W W1 W' : World} {fin : List Fd} {nm : ByteArray} {gf : List Nat} {g : Nat} {vo vo' : Value} (h : Md n W fin nm gf g vo) (h1 : KeepX (fun _ => False) W W1) (hg : W1.grownBy W' vo.ownBlock)
    (ho : W'.ownsRow (n + 3) 79 1 vo' (gf.length + 1) (ptrs gf ++ [.pointer (some ⟨g, 0, none⟩)])) : Tl n (W'.setCell ⟨n, 0, none⟩ vo') fin ⟨nm, [], []⟩ gf g g g vo' := by
  have hle := h.le
  have k1 : KeepX (fun k => vo.ownBlock = some k) W1 W' := ⟨fun k C t fz hk hx => hg.block k (Array.getElem?_eq_some_iff.1 hk).1 (fun e => hx e.symm), hg.size⟩
  have k2 := keepX_set W' n 0 vo'
  have hvo : ∀ k, vo.ownBlock = some k → n + 3 ≤ k ∧ ∃ C fz, W1.heap[k]? = some (.cells C 79 fz) := by
    intro k hk
    rcases h.row.2 with ⟨rfl, _⟩ | ⟨b, cap, cur, rfl, hb, hh, r⟩
    · simp [Value.ownBlock] at hk
    · simp [Value.ownBlock] at hk
      subst hk
      exact ⟨hb, cur, (0, 0), (h1.1 b _ _ _ hh (fun h => h)).trans hh⟩
  have other : ∀ k C t fz, W1.heap[k]? = some (.cells C t fz) → t ≠ 79 → vo.ownBlock ≠ some k := by
    intro k C t fz hk ht e
    obtain ⟨_, C', fz', h2⟩ := hvo k e
    rw [hk] at h2
    simp at h2
    exact ht h2.2.1
  have low : ∀ k, k < n + 3 → vo.ownBlock ≠ some k := by
    intro k hk e
    have := (hvo k e).1
    omega
  have hfl : W1.heap[g]? = _ := (h1.1 g _ _ _ h.fld (fun h => h)).trans h.fld
  have hfl2 : W'.heap[g]? = _ := (k1.1 g _ _ _ hfl (other g _ _ _ hfl (by decide))).trans hfl
  have hfl3 : (W'.setCell ⟨n, 0, none⟩ vo').heap[g]? = _ := (k2.1 g _ _ _ hfl2 (by omega)).trans hfl2
  refine ⟨(boxed_keepX (boxed_keepX h.out h1 (fun h => h)) k1 (low n (by omega))).set _, ?_, ?_, boxed_keepX (boxed_keepX (boxed_keepX h.box h1 (fun h => h)) k1 (low (n + 1) (by omega))) k2 (by omega), ⟨_, _, _, .inl rfl, hfl3, World.ownsRow_nil _ _ _ _, World.ownsRow_nil _ _ _ _, by intro k hk; simp [Value.ownBlock] at hk, Nat.le_refl _⟩, Nat.le_refl _, hle, ?_⟩
  · have e : ptrs (gf ++ [g]) = ptrs gf ++ [.pointer (some ⟨g, 0, none⟩)] := by simp [ptrs]
    rw [e, List.length_append]
    exact ownsRow_keepX ho k2 (fun k hx => by omega)
  · refine fin2_map (fun f0 g0 hf0 => ?_) _ _ h.fins
    have hf1 := hf0.keep h1 (fun k hx => hx.elim)
    obtain ⟨a, v, r, ha, hc, e1, e2, e3⟩ := hf1
    have hown : ∀ (u : Value) (m : List Nat), OwnB W1 (n + 3) u m → ∀ k, u.ownBlock = some k → vo.ownBlock ≠ some k := by
      intro u m hu k hk
      rcases hu.2 with ⟨rfl, _⟩ | ⟨b, cap, cur, rfl, hb, hh, r⟩
      · simp [Value.ownBlock] at hk
      · simp [Value.ownBlock] at hk
        subst hk
        exact other b _ _ _ hh (by decide)
    have hc2 := hc.keep k1 (other g0 _ _ _ hc.row (by decide)) (hown v _ hc.own) (hown r _ hc.raw)
    exact Fin.keep ⟨a, v, r, ha, hc2, e1, e2, e3⟩ k2 (fun k hx => .inl (by omega))
  · have := (Array.getElem?_eq_some_iff.1 hfl3).1
    omega
end
section
set_option linter.unusedVariables false
open Go.RowKit Go.Lib

theorem lines_in (n : Nat) : ∀ (k : Nat) (r : List Nat), r.length ≤ n → (linesP k r).length ≤ r.length ∧ ∀ x ∈ linesP k r, k ≤ x.1 ∧ x.1 + x.2.1 ≤ k + r.length ∧ x.2.2 ≤ x.2.1 := by
  induction n with
  | zero =>
    intro k r h
    have : r = [] := List.eq_nil_of_length_eq_zero (by omega)
    subst this
    rw [linesP_nil]
    simp
  | succ n ih =>
    intro k r h
    by_cases hr : r = []
    · subst hr; rw [linesP_nil]; simp
    · rw [linesP_cons k hr]
      have h1 := wholeN_pos hr
      have h2 := wholeN_le r
      have h3 := textN_le r
      obtain ⟨i1, i2⟩ := ih (k + wholeN r) (r.drop (wholeN r)) (by simp; omega)
      simp only [List.length_drop] at i1 i2
      refine ⟨by simp only [List.length_cons]; omega, fun x hx => ?_⟩
      rcases List.mem_cons.1 hx with rfl | hx
      · exact ⟨Nat.le_refl _, by simp only; omega, h3⟩
      · obtain ⟨j1, j2, j3⟩ := i2 x hx
        exact ⟨by omega, by omega, j3⟩

theorem stepF_len (s : List Fd × Option Fd) (wh tx : List Nat) : (stepF s wh tx).1.length + (stepF s wh tx).2.toList.length ≤ s.1.length + s.2.toList.length + 1 := by
  unfold stepF
  split
  · cases s.2 <;> simp
  · cases nameN tx <;> simp <;> omega
theorem runF_len (l : List Nat) (xs : List (Nat × Nat × Nat)) : ∀ s, (runF l s xs).1.length + (runF l s xs).2.toList.length ≤ s.1.length + s.2.toList.length + xs.length := by
  induction xs with
  | nil => intro s; simp [runF]
  | cons x xs ih =>
    intro s
    have h1 := ih (stepF s (lineW l x) (lineT l x))
    have h2 := stepF_len s (lineW l x) (lineT l x)
    have e : runF l s (x :: xs) = runF l (stepF s (lineW l x) (lineT l x)) xs := rfl
    rw [e, List.length_cons]
    omega
theorem fin2_len {W : World} {b E : Nat} : ∀ (fs : List Fd) (gs : List Nat), fin2 W b E fs gs → fs.length = gs.length
  | [], [], _ => rfl
  | f :: fs, g :: gs, k => by rw [List.length_cons, List.length_cons, fin2_len fs gs k.2]
  | [], _ :: _, k => k.elim
  | _ :: _, [], k => k.elim
/-- how long the open field's text and lines are -/
def OpLe (N : Nat) (s : List Fd × Option Fd) : Prop := ∀ f ∈ s.2, f.T.length ≤ N ∧ f.R.length ≤ N
theorem stepF_le {N M : Nat} {s : List Fd × Option Fd} {wh tx : List Nat} (h : OpLe N s) (h1 : wh.length ≤ M) (h2 : tx.length ≤ M) : OpLe (N + M) (stepF s wh tx) := by
  intro f hf
  unfold stepF at hf
  split at hf
  · cases hs : s.2 with
    | none => rw [hs] at hf; simp at hf
    | some f0 =>
      rw [hs] at hf
      simp at hf
      subst hf
      have := h f0 (by rw [hs]; simp)
      simp
      omega
  · cases hn : nameN tx with
    | none => rw [hn] at hf; simp at hf
    | some q =>
      rw [hn] at hf
      simp at hf
      subst hf
      simp
      omega
theorem runF_le' (l : List Nat) (xs : List (Nat × Nat × Nat)) : ∀ (s : List Fd × Option Fd) (N : Nat), OpLe N s → OpLe (N + xs.length * l.length) (runF l s xs) := by
  induction xs with
  | nil => intro s N h; simpa [runF] using h
  | cons x xs ih =>
    intro s N h
    have h1 := ih (stepF s (lineW l x) (lineT l x)) (N + l.length) (stepF_le h (by simp [lineW]; omega) (by simp [lineT]; omega))
    rw [List.length_cons, Nat.add_mul, Nat.one_mul, show N + (xs.length * l.length + l.length) = N + l.length + xs.length * l.length by omega]
    exact h1
theorem runF_le (l : List Nat) (xs : List (Nat × Nat × Nat)) : OpLe (xs.length * l.length) (runF l ([], none) xs) := by
  have := runF_le' l xs ([], none) 0 (by intro f hf; simp at hf)
  rwa [Nat.zero_add] at this
end
section
set_option linter.unusedVariables false
open Go.RowKit Go.Lib

theorem headF_all : ∀ {xs : List (Nat × Nat × Nat)}, (∀ x ∈ xs, x.2.2 ≠ 0) → headF xs = xs
  | [], _ => rfl
  | x :: xs, h => by
    have h1 := h x (List.mem_cons_self ..)
    unfold headF
    rw [List.takeWhile_cons_of_pos (by simpa using h1)]
    congr 1
    exact headF_all fun y hy => h y (List.mem_cons_of_mem _ hy)
theorem headF_stop {x : Nat × Nat × Nat} {rest : List (Nat × Nat × Nat)} (hx : x.2.2 = 0) : ∀ {p : List (Nat × Nat × Nat)}, (∀ y ∈ p, y.2.2 ≠ 0) → headF (p ++ x :: rest) = p
  | [], _ => by unfold headF; rw [List.nil_append, List.takeWhile_cons_of_neg (by simp [hx])]
  | y :: p, h => by
    have h1 := h y (List.mem_cons_self ..)
    unfold headF
    rw [List.cons_append, List.takeWhile_cons_of_pos (by simpa using h1)]
    congr 1
    exact headF_stop hx fun z hz => h z (List.mem_cons_of_mem _ hz)

theorem FInv.ends {n : Nat} {W : World} {s : List Fd × Option Fd} (h : FInv n W s) : ∃ vo gs E, Boxed W n 77 vo ∧ W.ownsRow (n + 3) 79 1 vo gs.length (ptrs gs) ∧ fin2 W (n + 3) E (s.1 ++ s.2.toList) gs := by
  obtain ⟨vo, gf, go, E, h1, h2, h3, h4, h5⟩ := h
  refine ⟨vo, gf ++ go, W.heap.size, h1, h2, ?_⟩
  cases hs : s.2 with
  | none =>
    rw [hs] at h4
    obtain ⟨rfl, _⟩ := h4
    rw [List.append_nil]
    simp only [Option.toList, List.append_nil]
    exact fin2_map (fun f g hf => hf.mono h5) _ _ h3
  | some f =>
    rw [hs] at h4
    obtain ⟨g, Bo, rfl, hb, ha, e1, e2⟩ := h4
    exact fin2_snoc (Fin.of ha e2) _ _ (fin2_map (fun f g hf => hf.mono h5) _ _ h3)
/-- the block for deferred calls turns -/
theorem keepX_put {W : World} {D : Nat} {o o' : Obj} (h : W.heap[D]? = some o) (hc : o.isCells = false) : KeepX (fun _ => False) W (W.putObj D o') :=
  ⟨fun k C t fz hk _ => World.putObj_heap_other (by rintro rfl; rw [h] at hk; cases hk; cases hc), by simp⟩

/-- an append in a region that draws its order -/
theorem step_app {ops : Array Oper} {o : Oper} {a : Act} {K : Act → World → Prop} {Q : Exit → Act → World → Prop} {E : Prop} (hgd : o.guard = none) (s x : Operand)
    (ho : o.op = .call { callee := .builtin .append, args := #[s, x], argTypes := #[22, 22] })
    {w : World} {B : Nat} {v u : Value} {l m : List Nat} (hown : OwnB w B v l) (hr : RowB w u m) (hB : B ≤ w.heap.size)
    (hs : a.eval s = v) (hx : a.eval x = u) (hlen : l.length + m.length ≤ 140737488355328)
    (h : ∀ o' w2, OwnB w2 B o' (l ++ m) → w.grownBy w2 v.ownBlock → Moved v o' w → K (a.put o.dst o') w2) :
    if Region.wanted o (yielded ops a.tmps) = true then Oper.wp Tryz.prog o a w K Q else E := by
  have hw : Region.wanted o (yielded ops a.tmps) = true := by simp [Region.wanted, hgd]
  rw [if_pos hw]
  obtain ⟨v', w', hrun, h1, h2, h3⟩ := run_app o.type hown hr hB hlen
  unfold Oper.wp
  simp [execOp, ho, resolve, invoke, builtin, hs, hx, hrun, Result.andThen]
  exact h _ _ h1 h2 h3

theorem FldC.drew {a v r : Value} {w : World} {g B : Nat} {nm : ByteArray} {T R : List Nat} (k : FldC a v r w g B nm T R) : FldC a v r w.drew g B nm T R := ⟨k.row, k.own.drew, k.raw.drew, k.ne, k.base⟩
theorem Fr.drewn (B g : Nat) (w : World) : Fr B g w w.drew := ⟨(Below.refl _ _).drew, (OthersKept.refl _ _ _).drew⟩
theorem Fr.kf {B g D : Nat} {W W' : World} (h : Fr B g W W') (hg : ∃ C t fz, W.heap[g]? = some (.cells C t fz)) : KeepsFrom D W W' :=
  ⟨h.1.size, fun k o _ hk ho => h.2 k o hk (fun e => by cases e; obtain ⟨C, t, fz, h2⟩ := hg; rw [hk] at h2; cases h2; cases ho) (fun c fz e => by subst e; cases ho)⟩
theorem Fr.kp {B g n : Nat} {W W' : World} (h : Fr B g W W') (hB : n + 3 ≤ B) : KpL n (n + 2) W W' := ⟨h.1.mono (by omega), h.1.block _ (by omega)⟩
theorem FldAt.cells {w : World} {g B : Nat} {nm : ByteArray} {T R : List Nat} (h : FldAt w g B nm T R) : ∃ C t fz, w.heap[g]? = some (.cells C t fz) := by
  obtain ⟨a, v, r, _, hc⟩ := h
  exact ⟨_, _, _, hc.row⟩
/-- no operation of the region defers -/
def noDefer (ops : Array Oper) : Bool := ops.toList.all fun o => match o.op with | .defer _ => false | _ => true
theorem noDefer_at {ops : Array Oper} (h : noDefer ops = true) (i : Nat) (o : Oper) (ho : ops[i]? = some o) (c : Call) : o.op ≠ .defer c := by
  intro e
  have h1 := List.all_eq_true.1 h o (Array.mem_toList_iff.2 (Array.mem_of_getElem? ho))
  rw [e] at h1
  cases h1
theorem region_roundH {n l id : Nat} {P : Program} {ops : Array Oper} {Q : Exit → Act → World → Prop} {a : Act} {w : World} (S : World → Prop) (hm : P.follows .mixedOrders = true) (hQ : ¬ LetsOut Q)
    (hd : noDefer ops = true) (hS : S w.drew) (h : S w.drew → wpAnyH P .any ops Q S ops.size (Array.replicate ops.size false) a w.drew) : (Code.region id ops true).wpIn (Fence.wide.inRound l) n P Q a w :=
  region_round hm hQ (noDefer_at hd) (wpAny_of_held _ _ _ _ (h hS))
end
end Go.Proofs.YtnncldnpkfjhbaaGreatDoor
