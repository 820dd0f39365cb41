/-
  fields: what lies there at its end; an append within a region.
-/
import Derived.Test.YtlfdcocaedeneaaDoorFldsL
import Derived.Deep.RegionHeld
namespace Go.Proofs.YtlfdcocaedeneaaDoor
set_option linter.unusedVariables false
open Go.RowKit Go.Lib

theorem headF_all : ∀ {xs : List (Nat × Nat × Nat)}, (∀ x ∈ xs, x.2.2 ≠ 0) → headF xs = xs
  | [], _ => rfl
  | x :: xs, h => by
    have h1 := h x (List.mem_cons_self ..)
    unfold headF
    rw [List.takeWhile_cons_of_pos (by simpa using h1)]
    congr 1
    exact headF_all fun y hy => h y (List.mem_cons_of_mem _ hy)
theorem headF_stop {x : Nat × Nat × Nat} {rest : List (Nat × Nat × Nat)} (hx : x.2.2 = 0) : ∀ {p : List (Nat × Nat × Nat)}, (∀ y ∈ p, y.2.2 ≠ 0) → headF (p ++ x :: rest) = p
  | [], _ => by unfold headF; rw [List.nil_append, List.takeWhile_cons_of_neg (by simp [hx])]
  | y :: p, h => by
    have h1 := h y (List.mem_cons_self ..)
    unfold headF
    rw [List.cons_append, List.takeWhile_cons_of_pos (by simpa using h1)]
    congr 1
    exact headF_stop hx fun z hz => h z (List.mem_cons_of_mem _ hz)

theorem FInv.ends {n : Nat} {W : World} {s : List Fd × Option Fd} (h : FInv n W s) : ∃ vo gs E, Boxed W n 50 vo ∧ W.ownsRow (n + 3) 52 1 vo gs.length (ptrs gs) ∧ fin2 W (n + 3) E (s.1 ++ s.2.toList) gs := by
  obtain ⟨vo, gf, go, E, h1, h2, h3, h4, h5⟩ := h
  refine ⟨vo, gf ++ go, W.heap.size, h1, h2, ?_⟩
  cases hs : s.2 with
  | none =>
    rw [hs] at h4
    obtain ⟨rfl, _⟩ := h4
    rw [List.append_nil]
    simp only [Option.toList, List.append_nil]
    exact fin2_map (fun f g hf => hf.mono h5) _ _ h3
  | some f =>
    rw [hs] at h4
    obtain ⟨g, Bo, rfl, hb, ha, e1, e2⟩ := h4
    exact fin2_snoc (Fin.of ha e2) _ _ (fin2_map (fun f g hf => hf.mono h5) _ _ h3)
/-- the block for deferred calls turns -/
theorem keepX_put {W : World} {D : Nat} {o o' : Obj} (h : W.heap[D]? = some o) (hc : o.isCells = false) : KeepX (fun _ => False) W (W.putObj D o') :=
  ⟨fun k C t fz hk _ => World.putObj_heap_other (by rintro rfl; rw [h] at hk; cases hk; cases hc), by simp⟩

/-- an append in a region that draws its order -/
theorem step_app {ops : Array Oper} {o : Oper} {a : Act} {K : Act → World → Prop} {Q : Exit → Act → World → Prop} {E : Prop} (hgd : o.guard = none) (s x : Operand)
    (ho : o.op = .call { callee := .builtin .append, args := #[s, x], argTypes := #[22, 22] })
    {w : World} {B : Nat} {v u : Value} {l m : List Nat} (hown : OwnB w B v l) (hr : RowB w u m) (hB : B ≤ w.heap.size)
    (hs : a.eval s = v) (hx : a.eval x = u) (hlen : l.length + m.length ≤ 140737488355328)
    (h : ∀ o' w2, OwnB w2 B o' (l ++ m) → w.grownBy w2 v.ownBlock → Moved v o' w → K (a.put o.dst o') w2) :
    if Region.wanted o (yielded ops a.tmps) = true then Oper.wp Tryd.prog o a w K Q else E := by
  have hw : Region.wanted o (yielded ops a.tmps) = true := by simp [Region.wanted, hgd]
  rw [if_pos hw]
  obtain ⟨v', w', hrun, h1, h2, h3⟩ := run_app o.type hown hr hB hlen
  unfold Oper.wp
  simp [execOp, ho, resolve, invoke, builtin, hs, hx, hrun, Result.andThen]
  exact h _ _ h1 h2 h3

theorem FldC.drew {a v r : Value} {w : World} {g B : Nat} {nm : ByteArray} {T R : List Nat} (k : FldC a v r w g B nm T R) : FldC a v r w.drew g B nm T R := ⟨k.row, k.own.drew, k.raw.drew, k.ne, k.base⟩
theorem Fr.drewn (B g : Nat) (w : World) : Fr B g w w.drew := ⟨(Below.refl _ _).drew, (OthersKept.refl _ _ _).drew⟩
theorem Fr.kf {B g D : Nat} {W W' : World} (h : Fr B g W W') (hg : ∃ C t fz, W.heap[g]? = some (.cells C t fz)) : KeepsFrom D W W' :=
  ⟨h.1.size, fun k o _ hk ho => h.2 k o hk (fun e => by cases e; obtain ⟨C, t, fz, h2⟩ := hg; rw [hk] at h2; cases h2; cases ho) (fun c fz e => by subst e; cases ho)⟩
theorem Fr.kp {B g n : Nat} {W W' : World} (h : Fr B g W W') (hB : n + 3 ≤ B) : KpL n (n + 2) W W' := ⟨h.1.mono (by omega), h.1.block _ (by omega)⟩
theorem FldAt.cells {w : World} {g B : Nat} {nm : ByteArray} {T R : List Nat} (h : FldAt w g B nm T R) : ∃ C t fz, w.heap[g]? = some (.cells C t fz) := by
  obtain ⟨a, v, r, _, hc⟩ := h
  exact ⟨_, _, _, hc.row⟩
/-- no operation of the region defers -/
def noDefer (ops : Array Oper) : Bool := ops.toList.all fun o => match o.op with | .defer _ => false | _ => true
theorem noDefer_at {ops : Array Oper} (h : noDefer ops = true) (i : Nat) (o : Oper) (ho : ops[i]? = some o) (c : Call) : o.op ≠ .defer c := by
  intro e
  have h1 := List.all_eq_true.1 h o (Array.mem_toList_iff.2 (Array.mem_of_getElem? ho))
  rw [e] at h1
  cases h1
theorem region_roundH {n l id : Nat} {P : Program} {ops : Array Oper} {Q : Exit → Act → World → Prop} {a : Act} {w : World} (S : World → Prop) (hm : P.follows .mixedOrders = true) (hQ : ¬ LetsOut Q)
    (hd : noDefer ops = true) (hS : S w.drew) (h : S w.drew → wpAnyH P .any ops Q S ops.size (Array.replicate ops.size false) a w.drew) : (Code.region id ops true).wpIn (Fence.wide.inRound l) n P Q a w :=
  region_round hm hQ (noDefer_at hd) (wpAny_of_held _ _ _ _ (h hS))
end Go.Proofs.YtlfdcocaedeneaaDoor
