/-
  A map of numbers by numbers: what a lookup and an update make of it.
-/
import Derived.Test.YtmnbkhgogogeiaaBeside
namespace Go.Proofs.Ytmnbkhgogogeiaa
set_option linter.unusedVariables false
open Go.RowKit

theorem run_getMap {P : Program} {α : Type} (m : Nat) (es : Array MapEntry) (c : Nat) (k : Obj → Sem α) (w : World) (h : w.heap[m]? = some (.map es c)) : (Sem.getObj m k).run P w = (k (.map es c)).run P w := by
  simp only [Sem.run, h]
def setMap (w : World) (m : Nat) (o : Obj) : World := { w with heap := w.heap.setIfInBounds m o }
theorem run_setMap {P : Program} {α : Type} (m : Nat) (es : Array MapEntry) (c : Nat) (o : Obj) (k : Sem α) (w : World) (h : w.heap[m]? = some (.map es c)) : (Sem.setObj m o k).run P w = k.run P (setMap w m o) := by
  simp only [Sem.run, h]
  rfl

/-- an entry: its key, its value, when it was made -/
def ent (x : Int × Int × Nat) : MapEntry := { key := .int .i64 x.1, val := .int .i64 x.2.1, born := x.2.2 }
def IMap (w : World) (m : Nat) (L : List (Int × Int × Nat)) (c : Nat) : Prop := w.heap[m]? = some (.map (L.map ent).toArray c)
/-- where a key stands -/
def at? (L : List (Int × Int × Nat)) (k : Int) : Option (Nat × Int) :=
  match L with
  | [] => none
  | x :: r => if x.1 = k then some (0, x.2.1) else (at? r k).map fun y => (y.1 + 1, y.2)
def get (L : List (Int × Int × Nat)) (k : Int) : Option Int := (at? L k).map (·.2)
def upd (L : List (Int × Int × Nat)) (k v : Int) (c : Nat) : List (Int × Int × Nat) :=
  match at? L k with
  | some (i, _) => L.modify i fun x => (k, v, x.2.2)
  | none => L ++ [(k, v, c)]
def updc (L : List (Int × Int × Nat)) (k : Int) (c : Nat) : Nat := if (at? L k).isSome then c else c + 1

theorem find_ent (L : List (Int × Int × Nat)) (k : Int) (i : Nat) : Instr.findNow (.int .i64) (.int .i64 k) (L.map ent) i = some ((at? L k).map fun y => (y.1 + i, .int .i64 y.2)) := by
  induction L generalizing i with
  | nil => simp [Instr.findNow, at?]
  | cons x r ih =>
    simp only [List.map_cons, Instr.findNow, show (ent x).key = .int .i64 x.1 from rfl, show (ent x).val = .int .i64 x.2.1 from rfl, Instr.sameNow, at?, if_true]
    by_cases h : x.1 = k
    · subst h
      simp
    · have h1 : (k == x.1) = false := by simp; exact fun e => h e.symm
      rw [if_neg h, h1]
      simp only
      rw [ih (i + 1)]
      simp only [Option.map_map, Function.comp_def]
      congr 2
      funext y
      simp; omega

theorem run_findKey (L : List (Int × Int × Nat)) (k : Int) (w : World) : (Instr.findKey 3 (.int .i64 k) (L.map ent)).run Try.prog w = .ok ((at? L k).map fun y => (y.1, .int .i64 y.2)) w := by
  have h := find_ent L k 0
  simp only [Nat.add_zero] at h
  simp [Instr.findKey, Sem.run_bind, run_underlying Try.underlying3, h]

theorem run_checkKey (b : Bool) (k : Int) (w : World) : (Instr.checkKey b 10000 3 (.int .i64 k)).run Try.prog w = .ok () w := by kernel_rfl

theorem zero3 (w : World) : (zeroValue 3).run Try.prog w = .ok (.int .i64 0) w := by kernel_rfl

theorem run_look (m c : Nat) (L : List (Int × Int × Nat)) (k : Int) (w : World) (h : IMap w m L c) :
    (Instr.lookup 60 (.map (some m)) (.int .i64 k) true).run Try.prog w = .ok (.tuple #[.int .i64 ((get L k).getD 0), .bool (get L k).isSome]) w := by
  have hz := zero3 w
  have hk := fun b => run_checkKey b k w
  have hf := run_findKey L k w
  cases hq : at? L k with
  | none =>
    rw [hq] at hf
    simp [Instr.lookup, run_underlying Try.underlying60, getObj, run_getMap _ _ _ _ _ h, hk, hf, go_sem, get, hq]
  | some y =>
    rw [hq] at hf
    simp [Instr.lookup, run_underlying Try.underlying60, getObj, run_getMap _ _ _ _ _ h, hk, hf, go_sem, get, hq]
theorem run_look_nil (k : Int) (w : World) : (Instr.lookup 60 (.map none) (.int .i64 k) true).run Try.prog w = .ok (.tuple #[.int .i64 0, .bool false]) w := by kernel_rfl

theorem at_lt {L : List (Int × Int × Nat)} {k : Int} {i : Nat} {v : Int} (h : at? L k = some (i, v)) : i < L.length ∧ ∀ (hi : i < L.length), (L[i]).1 = k := by
  induction L generalizing i with
  | nil => simp [at?] at h
  | cons x r ih =>
    simp only [at?] at h
    by_cases e : x.1 = k
    · simp [e] at h
      obtain ⟨rfl, _⟩ := h
      exact ⟨by simp, fun _ => by simpa using e⟩
    · rw [if_neg e] at h
      simp only [Option.map_eq_some_iff, Prod.mk.injEq] at h
      obtain ⟨⟨j, u⟩, hy, rfl, rfl⟩ := h
      have := ih hy
      exact ⟨by simp; omega, fun _ => by simpa using this.2 this.1⟩

theorem modify_ent (L : List (Int × Int × Nat)) (i : Nat) (k v : Int) : ((L.map ent).modify i fun e => { e with key := .int .i64 k, val := .int .i64 v }) = (L.modify i fun x => (k, v, x.2.2)).map ent := by
  induction L generalizing i with
  | nil => simp
  | cons x r ih =>
    cases i with
    | zero => simp [ent]
    | succ i => simpa using ih i

theorem run_update (m c : Nat) (L : List (Int × Int × Nat)) (k v : Int) (w : World) (h : IMap w m L c) :
    (Instr.mapUpdate 60 (.map (some m)) (.int .i64 k) (.int .i64 v)).run Try.prog w = .ok () (setMap w m (.map ((upd L k v c).map ent).toArray (updc L k c))) := by
  have hk := fun b => run_checkKey b k w
  have hf := run_findKey L k w
  cases hq : at? L k with
  | none =>
    rw [hq] at hf
    simp [Instr.mapUpdate, run_underlying Try.underlying60, getObj, setObj, run_getMap _ _ _ _ _ h, run_setMap _ _ _ _ _ _ h, hk, hf, go_sem, upd, updc, hq, ent]
  | some y =>
    rw [hq] at hf
    obtain ⟨h1, h2⟩ := at_lt (i := y.1) (v := y.2) hq
    have hs : Instr.sameBits 10000 (Value.int .i64 k) (.int .i64 k) = true := by simp [Instr.sameBits]
    have hg : (Option.map ((fun x => x.key) ∘ ent) L[y.1]?).getD (.int .i64 k) = .int .i64 k := by
      simp [h1, ent, h2 h1]
    have hst : (Instr.keyThatStays (.int .i64 k) (.int .i64 k)).run Try.prog w = .ok (.int .i64 k) w := by simp [Instr.keyThatStays, hs]
    have hm := modify_ent L y.1 k v
    have hset := run_setMap (P := Try.prog) (α := Unit) m _ _ (Obj.map ((List.map ent L).modify y.fst fun e => { key := Value.int IntKind.i64 k, val := Value.int IntKind.i64 v, born := e.born }).toArray c) (Sem.pure ()) w h
    simp [Instr.mapUpdate, run_underlying Try.underlying60, getObj, setObj, run_getMap _ _ _ _ _ h, hk, hf, go_sem, upd, updc, hq]
    rw [hg, hst]
    show Sem.run Try.prog (Sem.setObj m _ (Sem.pure ())) w = _
    rw [hset, hm]
    rfl

theorem get_upd (L : List (Int × Int × Nat)) (k v j : Int) (c : Nat) : get (upd L k v c) j = if j = k then some v else get L j := by
  unfold get upd
  cases hq : at? L k with
  | none =>
    simp only
    induction L with
    | nil =>
      by_cases e : j = k
      · simp [at?, e]
      · have e2 : ¬ k = j := fun h => e h.symm
        simp [at?, e, e2]
    | cons x r ih =>
      simp only [at?] at hq
      by_cases e : x.1 = k
      · simp [e] at hq
      · rw [if_neg e] at hq
        have := ih (by simpa using hq)
        simp only [List.cons_append, at?]
        by_cases e2 : x.1 = j
        · have : ¬ j = k := fun h => e (e2.trans h)
          simp [e2, this]
        · simp only [e2, if_false, Option.map_map, Function.comp_def] at this ⊢
          simpa [Function.comp_def] using this
  | some y =>
    simp only
    induction L generalizing y with
    | nil => simp [at?] at hq
    | cons x r ih =>
      simp only [at?] at hq
      by_cases e : x.1 = k
      · simp [e] at hq
        subst hq
        simp only [List.modify_zero_cons, at?]
        by_cases e2 : j = k
        · simp [e2]
        · have : ¬ k = j := fun h => e2 h.symm
          have h3 : ¬ x.1 = j := fun h => e2 (h.symm.trans e)
          simp [this, h3, e2]
      · rw [if_neg e] at hq
        simp only [Option.map_eq_some_iff] at hq
        obtain ⟨z, hz, rfl⟩ := hq
        have := ih (y := z) hz
        simp only [List.modify_succ_cons, at?]
        by_cases e2 : x.1 = j
        · have : ¬ j = k := fun h => e (e2.trans h)
          simp [e2, this]
        · simp only [e2, if_false, Option.map_map, Function.comp_def] at this ⊢
          simpa [Function.comp_def] using this
end Go.Proofs.Ytmnbkhgogogeiaa
