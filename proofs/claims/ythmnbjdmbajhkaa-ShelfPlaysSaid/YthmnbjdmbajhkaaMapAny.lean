/-
  The map of the shelf, whatever it holds: what a lookup, an update and a delete make of it.
-/
import Derived.Test.YthmnbjdmbajhkaaHRem
import Derived.Laws.StructEq
namespace Go.Proofs.Ythmnbjdmbajhkaa
set_option linter.unusedVariables false
set_option linter.unusedSimpArgs false
open Go.RowKit

theorem und31 : Try.prog.underlying 31 = some (.struct (Try.prog.fieldsOf 31)) := by kernel_rfl
theorem stood31 : Try.prog.stoodInHeld 31 = false := by kernel_rfl
theorem und29 : Try.prog.underlying 29 = some (.int .u32) := by kernel_rfl
theorem flds31 : (Try.prog.fieldsOf 31).toList.map (fun f => (f.name, f.type, f.offset)) = [("Valid", 29, 0), ("Uid", 29, 1)] := by kernel_rfl
theorem part29 (a b : Int) (w : World) : (part 29 #[.int .u32 a, .int .u32 b] 0).run Try.prog w = .ok (.int .u32 a) w := by kernel_rfl
theorem part29' (a b : Int) (w : World) : (part 29 #[.int .u32 a, .int .u32 b] 1).run Try.prog w = .ok (.int .u32 b) w := by kernel_rfl
theorem eq_key (a b c d : Int) (w : World) : (Op.equal 31 (key a b) (key c d)).run Try.prog w = .ok (decide (a = c ∧ b = d)) w := by
  have hf := flds31
  unfold Op.equal key
  rw [show Op.maxDepth = 9998 + 1 + 1 from rfl, Go.run_equalIn_agg _ _ _ _ _ und31 stood31]
  generalize (Try.prog.fieldsOf 31).toList = fs at *
  obtain ⟨f1, r, rfl, h1, hr⟩ := List.map_eq_cons_iff.1 hf
  obtain ⟨f2, r2, rfl, h2, hr2⟩ := List.map_eq_cons_iff.1 hr
  obtain rfl := List.map_eq_nil_iff.1 hr2
  simp only [Prod.mk.injEq] at h1 h2
  obtain ⟨n1, t1, o1⟩ := h1
  obtain ⟨n2, t2, o2⟩ := h2
  have e1 := fun w => Go.run_equalIn_int (P := Try.prog) w 9998 29 .u32 .u32 a c und29
  have e2 := fun w => Go.run_equalIn_int (P := Try.prog) w 9998 29 .u32 .u32 b d und29
  simp only [Op.eqFields, n1, n2, t1, t2, o1, o2]
  by_cases ha : a = c <;> by_cases hb : b = d <;> simp [part29, part29', e1, e2, go_sem, ha, hb]

/-- an entry: a thing, and when its entry was made -/
def ent (x : Th × Nat) : MapEntry := { key := key x.1.v x.1.u, val := thP x.1, born := x.2 }
def TMap (w : World) (m : Nat) (L : List (Th × Nat)) (c : Nat) : Prop := At w m (.map (L.map ent).toArray c)
/-- where the one of an id stands -/
def at? (L : List (Th × Nat)) (v u : Int) : Option (Nat × Th) :=
  match L with
  | [] => none
  | x :: r => if x.1.v = v ∧ x.1.u = u then some (0, x.1) else (at? r v u).map fun y => (y.1 + 1, y.2)
theorem run_asking (L : List (Th × Nat)) (v u : Int) (i : Nat) (w : World) : (Instr.findAsking 31 (key v u) (L.map ent) i).run Try.prog w = .ok ((at? L v u).map fun y => (y.1 + i, thP y.2)) w := by
  induction L generalizing i with
  | nil => rfl
  | cons x r ih =>
    have h := eq_key v u x.1.v x.1.u w
    by_cases e : v = x.1.v ∧ u = x.1.u
    · have e' : x.1.v = v ∧ x.1.u = u := ⟨e.1.symm, e.2.symm⟩
      simp only [List.map_cons, Instr.findAsking, Sem.run_bind, show (ent x).key = key x.1.v x.1.u from rfl, h, Result.andThen_ok, at?, if_pos e', decide_eq_true e]
      simp [go_sem, ent]
    · have e' : ¬ (x.1.v = v ∧ x.1.u = u) := fun k => e ⟨k.1.symm, k.2.symm⟩
      simp only [List.map_cons, Instr.findAsking, Sem.run_bind, show (ent x).key = key x.1.v x.1.u from rfl, h, Result.andThen_ok, at?, if_neg e', decide_eq_false e]
      simp only [Bool.false_eq_true, if_false]
      rw [ih (i + 1)]
      simp only [Option.map_map, Function.comp_def]
      congr 2
      funext y
      simp; omega
theorem run_findKey (L : List (Th × Nat)) (v u : Int) (w : World) : (Instr.findKey 31 (key v u) (L.map ent)).run Try.prog w = .ok ((at? L v u).map fun y => (y.1, thP y.2)) w := by
  have h := run_asking L v u 0 w
  cases L with
  | nil =>
    show (Instr.findKey 31 (key v u) []).run Try.prog w = .ok none w
    kernel_rfl
  | cons x r =>
    simp only [Nat.add_zero] at h
    have hn : Instr.findNow (.struct (Try.prog.fieldsOf 31)) (key v u) ((x :: r).map ent) 0 = none := rfl
    simp only [Instr.findKey, Sem.run_bind, run_underlying und31, Result.andThen_ok, hn]
    exact h
theorem run_checkKey (b : Bool) (v u : Int) (w : World) : (Instr.checkKey b 10000 31 (key v u)).run Try.prog w = .ok () w := by cases b <;> kernel_rfl
theorem zero57 (w : World) : (zeroValue 57).run Try.prog w = .ok (.pointer none) w := by kernel_rfl

/-- the pointer to the one of an id, nil if there is none -/
def ptrOf (L : List (Th × Nat)) (v u : Int) : Value := match at? L v u with | some y => thP y.2 | none => .pointer none
theorem run_look (m c : Nat) (L : List (Th × Nat)) (v u : Int) (w : World) (h : TMap w m L c) : (Instr.lookup 52 (.map (some m)) (key v u) false).run Try.prog w = .ok (ptrOf L v u) w := by
  have hz := zero57 w
  have hk := fun b => run_checkKey b v u w
  have hf := run_findKey L v u w
  unfold TMap At at h
  unfold ptrOf
  cases hq : at? L v u with
  | none =>
    rw [hq] at hf
    simp [Instr.lookup, run_underlying Try.underlying52, getObj, run_getMap _ _ _ _ _ h, hk, hz, hf, go_sem]
  | some y =>
    rw [hq] at hf
    simp [Instr.lookup, run_underlying Try.underlying52, getObj, run_getMap _ _ _ _ _ h, hk, hf, go_sem]
theorem run_put (m c : Nat) (L : List (Th × Nat)) (t : Th) (w : World) (h : TMap w m L c) (hn : at? L t.v t.u = none) :
    (Instr.mapUpdate 52 (.map (some m)) (key t.v t.u) (thP t)).run Try.prog w = .ok () (setMap w m (.map ((L ++ [(t, c)]).map ent).toArray (c + 1))) := by
  have hk := fun b => run_checkKey b t.v t.u w
  have hf := run_findKey L t.v t.u w
  unfold TMap At at h
  rw [hn] at hf
  simp [Instr.mapUpdate, run_underlying Try.underlying52, getObj, setObj, run_getMap _ _ _ _ _ h, run_setMap _ _ _ _ _ _ h, hk, hf, go_sem, ent]
theorem erase_ent (L : List (Th × Nat)) (i : Nat) : (L.map ent).eraseIdx i = (L.eraseIdx i).map ent := by
  induction L generalizing i with
  | nil => rfl
  | cons x r ih => cases i with
    | zero => rfl
    | succ i => simp [ih]
theorem run_del (m c : Nat) (L : List (Th × Nat)) (v u : Int) (i : Nat) (t : Th) (w : World) (h : TMap w m L c) (hq : at? L v u = some (i, t)) :
    (Builtin.delete_ #[52, 31] 0 #[.map (some m), key v u]).run Try.prog w = .ok (.tuple #[]) (setMap w m (.map ((L.eraseIdx i).map ent).toArray c)) := by
  have hk := fun b => run_checkKey b v u w
  have hf := run_findKey L v u w
  unfold TMap At at h
  rw [hq] at hf
  simp [Builtin.delete_, run_underlying Try.underlying52, getObj, setObj, run_getMap _ _ _ _ _ h, run_setMap _ _ _ _ _ _ h, hk, hf, go_sem, erase_ent]
theorem at_none {L : List (Th × Nat)} {v u : Int} : at? L v u = none ↔ ∀ x ∈ L, ¬ (x.1.v = v ∧ x.1.u = u) := by
  induction L with
  | nil => simp [at?]
  | cons x r ih =>
    simp only [at?, List.mem_cons, forall_eq_or_imp]
    split
    · rename_i h; simp [h]
    · rename_i h
      simp only [Option.map_eq_none_iff, ih]
      exact ⟨fun k => ⟨h, k⟩, fun k => k.2⟩
theorem at_some {L : List (Th × Nat)} {v u : Int} {i : Nat} {t : Th} (h : at? L v u = some (i, t)) : ∃ hi : i < L.length, (L[i]).1 = t ∧ t.v = v ∧ t.u = u := by
  induction L generalizing i with
  | nil => simp [at?] at h
  | cons x r ih =>
    simp only [at?] at h
    split at h
    · rename_i e
      cases h
      exact ⟨by simp, rfl, e⟩
    · simp only [Option.map_eq_some_iff, Prod.mk.injEq] at h
      obtain ⟨⟨j, y⟩, hy, rfl, rfl⟩ := h
      obtain ⟨h1, h2⟩ := ih hy
      exact ⟨by simp; omega, by simpa using h2⟩
end Go.Proofs.Ythmnbjdmbajhkaa
