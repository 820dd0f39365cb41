/-
  thing and forget, whatever the shelf holds.
-/
import Derived.Test.YthmnbjdmbajhkaaMapAny
import Derived.Test.YthmnbjdmbajhkaaEvict
namespace Go.Proofs.Ythmnbjdmbajhkaa
set_option linter.unusedVariables false
open Go.RowKit
attribute [local go_sem] Oper.semAt_some

theorem Beside.setMap {own : Nat → Prop} {a w : World} (h : Beside own a w) {q : Nat} (hq : own q ∨ a.heap.size ≤ q) (o : Obj) : Beside own a (setMap w q o) :=
  ⟨h.os, h.tape, h.output, by rw [setMap_size]; exact h.size, fun i hi hn => by
    refine Eq.trans ?_ (h.block i hi hn)
    unfold Go.Proofs.Ythmnbjdmbajhkaa.setMap
    simp only
    rw [Array.getElem?_setIfInBounds_ne (by rintro rfl; rcases hq with hq | hq; exact hn hq; omega)]⟩

set_option maxHeartbeats 1000000 in
theorem thing_any (p m c : Nat) (E : List (Th × Nat)) (cs : Array Value) (v u : Int) (w : World) (hp : At w p (.cells cs 56 (0, 0))) (h2 : cs[2]? = some (.map (some m))) (hm : TMap w m E c) :
    Calls Try.prog 21 #[.pointer (some ⟨p, 0, none⟩), key v u] w fun e w' => e = .returned (ptrOf E v u) ∧ Below w.heap.size w w' := by
  have c2 := hp.cell 2 _ h2
  have hpl := hp.lt
  have hml : m < w.heap.size := At.lt hm
  have hne : p ≠ w.heap.size := by omega
  have hl2 : ∀ n, (Instr.lookup 52 (.map (some m)) (.agg #[.int .u32 v, .int .u32 u]) false).run Try.prog ((w.alloc (.cells #[.int .u32 v, .int .u32 u] 31)).drewN n) = .ok (ptrOf E v u) ((w.alloc (.cells #[.int .u32 v, .int .u32 u] 31)).drewN n) := fun n => run_look m c E v u _ (by
    show (w.alloc (.cells #[.int .u32 v, .int .u32 u] 31)).heap[m]? = _
    exact (((Below.refl w.heap.size w).alloc (Nat.le_refl _) _).block m hml).trans hm)
  generalize ptrOf E v u = r at *
  clear hp hm h2
  unfold key
  go_enter Try.func21, Try.ntmps21
  go_wp2_with fail
  go_quiet (fail)
  go_wp2_with fail
  go_ret
  exact ⟨rfl, below_drewN ((Below.refl _ _).alloc (Nat.le_refl _) _) _⟩

theorem run_del' (m c : Nat) (ty : TypeId) (L : List (Th × Nat)) (v u : Int) (i : Nat) (t : Th) (w : World) (h : TMap w m L c) (hq : at? L v u = some (i, t)) :
    (Builtin.delete_ #[52, 31] ty #[.map (some m), key v u]).run Try.prog w = .ok (.tuple #[]) (setMap w m (.map ((L.eraseIdx i).map ent).toArray c)) := by
  have hk := fun b => run_checkKey b v u w
  have hf := run_findKey L v u w
  unfold TMap At at h
  rw [hq] at hf
  simp [Builtin.delete_, run_underlying Try.underlying52, getObj, setObj, run_getMap _ _ _ _ _ h, run_setMap _ _ _ _ _ _ h, hk, hf, go_sem, erase_ent]

set_option maxRecDepth 100000 in
set_option maxHeartbeats 4000000 in
theorem forget_any (p m c i : Nat) (b sz pl : Int) (sl : Value) (E : List (Th × Nat)) (t y : Th) (w : World) (hp : At w p (.cells #[.int .i64 b, .int .i64 sz, .map (some m), sl] 56 (0, 0)))
    (hm : TMap w m E c) (hq : at? E t.v t.u = some (i, y)) (ht : At w t.blk (.cells (thC t pl) 60 (0, 0))) (hw : IntKind.i64.wrap (sz - t.size) = sz - t.size) :
    Calls Try.prog 25 #[.pointer (some ⟨p, 0, none⟩), .pointer (some ⟨t.blk, 0, none⟩)] w fun e w' => e = .returned (.tuple #[]) ∧ At w' p (.cells #[.int .i64 b, .int .i64 (sz - t.size), .map (some m), sl] 56 (0, 0)) ∧ TMap w' m (E.eraseIdx i) c ∧ Beside (fun k => k = p ∨ k = m) w w' := by
  have hpm : p ≠ m := by
    rintro rfl
    have h := hp.symm.trans hm
    cases h
  have hpt : p ≠ t.blk := by
    intro e
    rw [← e] at ht
    have h := hp.symm.trans ht
    simp at h
  have htm : t.blk ≠ m := by
    intro e
    rw [e] at ht
    have h := ht.symm.trans hm
    cases h
  have HPP := Lib.hid hp
  have HM := Lib.hid hm
  have HT := Lib.hid ht
  have c2 := hp.cell 2 (.map (some m)) rfl
  obtain ⟨t0, t1, -⟩ := thC_at ht
  have hdel := fun ty => run_del' m c ty E t.v t.u i y w.drew hm hq
  unfold key at hdel
  have HPS : Hid (At (setMap w.drew m (.map ((E.eraseIdx i).map ent).toArray c)) p (.cells #[.int .i64 b, .int .i64 sz, .map (some m), sl] 56 (0, 0))) := Lib.hid (At.otherMap (w := w.drew) hp hpm)
  have HTS : Hid (At (setMap w.drew m (.map ((E.eraseIdx i).map ent).toArray c)) t.blk (.cells (thC t pl) 60 (0, 0))) := Lib.hid (At.otherMap (w := w.drew) ht htm)
  have HMS : Hid (TMap (setMap w.drew m (.map ((E.eraseIdx i).map ent).toArray c)) m (E.eraseIdx i) c) := Lib.hid (At.putMap (w := w.drew) hm)
  have HBS : Hid (Beside (fun k => k = p ∨ k = m) w (setMap w.drew m (.map ((E.eraseIdx i).map ent).toArray c))) := Lib.hid ((Beside.refl _ w).drew.setMap (.inl (.inr rfl)) _)
  have s2 := HPS.out.cell 2 (.map (some m)) rfl
  obtain ⟨s0, s1, -⟩ := thC_at HTS.out
  clear hp hm ht
  go_enter Try.func25, Try.ntmps25
  go_wp2_with fail
  go_region_held3 (fun w' => w'.cell? ⟨p, 2, none⟩ = some (.map (some m)) ∧ w'.cell? ⟨t.blk, 0, none⟩ = some (.int .u32 t.v) ∧ w'.cell? ⟨t.blk, 1, none⟩ = some (.int .u32 t.u)) (first | with_reducible exact ⟨c2, t0, t1⟩ | with_reducible exact ⟨s2, s0, s1⟩ | go_keep) (fail)
  clear c2 t0 t1 s2 s0 s1 hdel
  generalize setMap w.drew m (.map ((E.eraseIdx i).map ent).toArray c) = w2 at *
  have c1 := HPS.out.cell 1 (.int .i64 sz) rfl
  have f1 := HPS.out.froz 1
  obtain ⟨-, -, t2, -⟩ := thC_at HTS.out
  have hpt' : t.blk ≠ p := hpt.symm
  go_wp2_with fail
  go_region
  all_goals
    go_wp2_with fail
    exact bodyPost_end (v := .tuple #[]) (by simp [results, Try.results25, go_sem]) rfl ⟨rfl, HPS.out.set 1 (.int .i64 (sz - t.size)), At.other HMS.out hpm.symm, (HBS.out.setCell (p := ⟨p, 1, none⟩) (.inl (.inl rfl)) _).drew⟩
end Go.Proofs.Ythmnbjdmbajhkaa
