/-
  Several texts of one proof, each in a section of its own: Maps, Disk.
-/
import Derived.Test.YtmnbkhgogogeiaaMg2
import Derived.Deep.MidRow
import Derived.Deep.QuietTactic
namespace Go.Proofs.Ytmnbkhgogogeiaa
section
set_option linter.unusedVariables false
open Go.RowKit

theorem run_getMap {P : Program} {α : Type} (m : Nat) (es : Array MapEntry) (c : Nat) (k : Obj → Sem α) (w : World) (h : w.heap[m]? = some (.map es c)) : (Sem.getObj m k).run P w = (k (.map es c)).run P w := by
  simp only [Sem.run, h]
def setMap (w : World) (m : Nat) (o : Obj) : World := { w with heap := w.heap.setIfInBounds m o }
theorem run_setMap {P : Program} {α : Type} (m : Nat) (es : Array MapEntry) (c : Nat) (o : Obj) (k : Sem α) (w : World) (h : w.heap[m]? = some (.map es c)) : (Sem.setObj m o k).run P w = k.run P (setMap w m o) := by
  simp only [Sem.run, h]
  rfl

/-- an entry: its key, its value, when it was made -/
def ent (x : Int × Int × Nat) : MapEntry := { key := .int .i64 x.1, val := .int .i64 x.2.1, born := x.2.2 }
def IMap (w : World) (m : Nat) (L : List (Int × Int × Nat)) (c : Nat) : Prop := w.heap[m]? = some (.map (L.map ent).toArray c)
/-- where a key stands -/
def at? (L : List (Int × Int × Nat)) (k : Int) : Option (Nat × Int) :=
  match L with
  | [] => none
  | x :: r => if x.1 = k then some (0, x.2.1) else (at? r k).map fun y => (y.1 + 1, y.2)
def get (L : List (Int × Int × Nat)) (k : Int) : Option Int := (at? L k).map (·.2)
def upd (L : List (Int × Int × Nat)) (k v : Int) (c : Nat) : List (Int × Int × Nat) :=
  match at? L k with
  | some (i, _) => L.modify i fun x => (k, v, x.2.2)
  | none => L ++ [(k, v, c)]
def updc (L : List (Int × Int × Nat)) (k : Int) (c : Nat) : Nat := if (at? L k).isSome then c else c + 1

theorem find_ent (L : List (Int × Int × Nat)) (k : Int) (i : Nat) : Instr.findNow (.int .i64) (.int .i64 k) (L.map ent) i = some ((at? L k).map fun y => (y.1 + i, .int .i64 y.2)) := by
  induction L generalizing i with
  | nil => simp [Instr.findNow, at?]
  | cons x r ih =>
    simp only [List.map_cons, Instr.findNow, show (ent x).key = .int .i64 x.1 from rfl, show (ent x).val = .int .i64 x.2.1 from rfl, Instr.sameNow, at?, if_true]
    by_cases h : x.1 = k
    · subst h
      simp
    · have h1 : (k == x.1) = false := by simp; exact fun e => h e.symm
      rw [if_neg h, h1]
      simp only
      rw [ih (i + 1)]
      simp only [Option.map_map, Function.comp_def]
      congr 2
      funext y
      simp; omega

theorem run_findKey (L : List (Int × Int × Nat)) (k : Int) (w : World) : (Instr.findKey 3 (.int .i64 k) (L.map ent)).run Try.prog w = .ok ((at? L k).map fun y => (y.1, .int .i64 y.2)) w := by
  have h := find_ent L k 0
  simp only [Nat.add_zero] at h
  simp [Instr.findKey, Sem.run_bind, run_underlying Try.underlying3, h]

theorem run_checkKey (b : Bool) (k : Int) (w : World) : (Instr.checkKey b 10000 3 (.int .i64 k)).run Try.prog w = .ok () w := by kernel_rfl

theorem zero3 (w : World) : (zeroValue 3).run Try.prog w = .ok (.int .i64 0) w := by kernel_rfl

theorem run_look (m c : Nat) (L : List (Int × Int × Nat)) (k : Int) (w : World) (h : IMap w m L c) :
    (Instr.lookup 60 (.map (some m)) (.int .i64 k) true).run Try.prog w = .ok (.tuple #[.int .i64 ((get L k).getD 0), .bool (get L k).isSome]) w := by
  have hz := zero3 w
  have hk := fun b => run_checkKey b k w
  have hf := run_findKey L k w
  cases hq : at? L k with
  | none =>
    rw [hq] at hf
    simp [Instr.lookup, run_underlying Try.underlying60, getObj, run_getMap _ _ _ _ _ h, hk, hf, go_sem, get, hq]
  | some y =>
    rw [hq] at hf
    simp [Instr.lookup, run_underlying Try.underlying60, getObj, run_getMap _ _ _ _ _ h, hk, hf, go_sem, get, hq]
theorem run_look_nil (k : Int) (w : World) : (Instr.lookup 60 (.map none) (.int .i64 k) true).run Try.prog w = .ok (.tuple #[.int .i64 0, .bool false]) w := by kernel_rfl

theorem at_lt {L : List (Int × Int × Nat)} {k : Int} {i : Nat} {v : Int} (h : at? L k = some (i, v)) : i < L.length ∧ ∀ (hi : i < L.length), (L[i]).1 = k := by
  induction L generalizing i with
  | nil => simp [at?] at h
  | cons x r ih =>
    simp only [at?] at h
    by_cases e : x.1 = k
    · simp [e] at h
      obtain ⟨rfl, _⟩ := h
      exact ⟨by simp, fun _ => by simpa using e⟩
    · rw [if_neg e] at h
      simp only [Option.map_eq_some_iff, Prod.mk.injEq] at h
      obtain ⟨⟨j, u⟩, hy, rfl, rfl⟩ := h
      have := ih hy
      exact ⟨by simp; omega, fun _ => by simpa using this.2 this.1⟩

theorem modify_ent (L : List (Int × Int × Nat)) (i : Nat) (k v : Int) : ((L.map ent).modify i fun e => { e with key := .int .i64 k, val := .int .i64 v }) = (L.modify i fun x => (k, v, x.2.2)).map ent := by
  induction L generalizing i with
  | nil => simp
  | cons x r ih =>
    cases i with
    | zero => simp [ent]
    | succ i => simpa using ih i

theorem run_update (m c : Nat) (L : List (Int × Int × Nat)) (k v : Int) (w : World) (h : IMap w m L c) :
    (Instr.mapUpdate 60 (.map (some m)) (.int .i64 k) (.int .i64 v)).run Try.prog w = .ok () (setMap w m (.map ((upd L k v c).map ent).toArray (updc L k c))) := by
  have hk := fun b => run_checkKey b k w
  have hf := run_findKey L k w
  cases hq : at? L k with
  | none =>
    rw [hq] at hf
    simp [Instr.mapUpdate, run_underlying Try.underlying60, getObj, setObj, run_getMap _ _ _ _ _ h, run_setMap _ _ _ _ _ _ h, hk, hf, go_sem, upd, updc, hq, ent]
  | some y =>
    rw [hq] at hf
    obtain ⟨h1, h2⟩ := at_lt (i := y.1) (v := y.2) hq
    have hs : Instr.sameBits 10000 (Value.int .i64 k) (.int .i64 k) = true := by simp [Instr.sameBits]
    have hg : (Option.map ((fun x => x.key) ∘ ent) L[y.1]?).getD (.int .i64 k) = .int .i64 k := by
      simp [h1, ent, h2 h1]
    have hst : (Instr.keyThatStays (.int .i64 k) (.int .i64 k)).run Try.prog w = .ok (.int .i64 k) w := by simp [Instr.keyThatStays, hs]
    have hm := modify_ent L y.1 k v
    have hset := run_setMap (P := Try.prog) (α := Unit) m _ _ (Obj.map ((List.map ent L).modify y.fst fun e => { key := Value.int IntKind.i64 k, val := Value.int IntKind.i64 v, born := e.born }).toArray c) (Sem.pure ()) w h
    simp [Instr.mapUpdate, run_underlying Try.underlying60, getObj, setObj, run_getMap _ _ _ _ _ h, hk, hf, go_sem, upd, updc, hq]
    rw [hg, hst]
    show Sem.run Try.prog (Sem.setObj m _ (Sem.pure ())) w = _
    rw [hset, hm]
    rfl

theorem get_upd (L : List (Int × Int × Nat)) (k v j : Int) (c : Nat) : get (upd L k v c) j = if j = k then some v else get L j := by
  unfold get upd
  cases hq : at? L k with
  | none =>
    simp only
    induction L with
    | nil =>
      by_cases e : j = k
      · simp [at?, e]
      · have e2 : ¬ k = j := fun h => e h.symm
        simp [at?, e, e2]
    | cons x r ih =>
      simp only [at?] at hq
      by_cases e : x.1 = k
      · simp [e] at hq
      · rw [if_neg e] at hq
        have := ih (by simpa using hq)
        simp only [List.cons_append, at?]
        by_cases e2 : x.1 = j
        · have : ¬ j = k := fun h => e (e2.trans h)
          simp [e2, this]
        · simp only [e2, if_false, Option.map_map, Function.comp_def] at this ⊢
          simpa [Function.comp_def] using this
  | some y =>
    simp only
    induction L generalizing y with
    | nil => simp [at?] at hq
    | cons x r ih =>
      simp only [at?] at hq
      by_cases e : x.1 = k
      · simp [e] at hq
        subst hq
        simp only [List.modify_zero_cons, at?]
        by_cases e2 : j = k
        · simp [e2]
        · have : ¬ k = j := fun h => e2 h.symm
          have h3 : ¬ x.1 = j := fun h => e2 (h.symm.trans e)
          simp [this, h3, e2]
      · rw [if_neg e] at hq
        simp only [Option.map_eq_some_iff] at hq
        obtain ⟨z, hz, rfl⟩ := hq
        have := ih (y := z) hz
        simp only [List.modify_succ_cons, at?]
        by_cases e2 : x.1 = j
        · have : ¬ j = k := fun h => e (e2.trans h)
          simp [e2, this]
        · simp only [e2, if_false, Option.map_map, Function.comp_def] at this ⊢
          simpa [Function.comp_def] using this
end
section
set_option linter.unusedVariables false
open Go.RowKit

/-- the place of the last write to a sector -/
def lastIdx (W : List (Nat × List Nat)) (a : Nat) : Option Nat := ((List.range W.length).filter fun i => decide ((W[i]?.map (·.1)) = some a)).getLast?
theorem lastIdx_nil (a : Nat) : lastIdx [] a = none := by simp [lastIdx]
theorem lastIdx_snoc (W : List (Nat × List Nat)) (x : Nat × List Nat) (a : Nat) : lastIdx (W ++ [x]) a = if x.1 = a then some W.length else lastIdx W a := by
  unfold lastIdx
  rw [List.length_append, List.length_singleton, List.range_succ, List.filter_append]
  have e : ((List.range W.length).filter fun i => decide (((W ++ [x])[i]?.map (·.1)) = some a)) = ((List.range W.length).filter fun i => decide ((W[i]?.map (·.1)) = some a)) := by
    apply List.filter_congr
    intro i hi
    have : i < W.length := List.mem_range.1 hi
    rw [List.getElem?_append_left this]
  rw [e]
  by_cases h : x.1 = a
  · simp [h]
  · simp [h]
theorem lastIdx_some {W : List (Nat × List Nat)} {a i : Nat} (h : lastIdx W a = some i) : ∃ hi : i < W.length, (W[i]).1 = a := by
  unfold lastIdx at h
  have hm := List.mem_of_getLast? h
  simp only [List.mem_filter, List.mem_range, decide_eq_true_eq] at hm
  obtain ⟨h1, h2⟩ := hm
  refine ⟨h1, ?_⟩
  rw [List.getElem?_eq_getElem h1] at h2
  simpa using h2

/-- what a sector shows -/
def shown (S : List (List Nat)) (W : List (Nat × List Nat)) (a : Nat) : List Nat :=
  match lastIdx W a with
  | some i => (W[i]?.map (·.2)).getD []
  | none => S.getD a []

def secs (S : List (List Nat)) : List Value := S.flatMap u8s
def wcell (x : Nat × List Nat) : List Value := .int .i64 (x.1 : Int) :: u8s x.2
def wcells (W : List (Nat × List Nat)) : List Value := W.flatMap wcell

structure Good (S : List (List Nat)) (W : List (Nat × List Nat)) : Prop where
  s64 : ∀ s ∈ S, s.length = 64
  s256 : ∀ s ∈ S, ∀ n ∈ s, n < 256
  w64 : ∀ x ∈ W, x.2.length = 64
  w256 : ∀ x ∈ W, ∀ n ∈ x.2, n < 256
  wat : ∀ x ∈ W, x.1 < S.length
  sl : S.length ≤ 65536
  wl : W.length ≤ 1000000

/-- the map of the last writes' places -/
def LastM (w : World) (mv : Value) (W : List (Nat × List Nat)) : Prop :=
  (mv = .map none ∧ W = []) ∨ ∃ m L c, mv = .map (some m) ∧ IMap w m L c ∧ ∀ a : Nat, get L (a : Int) = (lastIdx W a).map Int.ofNat

/-- a disk's own block -/
def DkV (w : World) (p : Nat) (kv wv mv : Value) (arm : Int) (down : Bool) : Prop := w.heap[p]? = some (.cells #[kv, wv, mv, .int .i64 arm, .bool down] 62 (0, 0))

/-- a disk: its blocks, and what they hold -/
structure Dk (w : World) (O : Nat → Prop) (p : Nat) (kv wv mv : Value) (S : List (List Nat)) (W : List (Nat × List Nat)) (arm : Nat) (down : Bool) : Prop where
  row : DkV w p kv wv mv arm down
  kept : w.ownsRow 0 143 64 kv S.length (secs S)
  waits : w.ownsRow 0 145 65 wv W.length (wcells W)
  last : LastM w mv W
  good : Good S W
  op : O p
  ok : ∀ k, kv.ownBlock = some k → O k
  ow : ∀ k, wv.ownBlock = some k → O k
  om : ∀ k, mv = .map (some k) → O k

theorem DkV.cell0 {w : World} {p : Nat} {kv wv mv : Value} {arm : Int} {down : Bool} (h : DkV w p kv wv mv arm down) : w.cell? ⟨p, 0, none⟩ = some kv := by unfold DkV at h; simp [World.cell?, h]
theorem DkV.cell1 {w : World} {p : Nat} {kv wv mv : Value} {arm : Int} {down : Bool} (h : DkV w p kv wv mv arm down) : w.cell? ⟨p, 1, none⟩ = some wv := by unfold DkV at h; simp [World.cell?, h]
theorem DkV.cell2 {w : World} {p : Nat} {kv wv mv : Value} {arm : Int} {down : Bool} (h : DkV w p kv wv mv arm down) : w.cell? ⟨p, 2, none⟩ = some mv := by unfold DkV at h; simp [World.cell?, h]
theorem DkV.cell3 {w : World} {p : Nat} {kv wv mv : Value} {arm : Int} {down : Bool} (h : DkV w p kv wv mv arm down) : w.cell? ⟨p, 3, none⟩ = some (.int .i64 arm) := by unfold DkV at h; simp [World.cell?, h]
theorem DkV.cell4 {w : World} {p : Nat} {kv wv mv : Value} {arm : Int} {down : Bool} (h : DkV w p kv wv mv arm down) : w.cell? ⟨p, 4, none⟩ = some (.bool down) := by unfold DkV at h; simp [World.cell?, h]
theorem DkV.free {w : World} {p : Nat} {kv wv mv : Value} {arm : Int} {down : Bool} (h : DkV w p kv wv mv arm down) (j : Nat) : w.frozen? ⟨p, j, none⟩ = false := by unfold DkV at h; simp [World.frozen?, h]
theorem DkV.set1 {w : World} {p : Nat} {kv wv mv : Value} {arm : Int} {down : Bool} (h : DkV w p kv wv mv arm down) (v : Value) : DkV (w.setCell ⟨p, 1, none⟩ v) p kv v mv arm down := by unfold DkV at h ⊢; rw [heap_setCell_same w p 1 _ 62 _ h]; rfl
theorem DkV.set2 {w : World} {p : Nat} {kv wv mv : Value} {arm : Int} {down : Bool} (h : DkV w p kv wv mv arm down) (v : Value) : DkV (w.setCell ⟨p, 2, none⟩ v) p kv wv v arm down := by unfold DkV at h ⊢; rw [heap_setCell_same w p 2 _ 62 _ h]; rfl
theorem DkV.set3 {w : World} {p : Nat} {kv wv mv : Value} {arm : Int} {down : Bool} (h : DkV w p kv wv mv arm down) (v : Int) : DkV (w.setCell ⟨p, 3, none⟩ (.int .i64 v)) p kv wv mv v down := by unfold DkV at h ⊢; rw [heap_setCell_same w p 3 _ 62 _ h]; rfl
theorem DkV.set4 {w : World} {p : Nat} {kv wv mv : Value} {arm : Int} {down : Bool} (h : DkV w p kv wv mv arm down) (v : Bool) : DkV (w.setCell ⟨p, 4, none⟩ (.bool v)) p kv wv mv arm v := by unfold DkV at h ⊢; rw [heap_setCell_same w p 4 _ 62 _ h]; rfl
theorem DkV.beside {w w' : World} {p : Nat} {kv wv mv : Value} {arm : Int} {down : Bool} {own : Nat → Prop} (h : DkV w p kv wv mv arm down) (hb : Beside own w w') (hn : ¬ own p) : DkV w' p kv wv mv arm down := by
  unfold DkV at h ⊢
  rw [hb.block p (lt_of_block h) hn, h]

theorem ownsRow_beside {w w' : World} {B : Nat} {e : TypeId} {sz : Nat} {v : Value} {n : Nat} {xs : List Value} {own : Nat → Prop} (h : w.ownsRow B e sz v n xs) (hb : Beside own w w') (hn : ∀ k, v.ownBlock = some k → ¬ own k) : w'.ownsRow B e sz v n xs := by
  refine ⟨h.1, ?_⟩
  rcases h.2 with h2 | ⟨g, cap, cur, rfl, hg, hh, r⟩
  · exact .inl h2
  · exact .inr ⟨g, cap, cur, rfl, hg, by rw [hb.block g (lt_of_block hh) (hn g rfl)]; exact hh, r⟩

theorem IMap.lt {w : World} {m : Nat} {L : List (Int × Int × Nat)} {c : Nat} (h : IMap w m L c) : m < w.heap.size := (Array.getElem?_eq_some_iff.1 h).1
theorem IMap.beside {w w' : World} {m : Nat} {L : List (Int × Int × Nat)} {c : Nat} {own : Nat → Prop} (h : IMap w m L c) (hb : Beside own w w') (hn : ¬ own m) : IMap w' m L c := by
  have hl := h.lt
  unfold IMap at h ⊢
  rw [hb.block m hl hn, h]
theorem LastM.beside {w w' : World} {mv : Value} {W : List (Nat × List Nat)} {own : Nat → Prop} (h : LastM w mv W) (hb : Beside own w w') (hn : ∀ k, mv = .map (some k) → ¬ own k) : LastM w' mv W := by
  rcases h with h | ⟨m, L, c, e, hm, hl⟩
  · exact .inl h
  · exact .inr ⟨m, L, c, e, hm.beside hb (hn m e), hl⟩
theorem Dk.beside {w w' : World} {O own : Nat → Prop} {p : Nat} {kv wv mv : Value} {S : List (List Nat)} {W : List (Nat × List Nat)} {arm : Nat} {down : Bool} (h : Dk w O p kv wv mv S W arm down) (hb : Beside own w w') (hn : ∀ k, O k → ¬ own k) : Dk w' O p kv wv mv S W arm down :=
  ⟨h.row.beside hb (hn _ h.op), ownsRow_beside h.kept hb (fun k hk => hn k (h.ok k hk)), ownsRow_beside h.waits hb (fun k hk => hn k (h.ow k hk)), h.last.beside hb (fun k hk => hn k (h.om k hk)), h.good, h.op, h.ok, h.ow, h.om⟩

/-- another type's block -/
theorem ne_of_type {w : World} {p g : Nat} {cs ds : Array Value} {s t : TypeId} {fr fr' : Nat × Nat} (h : w.heap[p]? = some (.cells cs s fr)) (k : w.heap[g]? = some (.cells ds t fr')) (hst : s ≠ t) : g ≠ p := by
  rintro rfl
  rw [h] at k
  simp at k
  exact hst k.2.1
theorem ownsRow_ne {w : World} {B : Nat} {e : TypeId} {sz : Nat} {v : Value} {n : Nat} {xs : List Value} (h : w.ownsRow B e sz v n xs) {p : Nat} {cs : Array Value} {s : TypeId} {fr : Nat × Nat} (hp : w.heap[p]? = some (.cells cs s fr)) (hst : s ≠ e) : ∀ k, v.ownBlock = some k → k ≠ p := by
  intro k hk
  rcases h.2 with ⟨rfl, _⟩ | ⟨g, cap, cur, rfl, _, hh, _⟩
  · cases hk
  · simp [Value.ownBlock] at hk
    subst hk
    exact ne_of_type hp hh hst

theorem ready_nil (w : World) : Calls Try.prog 88 #[.pointer none] w fun e w' => e = .returned (.int .i64 2) ∧ w = w' := by
  go_enter Try.func88, Try.ntmps88
  go_wp2_with fail
  go_ret
  exact ⟨rfl, rfl⟩
theorem ready_ok {w : World} {p : Nat} {kv wv mv : Value} {arm : Int} {down : Bool} (h : DkV w p kv wv mv arm down) : Calls Try.prog 88 #[.pointer (some ⟨p, 0, none⟩)] w fun e w' => e = .returned (.int .i64 (if down then 3 else 0)) ∧ w = w' := by
  have c4 := h.cell4
  cases down
  all_goals
    go_enter Try.func88, Try.ntmps88
    go_wp2_with fail
    go_ret
    exact ⟨rfl, rfl⟩

def hasB (n : Nat) (a : Int) : Bool := decide (0 ≤ a ∧ a < n)
theorem has_ok {w : World} {p : Nat} {ko : Option Addr} {n kc : Nat} {wv mv : Value} {arm : Int} {down : Bool} (h : DkV w p (.slice ko n kc) wv mv arm down) (a : Int) (hn : n ≤ 65536) : Calls Try.prog 97 #[.pointer (some ⟨p, 0, none⟩), .int .i64 a] w fun e w' => e = .returned (.bool (hasB n a)) ∧ w = w' := by
  have c0 := h.cell0
  by_cases h0 : 0 ≤ a
  · go_enter Try.func97, Try.ntmps97
    go_wp2_with fail
    go_ret
    exact ⟨ret_eq (by simp [hasB, h0]), rfl⟩
  · go_enter Try.func97, Try.ntmps97
    go_wp2_with fail
    go_ret
    exact ⟨ret_eq (by simp [hasB]; omega), rfl⟩

/-- what a call that would be done makes of what is armed -/
def hitOf (arm : Nat) : Nat × Bool := if arm = 0 then (0, false) else (arm - 1, decide (arm = 1))
theorem hit_ok {w : World} {p : Nat} {kv wv mv : Value} {arm : Nat} (h : DkV w p kv wv mv arm false) (ha : arm ≤ 9223372036854775807) : Calls Try.prog 89 #[.pointer (some ⟨p, 0, none⟩)] w fun e w' => e = .returned (.bool (hitOf arm).2) ∧ DkV w' p kv wv mv (hitOf arm).1 (hitOf arm).2 ∧ Beside (· = p) w w' := by
  have c3 := h.cell3
  have c4 := h.cell4
  have f3 := h.free 3
  have f4 := h.free 4
  have H := Lib.hid h
  clear h
  by_cases h0 : arm = 0
  · subst h0
    go_enter Try.func89, Try.ntmps89
    go_wp2_with fail
    go_ret
    exact ⟨rfl, H.out, Beside.refl _ _⟩
  · by_cases h1 : arm = 1
    · subst h1
      go_enter Try.func89, Try.ntmps89
      go_wp2_with fail
      go_ret
      exact ⟨rfl, (H.out.set3 0).set4 true, ((Beside.refl _ _).set _).set _⟩
    · have n0 : ((arm : Int) == 0) = false := by simp; omega
      have n1 : ((arm : Int) - 1 == 0) = false := by simp; omega
      have e : hitOf arm = (arm - 1, false) := by simp [hitOf, h0, h1]
      rw [e]
      go_enter Try.func89, Try.ntmps89
      go_wp2_with fail
      go_ret
      refine ⟨rfl, ?_, (Beside.refl _ _).set _⟩
      have := H.out.set3 ((arm - 1 : Nat) : Int)
      rw [show ((arm - 1 : Nat) : Int) = (arm : Int) - 1 from by omega] at this ⊢
      exact this

theorem forget_ok {w : World} {p : Nat} {kv wv mv : Value} {arm : Int} {down : Bool} (h : DkV w p kv wv mv arm down) : Calls Try.prog 90 #[.pointer (some ⟨p, 0, none⟩)] w fun e w' => e = .returned (.tuple #[]) ∧ DkV w' p kv (.slice none 0 0) (.map none) arm down ∧ Beside (· = p) w w' := by
  have c1 := h.cell1
  have c2 := h.cell2
  have f1 := h.free 1
  have f2 := h.free 2
  have H := Lib.hid h
  clear h
  go_enter Try.func90, Try.ntmps90
  go_wp2_with fail
  go_end0
  exact ⟨rfl, (H.out.set1 _).set2 _, ((Beside.refl _ _).set _).set _⟩

/-- waits and last are gone -/
theorem Dk.forgot {w w' : World} {O : Nat → Prop} {p : Nat} {kv wv mv : Value} {S : List (List Nat)} {W : List (Nat × List Nat)} {arm a' : Nat} {down d' : Bool} (h : Dk w O p kv wv mv S W arm down) (hv : DkV w' p kv (.slice none 0 0) (.map none) a' d') (hb : Beside (· = p) w w') : Dk w' O p kv (.slice none 0 0) (.map none) S [] a' d' :=
  ⟨hv, ownsRow_beside h.kept hb (fun k hk => ownsRow_ne h.kept h.row (by decide) k hk), World.ownsRow_nil _ _ _ _, .inl ⟨rfl, rfl⟩, ⟨h.good.s64, h.good.s256, by simp, by simp, by simp, h.good.sl, by simp⟩, h.op, h.ok, by simp [Value.ownBlock], by simp⟩
/-- the numbers in its own block alone have changed -/
theorem Dk.turned {w w' : World} {O : Nat → Prop} {p : Nat} {kv wv mv : Value} {S : List (List Nat)} {W : List (Nat × List Nat)} {arm a' : Nat} {down d' : Bool} (h : Dk w O p kv wv mv S W arm down) (hv : DkV w' p kv wv mv a' d') (hb : Beside (· = p) w w') : Dk w' O p kv wv mv S W a' d' :=
  ⟨hv, ownsRow_beside h.kept hb (fun k hk => ownsRow_ne h.kept h.row (by decide) k hk), ownsRow_beside h.waits hb (fun k hk => ownsRow_ne h.waits h.row (by decide) k hk), h.last.beside hb (fun k hk e => by
    subst e
    rcases h.last with ⟨e2, _⟩ | ⟨m, L, c, e2, hm, _⟩
    · rw [hk] at e2; cases e2
    · rw [hk] at e2; cases e2
      have := h.row; unfold DkV at this; unfold IMap at hm; rw [this] at hm; simp at hm), h.good, h.op, h.ok, h.ow, h.om⟩

/-- what a call leaves of a disk -/
def DkEnd (w : World) (O : Nat → Prop) (p : Nat) (kv : Value) (S : List (List Nat)) (W : List (Nat × List Nat)) (arm : Nat) (down : Bool) (v : Value) (e : Ending) (w' : World) : Prop :=
  ∃ wv' mv' O', e = .returned v ∧ Dk w' O' p kv wv' mv' S W arm down ∧ Beside O w w' ∧ (∀ k, O' k → O k ∨ (w.heap.size ≤ k ∧ k < w'.heap.size))

theorem Beside.ofOne {O : Nat → Prop} {p : Nat} {a b : World} (h : Beside (· = p) a b) (hp : O p) : Beside O a b := h.mono (fun k _ e => e ▸ hp)

theorem down_ok {w : World} {O : Nat → Prop} {p : Nat} {kv wv mv : Value} {S : List (List Nat)} {W : List (Nat × List Nat)} {arm : Nat} {down : Bool} (h : Dk w O p kv wv mv S W arm down) :
    Calls Try.prog 46 #[.pointer (some ⟨p, 0, none⟩)] w fun e w' => e = .returned (.bool down) ∧ w = w' := by
  have c4 := h.row.cell4
  clear h
  go_enter Try.func46, Try.ntmps46
  go_wp2_with fail
  go_ret
  exact ⟨rfl, rfl⟩

theorem write_nil (a : Int) (v : Value) (w : World) : Calls Try.prog 95 #[.pointer none, .int .i64 a, v] w fun e w' => e = .returned (.int .i64 2) ∧ w = w' := by
  go_enter Try.func95, Try.ntmps95
  go_wp2_with fail
  refine (ready_nil _).mono ?_
  rintro e w1 ⟨rfl, rfl⟩
  go_wp2_with fail
  go_ret
  exact ⟨rfl, rfl⟩
theorem read_nil (a : Int) (w : World) : Calls Try.prog 75 #[.pointer none, .int .i64 a] w fun e w' => e = .returned (.tuple #[.slice none 0 0, .int .i64 2]) ∧ w = w' := by
  go_enter Try.func75, Try.ntmps75
  go_wp2_with fail
  refine (ready_nil _).mono ?_
  rintro e w1 ⟨rfl, rfl⟩
  go_wp2_with fail
  exact bodyPost_ret (v := .tuple #[.slice none 0 0, .int .i64 2]) (by simp [results, Try.results75, go_sem]) rfl ⟨rfl, rfl⟩
theorem flush_nil (w : World) : Calls Try.prog 61 #[.pointer none] w fun e w' => e = .returned (.int .i64 2) ∧ w = w' := by
  go_enter Try.func61, Try.ntmps61
  go_wp2_with fail
  refine (ready_nil _).mono ?_
  rintro e w1 ⟨rfl, rfl⟩
  go_wp2_with fail
  go_ret
  exact ⟨rfl, rfl⟩
theorem down_nil (w : World) : Calls Try.prog 46 #[.pointer none] w fun e w' => e = .returned (.bool false) ∧ w = w' := by
  go_enter Try.func46, Try.ntmps46
  go_wp2_with fail
  go_ret
  exact ⟨rfl, rfl⟩
theorem size_nil (w : World) : Calls Try.prog 26 #[.pointer none] w fun e w' => e = .returned (.int .i64 0) ∧ w = w' := by
  go_enter Try.func26, Try.ntmps26
  go_wp2_with fail
  go_ret
  exact ⟨rfl, rfl⟩
end
end Go.Proofs.Ytmnbkhgogogeiaa
