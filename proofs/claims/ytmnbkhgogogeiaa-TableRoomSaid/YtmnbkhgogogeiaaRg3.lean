/-
  Several texts of one proof, each in a section of its own: Disk, New.
-/
import Derived.Test.YtmnbkhgogogeiaaRg2
import Derived.Deep.MidRow
import Derived.Deep.QuietTactic
import Derived.Deep.Onto
import Derived.Deep.WholeRow
namespace Go.Proofs.Ytmnbkhgogogeiaa
section
set_option linter.unusedVariables false
open Go.RowKit

/-- the place of the last write to a sector -/
def lastIdx (W : List (Nat × List Nat)) (a : Nat) : Option Nat := ((List.range W.length).filter fun i => decide ((W[i]?.map (·.1)) = some a)).getLast?
theorem lastIdx_nil (a : Nat) : lastIdx [] a = none := by simp [lastIdx]
theorem lastIdx_snoc (W : List (Nat × List Nat)) (x : Nat × List Nat) (a : Nat) : lastIdx (W ++ [x]) a = if x.1 = a then some W.length else lastIdx W a := by
  unfold lastIdx
  rw [List.length_append, List.length_singleton, List.range_succ, List.filter_append]
  have e : ((List.range W.length).filter fun i => decide (((W ++ [x])[i]?.map (·.1)) = some a)) = ((List.range W.length).filter fun i => decide ((W[i]?.map (·.1)) = some a)) := by
    apply List.filter_congr
    intro i hi
    have : i < W.length := List.mem_range.1 hi
    rw [List.getElem?_append_left this]
  rw [e]
  by_cases h : x.1 = a
  · simp [h]
  · simp [h]
theorem lastIdx_some {W : List (Nat × List Nat)} {a i : Nat} (h : lastIdx W a = some i) : ∃ hi : i < W.length, (W[i]).1 = a := by
  unfold lastIdx at h
  have hm := List.mem_of_getLast? h
  simp only [List.mem_filter, List.mem_range, decide_eq_true_eq] at hm
  obtain ⟨h1, h2⟩ := hm
  refine ⟨h1, ?_⟩
  rw [List.getElem?_eq_getElem h1] at h2
  simpa using h2

/-- what a sector shows -/
def shown (S : List (List Nat)) (W : List (Nat × List Nat)) (a : Nat) : List Nat :=
  match lastIdx W a with
  | some i => (W[i]?.map (·.2)).getD []
  | none => S.getD a []

def secs (S : List (List Nat)) : List Value := S.flatMap u8s
def wcell (x : Nat × List Nat) : List Value := .int .i64 (x.1 : Int) :: u8s x.2
def wcells (W : List (Nat × List Nat)) : List Value := W.flatMap wcell

structure Good (S : List (List Nat)) (W : List (Nat × List Nat)) : Prop where
  s64 : ∀ s ∈ S, s.length = 64
  s256 : ∀ s ∈ S, ∀ n ∈ s, n < 256
  w64 : ∀ x ∈ W, x.2.length = 64
  w256 : ∀ x ∈ W, ∀ n ∈ x.2, n < 256
  wat : ∀ x ∈ W, x.1 < S.length
  sl : S.length ≤ 65536
  wl : W.length ≤ 1000000

/-- the map of the last writes' places -/
def LastM (w : World) (mv : Value) (W : List (Nat × List Nat)) : Prop :=
  (mv = .map none ∧ W = []) ∨ ∃ m L c, mv = .map (some m) ∧ IMap w m L c ∧ ∀ a : Nat, get L (a : Int) = (lastIdx W a).map Int.ofNat

/-- a disk's own block -/
def DkV (w : World) (p : Nat) (kv wv mv : Value) (arm : Int) (down : Bool) : Prop := w.heap[p]? = some (.cells #[kv, wv, mv, .int .i64 arm, .bool down] 62 (0, 0))

/-- a disk: its blocks, and what they hold -/
structure Dk (w : World) (O : Nat → Prop) (p : Nat) (kv wv mv : Value) (S : List (List Nat)) (W : List (Nat × List Nat)) (arm : Nat) (down : Bool) : Prop where
  row : DkV w p kv wv mv arm down
  kept : w.ownsRow 0 143 64 kv S.length (secs S)
  waits : w.ownsRow 0 145 65 wv W.length (wcells W)
  last : LastM w mv W
  good : Good S W
  op : O p
  ok : ∀ k, kv.ownBlock = some k → O k
  ow : ∀ k, wv.ownBlock = some k → O k
  om : ∀ k, mv = .map (some k) → O k

theorem DkV.cell0 {w : World} {p : Nat} {kv wv mv : Value} {arm : Int} {down : Bool} (h : DkV w p kv wv mv arm down) : w.cell? ⟨p, 0, none⟩ = some kv := by unfold DkV at h; simp [World.cell?, h]
theorem DkV.cell1 {w : World} {p : Nat} {kv wv mv : Value} {arm : Int} {down : Bool} (h : DkV w p kv wv mv arm down) : w.cell? ⟨p, 1, none⟩ = some wv := by unfold DkV at h; simp [World.cell?, h]
theorem DkV.cell2 {w : World} {p : Nat} {kv wv mv : Value} {arm : Int} {down : Bool} (h : DkV w p kv wv mv arm down) : w.cell? ⟨p, 2, none⟩ = some mv := by unfold DkV at h; simp [World.cell?, h]
theorem DkV.cell3 {w : World} {p : Nat} {kv wv mv : Value} {arm : Int} {down : Bool} (h : DkV w p kv wv mv arm down) : w.cell? ⟨p, 3, none⟩ = some (.int .i64 arm) := by unfold DkV at h; simp [World.cell?, h]
theorem DkV.cell4 {w : World} {p : Nat} {kv wv mv : Value} {arm : Int} {down : Bool} (h : DkV w p kv wv mv arm down) : w.cell? ⟨p, 4, none⟩ = some (.bool down) := by unfold DkV at h; simp [World.cell?, h]
theorem DkV.free {w : World} {p : Nat} {kv wv mv : Value} {arm : Int} {down : Bool} (h : DkV w p kv wv mv arm down) (j : Nat) : w.frozen? ⟨p, j, none⟩ = false := by unfold DkV at h; simp [World.frozen?, h]
theorem DkV.set1 {w : World} {p : Nat} {kv wv mv : Value} {arm : Int} {down : Bool} (h : DkV w p kv wv mv arm down) (v : Value) : DkV (w.setCell ⟨p, 1, none⟩ v) p kv v mv arm down := by unfold DkV at h ⊢; rw [heap_setCell_same w p 1 _ 62 _ h]; rfl
theorem DkV.set2 {w : World} {p : Nat} {kv wv mv : Value} {arm : Int} {down : Bool} (h : DkV w p kv wv mv arm down) (v : Value) : DkV (w.setCell ⟨p, 2, none⟩ v) p kv wv v arm down := by unfold DkV at h ⊢; rw [heap_setCell_same w p 2 _ 62 _ h]; rfl
theorem DkV.set3 {w : World} {p : Nat} {kv wv mv : Value} {arm : Int} {down : Bool} (h : DkV w p kv wv mv arm down) (v : Int) : DkV (w.setCell ⟨p, 3, none⟩ (.int .i64 v)) p kv wv mv v down := by unfold DkV at h ⊢; rw [heap_setCell_same w p 3 _ 62 _ h]; rfl
theorem DkV.set4 {w : World} {p : Nat} {kv wv mv : Value} {arm : Int} {down : Bool} (h : DkV w p kv wv mv arm down) (v : Bool) : DkV (w.setCell ⟨p, 4, none⟩ (.bool v)) p kv wv mv arm v := by unfold DkV at h ⊢; rw [heap_setCell_same w p 4 _ 62 _ h]; rfl
theorem DkV.beside {w w' : World} {p : Nat} {kv wv mv : Value} {arm : Int} {down : Bool} {own : Nat → Prop} (h : DkV w p kv wv mv arm down) (hb : Beside own w w') (hn : ¬ own p) : DkV w' p kv wv mv arm down := by
  unfold DkV at h ⊢
  rw [hb.block p (lt_of_block h) hn, h]

theorem ownsRow_beside {w w' : World} {B : Nat} {e : TypeId} {sz : Nat} {v : Value} {n : Nat} {xs : List Value} {own : Nat → Prop} (h : w.ownsRow B e sz v n xs) (hb : Beside own w w') (hn : ∀ k, v.ownBlock = some k → ¬ own k) : w'.ownsRow B e sz v n xs := by
  refine ⟨h.1, ?_⟩
  rcases h.2 with h2 | ⟨g, cap, cur, rfl, hg, hh, r⟩
  · exact .inl h2
  · exact .inr ⟨g, cap, cur, rfl, hg, by rw [hb.block g (lt_of_block hh) (hn g rfl)]; exact hh, r⟩

theorem IMap.lt {w : World} {m : Nat} {L : List (Int × Int × Nat)} {c : Nat} (h : IMap w m L c) : m < w.heap.size := (Array.getElem?_eq_some_iff.1 h).1
theorem IMap.beside {w w' : World} {m : Nat} {L : List (Int × Int × Nat)} {c : Nat} {own : Nat → Prop} (h : IMap w m L c) (hb : Beside own w w') (hn : ¬ own m) : IMap w' m L c := by
  have hl := h.lt
  unfold IMap at h ⊢
  rw [hb.block m hl hn, h]
theorem LastM.beside {w w' : World} {mv : Value} {W : List (Nat × List Nat)} {own : Nat → Prop} (h : LastM w mv W) (hb : Beside own w w') (hn : ∀ k, mv = .map (some k) → ¬ own k) : LastM w' mv W := by
  rcases h with h | ⟨m, L, c, e, hm, hl⟩
  · exact .inl h
  · exact .inr ⟨m, L, c, e, hm.beside hb (hn m e), hl⟩
theorem Dk.beside {w w' : World} {O own : Nat → Prop} {p : Nat} {kv wv mv : Value} {S : List (List Nat)} {W : List (Nat × List Nat)} {arm : Nat} {down : Bool} (h : Dk w O p kv wv mv S W arm down) (hb : Beside own w w') (hn : ∀ k, O k → ¬ own k) : Dk w' O p kv wv mv S W arm down :=
  ⟨h.row.beside hb (hn _ h.op), ownsRow_beside h.kept hb (fun k hk => hn k (h.ok k hk)), ownsRow_beside h.waits hb (fun k hk => hn k (h.ow k hk)), h.last.beside hb (fun k hk => hn k (h.om k hk)), h.good, h.op, h.ok, h.ow, h.om⟩

/-- another type's block -/
theorem ne_of_type {w : World} {p g : Nat} {cs ds : Array Value} {s t : TypeId} {fr fr' : Nat × Nat} (h : w.heap[p]? = some (.cells cs s fr)) (k : w.heap[g]? = some (.cells ds t fr')) (hst : s ≠ t) : g ≠ p := by
  rintro rfl
  rw [h] at k
  simp at k
  exact hst k.2.1
theorem ownsRow_ne {w : World} {B : Nat} {e : TypeId} {sz : Nat} {v : Value} {n : Nat} {xs : List Value} (h : w.ownsRow B e sz v n xs) {p : Nat} {cs : Array Value} {s : TypeId} {fr : Nat × Nat} (hp : w.heap[p]? = some (.cells cs s fr)) (hst : s ≠ e) : ∀ k, v.ownBlock = some k → k ≠ p := by
  intro k hk
  rcases h.2 with ⟨rfl, _⟩ | ⟨g, cap, cur, rfl, _, hh, _⟩
  · cases hk
  · simp [Value.ownBlock] at hk
    subst hk
    exact ne_of_type hp hh hst

theorem ready_nil (w : World) : Calls Try.prog 88 #[.pointer none] w fun e w' => e = .returned (.int .i64 2) ∧ w = w' := by
  go_enter Try.func88, Try.ntmps88
  go_wp2_with fail
  go_ret
  exact ⟨rfl, rfl⟩
theorem ready_ok {w : World} {p : Nat} {kv wv mv : Value} {arm : Int} {down : Bool} (h : DkV w p kv wv mv arm down) : Calls Try.prog 88 #[.pointer (some ⟨p, 0, none⟩)] w fun e w' => e = .returned (.int .i64 (if down then 3 else 0)) ∧ w = w' := by
  have c4 := h.cell4
  cases down
  all_goals
    go_enter Try.func88, Try.ntmps88
    go_wp2_with fail
    go_ret
    exact ⟨rfl, rfl⟩

def hasB (n : Nat) (a : Int) : Bool := decide (0 ≤ a ∧ a < n)
theorem has_ok {w : World} {p : Nat} {ko : Option Addr} {n kc : Nat} {wv mv : Value} {arm : Int} {down : Bool} (h : DkV w p (.slice ko n kc) wv mv arm down) (a : Int) (hn : n ≤ 65536) : Calls Try.prog 97 #[.pointer (some ⟨p, 0, none⟩), .int .i64 a] w fun e w' => e = .returned (.bool (hasB n a)) ∧ w = w' := by
  have c0 := h.cell0
  by_cases h0 : 0 ≤ a
  · go_enter Try.func97, Try.ntmps97
    go_wp2_with fail
    go_ret
    exact ⟨ret_eq (by simp [hasB, h0]), rfl⟩
  · go_enter Try.func97, Try.ntmps97
    go_wp2_with fail
    go_ret
    exact ⟨ret_eq (by simp [hasB]; omega), rfl⟩

/-- what a call that would be done makes of what is armed -/
def hitOf (arm : Nat) : Nat × Bool := if arm = 0 then (0, false) else (arm - 1, decide (arm = 1))
theorem hit_ok {w : World} {p : Nat} {kv wv mv : Value} {arm : Nat} (h : DkV w p kv wv mv arm false) (ha : arm ≤ 9223372036854775807) : Calls Try.prog 89 #[.pointer (some ⟨p, 0, none⟩)] w fun e w' => e = .returned (.bool (hitOf arm).2) ∧ DkV w' p kv wv mv (hitOf arm).1 (hitOf arm).2 ∧ Beside (· = p) w w' := by
  have c3 := h.cell3
  have c4 := h.cell4
  have f3 := h.free 3
  have f4 := h.free 4
  have H := Lib.hid h
  clear h
  by_cases h0 : arm = 0
  · subst h0
    go_enter Try.func89, Try.ntmps89
    go_wp2_with fail
    go_ret
    exact ⟨rfl, H.out, Beside.refl _ _⟩
  · by_cases h1 : arm = 1
    · subst h1
      go_enter Try.func89, Try.ntmps89
      go_wp2_with fail
      go_ret
      exact ⟨rfl, (H.out.set3 0).set4 true, ((Beside.refl _ _).set _).set _⟩
    · have n0 : ((arm : Int) == 0) = false := by simp; omega
      have n1 : ((arm : Int) - 1 == 0) = false := by simp; omega
      have e : hitOf arm = (arm - 1, false) := by simp [hitOf, h0, h1]
      rw [e]
      go_enter Try.func89, Try.ntmps89
      go_wp2_with fail
      go_ret
      refine ⟨rfl, ?_, (Beside.refl _ _).set _⟩
      have := H.out.set3 ((arm - 1 : Nat) : Int)
      rw [show ((arm - 1 : Nat) : Int) = (arm : Int) - 1 from by omega] at this ⊢
      exact this

theorem forget_ok {w : World} {p : Nat} {kv wv mv : Value} {arm : Int} {down : Bool} (h : DkV w p kv wv mv arm down) : Calls Try.prog 90 #[.pointer (some ⟨p, 0, none⟩)] w fun e w' => e = .returned (.tuple #[]) ∧ DkV w' p kv (.slice none 0 0) (.map none) arm down ∧ Beside (· = p) w w' := by
  have c1 := h.cell1
  have c2 := h.cell2
  have f1 := h.free 1
  have f2 := h.free 2
  have H := Lib.hid h
  clear h
  go_enter Try.func90, Try.ntmps90
  go_wp2_with fail
  go_end0
  exact ⟨rfl, (H.out.set1 _).set2 _, ((Beside.refl _ _).set _).set _⟩

/-- waits and last are gone -/
theorem Dk.forgot {w w' : World} {O : Nat → Prop} {p : Nat} {kv wv mv : Value} {S : List (List Nat)} {W : List (Nat × List Nat)} {arm a' : Nat} {down d' : Bool} (h : Dk w O p kv wv mv S W arm down) (hv : DkV w' p kv (.slice none 0 0) (.map none) a' d') (hb : Beside (· = p) w w') : Dk w' O p kv (.slice none 0 0) (.map none) S [] a' d' :=
  ⟨hv, ownsRow_beside h.kept hb (fun k hk => ownsRow_ne h.kept h.row (by decide) k hk), World.ownsRow_nil _ _ _ _, .inl ⟨rfl, rfl⟩, ⟨h.good.s64, h.good.s256, by simp, by simp, by simp, h.good.sl, by simp⟩, h.op, h.ok, by simp [Value.ownBlock], by simp⟩
/-- the numbers in its own block alone have changed -/
theorem Dk.turned {w w' : World} {O : Nat → Prop} {p : Nat} {kv wv mv : Value} {S : List (List Nat)} {W : List (Nat × List Nat)} {arm a' : Nat} {down d' : Bool} (h : Dk w O p kv wv mv S W arm down) (hv : DkV w' p kv wv mv a' d') (hb : Beside (· = p) w w') : Dk w' O p kv wv mv S W a' d' :=
  ⟨hv, ownsRow_beside h.kept hb (fun k hk => ownsRow_ne h.kept h.row (by decide) k hk), ownsRow_beside h.waits hb (fun k hk => ownsRow_ne h.waits h.row (by decide) k hk), h.last.beside hb (fun k hk e => by
    subst e
    rcases h.last with ⟨e2, _⟩ | ⟨m, L, c, e2, hm, _⟩
    · rw [hk] at e2; cases e2
    · rw [hk] at e2; cases e2
      have := h.row; unfold DkV at this; unfold IMap at hm; rw [this] at hm; simp at hm), h.good, h.op, h.ok, h.ow, h.om⟩

/-- what a call leaves of a disk -/
def DkEnd (w : World) (O : Nat → Prop) (p : Nat) (kv : Value) (S : List (List Nat)) (W : List (Nat × List Nat)) (arm : Nat) (down : Bool) (v : Value) (e : Ending) (w' : World) : Prop :=
  ∃ wv' mv' O', e = .returned v ∧ Dk w' O' p kv wv' mv' S W arm down ∧ Beside O w w' ∧ (∀ k, O' k → O k ∨ (w.heap.size ≤ k ∧ k < w'.heap.size))

theorem Beside.ofOne {O : Nat → Prop} {p : Nat} {a b : World} (h : Beside (· = p) a b) (hp : O p) : Beside O a b := h.mono (fun k _ e => e ▸ hp)

theorem down_ok {w : World} {O : Nat → Prop} {p : Nat} {kv wv mv : Value} {S : List (List Nat)} {W : List (Nat × List Nat)} {arm : Nat} {down : Bool} (h : Dk w O p kv wv mv S W arm down) :
    Calls Try.prog 46 #[.pointer (some ⟨p, 0, none⟩)] w fun e w' => e = .returned (.bool down) ∧ w = w' := by
  have c4 := h.row.cell4
  clear h
  go_enter Try.func46, Try.ntmps46
  go_wp2_with fail
  go_ret
  exact ⟨rfl, rfl⟩

theorem write_nil (a : Int) (v : Value) (w : World) : Calls Try.prog 95 #[.pointer none, .int .i64 a, v] w fun e w' => e = .returned (.int .i64 2) ∧ w = w' := by
  go_enter Try.func95, Try.ntmps95
  go_wp2_with fail
  refine (ready_nil _).mono ?_
  rintro e w1 ⟨rfl, rfl⟩
  go_wp2_with fail
  go_ret
  exact ⟨rfl, rfl⟩
theorem read_nil (a : Int) (w : World) : Calls Try.prog 75 #[.pointer none, .int .i64 a] w fun e w' => e = .returned (.tuple #[.slice none 0 0, .int .i64 2]) ∧ w = w' := by
  go_enter Try.func75, Try.ntmps75
  go_wp2_with fail
  refine (ready_nil _).mono ?_
  rintro e w1 ⟨rfl, rfl⟩
  go_wp2_with fail
  exact bodyPost_ret (v := .tuple #[.slice none 0 0, .int .i64 2]) (by simp [results, Try.results75, go_sem]) rfl ⟨rfl, rfl⟩
theorem flush_nil (w : World) : Calls Try.prog 61 #[.pointer none] w fun e w' => e = .returned (.int .i64 2) ∧ w = w' := by
  go_enter Try.func61, Try.ntmps61
  go_wp2_with fail
  refine (ready_nil _).mono ?_
  rintro e w1 ⟨rfl, rfl⟩
  go_wp2_with fail
  go_ret
  exact ⟨rfl, rfl⟩
theorem down_nil (w : World) : Calls Try.prog 46 #[.pointer none] w fun e w' => e = .returned (.bool false) ∧ w = w' := by
  go_enter Try.func46, Try.ntmps46
  go_wp2_with fail
  go_ret
  exact ⟨rfl, rfl⟩
theorem size_nil (w : World) : Calls Try.prog 26 #[.pointer none] w fun e w' => e = .returned (.int .i64 0) ∧ w = w' := by
  go_enter Try.func26, Try.ntmps26
  go_wp2_with fail
  go_ret
  exact ⟨rfl, rfl⟩
end
section
set_option linter.unusedVariables false
open Go.RowKit

def zeros (n : Nat) : List Nat := List.replicate n 0
def zsec : Value := .agg (Array.replicate 64 (.int .u8 0))
theorem Try.info143 : (Try.prog.info? 143).map (fun i => (i.zero, i.size, i.bytes)) = some (some zsec, 64, 64) := by kernel_rfl

theorem secs_length (S : List (List Nat)) (h : ∀ s ∈ S, s.length = 64) : (secs S).length = S.length * 64 := by
  induction S with
  | nil => simp [secs]
  | cons s r ih =>
    have := ih (fun x hx => h x (by simp [hx]))
    simp only [secs, List.flatMap_cons, List.length_append, u8s_length, h s (by simp), List.length_cons] at this ⊢
    omega

theorem made_secs (n : Nat) : (madeCells zsec.cells (n * 64)).toList = secs (List.replicate n (zeros 64)) := by
  have h1 : ∀ c, (madeCells zsec.cells c).toList = List.replicate c (.int .u8 0) := by
    intro c
    apply List.ext_getElem
    · simp [madeCells]
    · intro i h1 h2
      have hz : zsec.cells.size = 64 := rfl
      have hlt : i % 64 < 64 := Nat.mod_lt _ (by decide)
      simp only [madeCells, Array.getElem_toList, Array.getElem_map, Array.getElem_range, List.getElem_replicate, hz]
      rw [getElem!_pos _ _ (by rw [hz]; exact hlt)]
      show (Array.replicate 64 (Value.int IntKind.u8 0))[i % 64]'(by simpa using hlt) = _
      simp
  rw [h1]
  induction n with
  | zero => simp [secs]
  | succ n ih =>
    have e : secs (List.replicate (n + 1) (zeros 64)) = u8s (zeros 64) ++ secs (List.replicate n (zeros 64)) := by simp [secs, List.replicate_succ]
    have e2 : u8s (zeros 64) = List.replicate 64 (.int .u8 0) := by simp [u8s, zeros]
    rw [e, ← ih, e2, List.replicate_append_replicate]
    congr 1
    omega

/-- n sectors are made -/
theorem make_secs {w : World} {ops : Array Oper} {rest : List Oper} {o : Oper} {a : Act} {Q : Exit → Act → World → Prop} (hg : o.guard = none) (l c : Operand) (T : TypeId) (E : TypeId) (hop : o.op = Op.makeSlice T l c) (i0 : TypeInfo) (hT : Try.prog.underlying T = some (.slice E)) (hi : Try.prog.info? E = some i0) (hz : i0.zero = some zsec) (hs : i0.size = 64) (hb : i0.bytes = 64)
    (n : Nat) (hl : a.eval l = .int .i64 (n : Int)) (hc : a.eval c = .int .i64 (n : Int)) (hn : n ≤ 65536)
    (h : ∀ w', w'.ownsRow w.heap.size E 64 (.slice (some ⟨w.heap.size, 0, none⟩) n n) n (secs (List.replicate n (zeros 64))) → w.grownBy w' none → wpList Try.prog ops Q rest (a.put o.dst (.slice (some ⟨w.heap.size, 0, none⟩) n n)) w') :
    wpList Try.prog ops Q (o :: rest) a w := by
  refine wpList_make_full _ hg l c T hop w.heap.size E i0 zsec 64 hT hi hz hs _ _ _ _ n hl hc rfl rfl (by rw [hb]; omega) (by simp [maxLen]; omega) (Nat.le_refl _) ?_
  intro w' h1 h2
  rw [made_secs] at h1
  exact h w' h1 h2

theorem new_no (n : Int) (w : World) (h : n < 1 ∨ 65536 < n) : Calls Try.prog 7 #[.int .i64 n] w fun e w' => e = .returned (.tuple #[.pointer none, .int .i64 1]) ∧ w = w' := by
  rcases h with h | h
  · go_enter Try.func7, Try.ntmps7
    go_wp2_with fail
    exact bodyPost_ret (v := .tuple #[.pointer none, .int .i64 1]) (by simp [results, Try.results7, go_sem]) rfl ⟨rfl, rfl⟩
  · have h' : ¬ n < 1 := by omega
    go_enter Try.func7, Try.ntmps7
    go_wp2_with fail
    exact bodyPost_ret (v := .tuple #[.pointer none, .int .i64 1]) (by simp [results, Try.results7, go_sem]) rfl ⟨rfl, rfl⟩

/-- what New leaves -/
def NewEnd (n : Nat) (w : World) (e : Ending) (w' : World) : Prop :=
  ∃ p kv, e = .returned (.tuple #[.pointer (some ⟨p, 0, none⟩), .int .i64 0]) ∧ Dk w' (fun k => w.heap.size ≤ k ∧ k < w'.heap.size) p kv (.slice none 0 0) (.map none) (List.replicate n (zeros 64)) [] 0 false ∧ Below w.heap.size w w'

theorem new_yes (n : Nat) (w : World) (h1 : 1 ≤ n) (h2 : n ≤ 65536) : Calls Try.prog 7 #[.int .i64 (n : Int)] w fun e w' => NewEnd n w e w' := by
  obtain ⟨i0, hi, hz0, hz1, hz2⟩ := info_parts Try.info143
  have hn1 : ¬ (n : Int) < 1 := by omega
  have hn2 : ¬ (65536 : Int) < (n : Int) := by omega
  go_enter Try.func7, Try.ntmps7
  go_wp2_with (at_make; go_loud (refine make_secs rfl _ _ 58 143 rfl i0 Try.underlying58 hi hz0 hz1 hz2 n rfl rfl h2 ?_))
  intro w1 hown0 hgr
  have HO := Lib.hid hown0
  have HG := Lib.hid hgr
  clear hown0 hgr
  go_wp2_with fail
  refine bodyPost_ret (v := .tuple #[.pointer (some ⟨w1.heap.size, 0, none⟩), .int .i64 0]) (by simp [results, Try.results7, go_sem]) rfl ?_
  have hs := HG.out.size
  have hl := (World.ownsRow.lt HO.out _ rfl).2
  refine ⟨_, _, rfl, ⟨heap_alloc_new w1 _, ?_, World.ownsRow_nil _ _ _ _, .inl ⟨rfl, rfl⟩, ?_, ⟨by omega, by simp⟩, ?_, by simp [Value.ownBlock], by simp⟩, ?_⟩
  · have := (World.ownsRow.mono (base' := 0) HO.out (Nat.zero_le _)).alloc (Obj.cells #[Value.slice (some { block := w.heap.size, off := 0 }) n n, Value.slice none 0 0, Value.map none, Value.int IntKind.i64 0, Value.bool false] 62)
    rw [List.length_replicate]
    exact this
  · exact ⟨fun s hs => by rw [List.eq_of_mem_replicate hs]; simp [zeros], fun s hs m hm => by rw [List.eq_of_mem_replicate hs] at hm; rw [List.eq_of_mem_replicate hm]; decide, by simp, by simp, by simp, by simpa using h2, by simp⟩
  · intro k hk
    simp [Value.ownBlock] at hk
    simp only [World.size_alloc]
    omega
  · exact ((Below.refl _ _).grown HG.out (Nat.le_refl _) (by simp)).alloc hs _
end
end Go.Proofs.Ytmnbkhgogogeiaa
