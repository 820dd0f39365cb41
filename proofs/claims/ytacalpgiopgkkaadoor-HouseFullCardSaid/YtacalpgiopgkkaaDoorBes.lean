/-
  What a call leaves as it was; bytes.Clone.
-/
import Derived.Test.YtacalpgiopgkkaaDoorDat
import Derived.Test.YtacalpgiopgkkaaDoorS9All
namespace Go.Proofs.YtacalpgiopgkkaaDoor
set_option linter.unusedVariables false
open Go.RowKit Go.MapKept
attribute [local go_sem] Oper.semAt_some

/-- all blocks that are not 'own' lie as they lay -/
structure Beside (own : Nat → Prop) (w w' : World) : Prop where
  os : w'.os = w.os
  tape : w'.tape = w.tape
  output : w'.output = w.output
  size : w.heap.size ≤ w'.heap.size
  block : ∀ k, k < w.heap.size → ¬ own k → w'.heap[k]? = w.heap[k]?
theorem Beside.refl (own : Nat → Prop) (w : World) : Beside own w w := ⟨rfl, rfl, rfl, Nat.le_refl _, fun _ _ _ => rfl⟩
theorem Beside.trans {own : Nat → Prop} {a b c : World} (h : Beside own a b) (k : Beside own b c) : Beside own a c :=
  ⟨k.os.trans h.os, k.tape.trans h.tape, k.output.trans h.output, Nat.le_trans h.size k.size, fun i hi ho => (k.block i (Nat.lt_of_lt_of_le hi h.size) ho).trans (h.block i hi ho)⟩
theorem Beside.mono {own own' : Nat → Prop} {a b : World} (h : Beside own a b) (ho : ∀ k, k < a.heap.size → own k → own' k) : Beside own' a b :=
  ⟨h.os, h.tape, h.output, h.size, fun i hi hn => h.block i hi (fun h' => hn (ho i hi h'))⟩
theorem Beside.setCell {own : Nat → Prop} {a w : World} (h : Beside own a w) {p : Addr} (hp : own p.block ∨ a.heap.size ≤ p.block) (u : Value) : Beside own a (w.setCell p u) :=
  ⟨h.os, h.tape, h.output, by simpa [World.setCell] using h.size, fun i hi hn => (Below.heap_setCell _ _ _ _ (by rintro rfl; rcases hp with hp | hp; exact hn hp; omega)).trans (h.block i hi hn)⟩
theorem Beside.alloc {own : Nat → Prop} {a w : World} (h : Beside own a w) (o : Obj) : Beside own a (w.alloc o) :=
  ⟨h.os, h.tape, h.output, by have := h.size; simp; omega, fun i hi hn => (Below.heap_alloc _ _ _ (Nat.lt_of_lt_of_le hi h.size)).trans (h.block i hi hn)⟩
theorem Beside.drewN {own : Nat → Prop} {a w : World} (h : Beside own a w) (n : Nat) : Beside own a (w.drewN n) := ⟨h.os, h.tape, h.output, h.size, h.block⟩
theorem Beside.drew {own : Nat → Prop} {a w : World} (h : Beside own a w) : Beside own a w.drew := ⟨h.os, h.tape, h.output, h.size, h.block⟩
theorem Beside.grown {own : Nat → Prop} {a w w' : World} {row : Option Nat} (h : Beside own a w) (hg : w.grownBy w' row) (hr : ∀ k, row = some k → own k ∨ a.heap.size ≤ k) : Beside own a w' :=
  ⟨hg.os.trans h.os, hg.tape.trans h.tape, hg.output.trans h.output, Nat.le_trans h.size hg.size, fun i hi hn => (hg.block i (Nat.lt_of_lt_of_le hi h.size) (fun e => by rcases hr i e.symm with hp | hp; exact hn hp; omega)).trans (h.block i hi hn)⟩
theorem Beside.below {own : Nat → Prop} {a b : World} {B : Nat} (h : Beside own a b) (ho : ∀ k, own k → B ≤ k) (hB : B ≤ a.heap.size) : Below B a b :=
  ⟨h.os, h.tape, h.output, h.size, fun k hk => h.block k (by omega) (fun h' => by have := ho k h'; omega)⟩
theorem Beside.trans' {own own2 : Nat → Prop} {a b c : World} (h : Beside own a b) (k : Beside own2 b c) (ho : ∀ i, i < a.heap.size → own2 i → own i) : Beside own a c :=
  ⟨k.os.trans h.os, k.tape.trans h.tape, k.output.trans h.output, Nat.le_trans h.size k.size, fun i hi hn => (k.block i (Nat.lt_of_lt_of_le hi h.size) (fun e => hn (ho i hi e))).trans (h.block i hi hn)⟩

theorem setMap_size (w : World) (m : Nat) (o : Obj) : (setMap w m o).heap.size = w.heap.size := by simp [setMap]
theorem Beside.setMap {own : Nat → Prop} {a w : World} (h : Beside own a w) {q : Nat} (hq : own q ∨ a.heap.size ≤ q) (o : Obj) : Beside own a (setMap w q o) :=
  ⟨h.os, h.tape, h.output, by rw [setMap_size]; exact h.size, fun i hi hn => by
    rw [setMap_other (by rintro rfl; rcases hq with hq | hq; exact hn hq; omega)]
    exact h.block i hi hn⟩
theorem Beside.of_below {own : Nat → Prop} {a w : World} {B : Nat} (hb : Below B a w) (ho : ∀ k, B ≤ k → k < a.heap.size → own k) : Beside own a w :=
  ⟨hb.os, hb.tape, hb.output, hb.size, fun k hk hn => hb.block k (by rcases Nat.lt_or_ge k B with h | h; exact h; exact absurd (ho k h hk) hn)⟩
theorem At.beside {own : Nat → Prop} {a w : World} {b : Nat} {l : List Value} {t : TypeId} (h : At a b l t) (hb : Beside own a w) (hn : ¬ own b) : At w b l t := (hb.block b h.lt hn).trans h
theorem bclone_any (v : Value) (l : List Nat) (w : World) (hr : RowB w v l) (hs : l.length ≤ 140737488351232) : Calls Tryd.prog 22 #[v] w fun e w' => ∃ o, e = .returned o ∧ OwnB w' w.heap.size o l ∧ Below w.heap.size w w' := by
  obtain ⟨i0, hi, hz0, hz1, hz2⟩ := info_parts Tryd.info5
  obtain ⟨a, len, cap, rfl, hl, hc, hm, hw, hn, hcell⟩ := hr
  cases a with
  | none =>
    obtain ⟨rfl, rfl⟩ := hn rfl
    obtain rfl : l = [] := List.eq_nil_of_length_eq_zero hl
    have he := Lib.run_eql_slice_nil (P := Tryd.prog)
    go_enter Tryd.func22, Tryd.ntmps22
    go_wp2_with fail
    go_ret
    exact ⟨_, rfl, World.ownsRow_nil _ _ _ _, Below.refl _ _⟩
  | some x =>
    have he := fun (w : World) => Lib.run_eql_slice_nil (P := Tryd.prog) w 40 5 (some x) len cap 0 0 Tryd.underlying40
    have hown0 := World.ownsRow_lit (base := w.heap.size) (e := 5) (size := 1) w #[] 0 (Nat.le_refl _) (by decide) rfl
    have hnews : ∀ j u, (u8s l)[j]? = some u → (w.alloc (.cells #[] 5)).cell? (x.add j) = some u := by
      intro j u hj
      have hjl : j < l.length := by have := (List.getElem?_eq_some_iff.1 hj).1; simpa using this
      rw [u8s_get l j hjl] at hj
      cases hj
      have hx := hcell x rfl j hjl
      rw [Below.cell ((Below.refl w.heap.size w).alloc (Nat.le_refl _) _) (World.block_lt_of_cell? w _ hx)]
      exact hx
    have one : ∀ u ∈ u8s l, u.oneCell' = true := by
      intro u hu
      obtain ⟨_, _, rfl⟩ := List.mem_map.1 hu
      rfl
    have Hcell := Lib.hid hcell
    have Hl := Lib.hid hl
    have Hnews := Lib.hid hnews
    have hsl : len ≤ 140737488351232 := by omega
    clear hcell hl hnews hs
    go_enter Tryd.func22, Tryd.ntmps22
    go_wp2_with (at_builtin; go_loud (refine wpList_append_own _ rfl (.tmp 5) (.tmp 6) 40 rfl (w.heap.size) 5 i0 (.int .u8 0) 1 1 Tryd.underlying40 hi hz0 hz1 hz2 rfl (by decide) _ _ _ rfl hown0 x len cap (u8s l) rfl (by rw [u8s_length, Hl.out]; simp) Hnews.out one (by simp [maxLen]; omega) (by simp; omega) (by simp) ?_))
    intro o w1 ho hgr _
    go_wp2_with fail
    go_ret
    refine ⟨_, rfl, ?_, ?_⟩
    · unfold OwnB
      rw [Hl.out]
      simpa using ho
    · exact ((Below.refl _ _).alloc (Nat.le_refl _) _).grown hgr (by simp) (by intro k hk; simp [Value.ownBlock] at hk; omega)

end Go.Proofs.YtacalpgiopgkkaaDoor
