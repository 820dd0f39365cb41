/-
  Several texts of one proof, each in a section of its own: Own, Beside, Maps.
-/
import Derived.Test.YtmnbkhgogogeiaaRg1
import Derived.BigQuiet
import Derived.BigRegion
import Derived.IntWalk
namespace Go.Proofs.Ytmnbkhgogogeiaa
section
set_option linter.unusedVariables false
open Go.RowKit

theorem ownsRow_whole {w : World} {B g n cap : Nat} {xs : List Value} (h : w.ownsRow B 5 1 (.slice (some ⟨g, 0, none⟩) n cap) n xs) :
    ∃ ys, ys.length = cap ∧ ys.take n = xs ∧ n ≤ cap ∧ cap ≤ maxLen ∧ B ≤ g ∧ g < w.heap.size ∧ w.ownsRow B 5 1 (.slice (some ⟨g, 0, none⟩) cap cap) cap ys := by
  rcases h.2 with ⟨h', _⟩ | ⟨g', cap', cur, h', hb, hg, hn, hm, hs, ht⟩
  · simp at h'
  · simp only [Value.slice.injEq, Option.some.injEq, Addr.mk.injEq, and_true, true_and] at h'
    obtain ⟨rfl, rfl⟩ := h'
    have hl : cur.toList.length = cap := by simpa using hs
    refine ⟨cur.toList, hl, by simpa using ht, hn, hm, hb, (Array.getElem?_eq_some_iff.1 hg).1, by simpa using hl, .inr ⟨g, cap, cur, rfl, hb, hg, Nat.le_refl _, hm, hs, ?_⟩⟩
    rw [List.take_of_length_le (by omega)]

/-- a copy of its own, with what stands in the room behind it -/
def OwnF (w : World) (B : Nat) (v : Value) (l more : List Nat) : Prop :=
  ∃ g, v = .slice (some ⟨g, 0, none⟩) l.length (l.length + more.length) ∧ OwnB w B (.slice (some ⟨g, 0, none⟩) (l.length + more.length) (l.length + more.length)) (l ++ more) ∧ B ≤ g ∧ g < w.heap.size ∧ l.length + more.length ≤ maxLen

/-- behind k rounds of Own's loop -/
def Filled (w : World) (B g c n : Nat) (l : List Nat) : Prop :=
  ∃ ys, ys.length = c ∧ ys.take n = u8s l ∧ w.ownsRow B 5 1 (.slice (some ⟨g, 0, none⟩) c c) c ys

theorem Filled.step {w : World} {B g c n : Nat} {l : List Nat} {f : Nat} (h : Filled w B g c n l) (hn : n < c) (hl : l.length = n) : Filled (w.setCell ⟨g, n, none⟩ (.int .u8 (f : Nat))) B g c (n + 1) (l ++ [f]) := by
  obtain ⟨ys, hy, ht, ho⟩ := h
  refine ⟨ys.set n (.int .u8 (f : Nat)), by simpa using hy, ?_, (ho.stored n _).1⟩
  rw [List.take_set, List.take_succ_eq_append_getElem (by omega), ht, u8s_append]
  rw [List.set_append_right _ _ (by simp; omega)]
  simp [u8s, hl]

theorem Filled.free {w : World} {B g c n : Nat} {l : List Nat} (h : Filled w B g c n l) (j : Nat) : w.frozen? ⟨g, j, none⟩ = false := by
  obtain ⟨ys, hy, ht, ho⟩ := h
  exact ho.frozenAt j
theorem Filled.cell {w : World} {B g c n : Nat} {l : List Nat} (h : Filled w B g c n l) (j : Nat) (hj : j < c) : ∃ u, w.cell? ⟨g, j, none⟩ = some u := by
  obtain ⟨ys, hy, ht, ho⟩ := h
  exact ⟨ys[j]'(by omega), by rw [ho.cellAt j (by omega)]; simp [hy, hj]⟩
theorem Filled.done {w : World} {B g c : Nat} {l : List Nat} (h : Filled w B g c c l) (hc : c = l.length) : OwnB w B (.slice (some ⟨g, 0, none⟩) c c) l := by
  obtain ⟨ys, hy, ht, ho⟩ := h
  rw [List.take_of_length_le (by omega)] at ht
  subst hc
  subst ht
  exact ho

set_option maxHeartbeats 400000 in
set_option maxRecDepth 100000 in
theorem own_any (v : Value) (l : List Nat) (w : World) (f : Nat) (hr : RowB w v l) (hs : l.length ≤ 140737488351232) :
    Calls Try.prog 11 #[v, .int .u8 f] w fun e w' => ∃ o, e = .returned o ∧ OwnF w' w.heap.size o l [f, f, f] ∧ Below w.heap.size w w' := by
  obtain ⟨i0, hi, hz0, hz1, hz2⟩ := info_parts Try.info5
  obtain ⟨a, len, cap, rfl, hl, hc, hm, hw, hn, hcell⟩ := hr
  have hsl : len ≤ 140737488351232 := by omega
  have Hn := Lib.hid hn
  have Hl := Lib.hid hl
  have Hc := Lib.hid hcell
  clear hn hcell hl hs hw
  go_enter Try.func11, Try.ntmps11
  go_wp2_with (first
    | (at_make; go_loud (refine wpList_make_own _ rfl _ _ 23 rfl w.heap.size 5 i0 (.int .u8 0) 1 Try.underlying23 hi hz0 hz1 _ _ _ (len + 3) rfl rfl (by omega) (by rw [hz2]; omega) (by simp [maxLen]; omega) (Nat.le_refl _) ?_)))
  intro w1 hown1 hgr1
  have hb1 : Below w.heap.size w w1 := (Below.refl _ _).grown hgr1 (Nat.le_refl _) (by intro k hk; cases hk)
  have hcell1 : ∀ ad, a = some ad → ∀ j u, (u8s l)[j]? = some u → w1.cell? (ad.add j) = some u := by
    intro ad had j u hj
    have hjl : j < l.length := by have := (List.getElem?_eq_some_iff.1 hj).1; simpa using this
    rw [u8s_get l j hjl] at hj
    cases hj
    have hx := Hc.out ad had j hjl
    rw [hb1.cell (World.block_lt_of_cell? w _ hx)]
    exact hx
  have one : ∀ u ∈ u8s l, u.oneCell' = true := by
    intro u hu
    obtain ⟨_, _, rfl⟩ := List.mem_map.1 hu
    rfl
  have Hcell1 := Lib.hid hcell1
  clear hcell1
  go_wp2_with (at_builtin; go_loud (refine wpList_append_fits_any _ rfl (.tmp 12) (.tmp 13) 23 rfl w.heap.size 5 i0 1 Try.underlying23 hi hz1 w.heap.size 0 (len + 3) [] rfl hown1 a len cap (u8s l) rfl (by rw [u8s_length, Hl.out]; simp) Hn.out Hcell1.out one (by omega) ?_))
  intro w2 hown2 hgr2
  have hb2 : Below w.heap.size w w2 := hb1.grown hgr2 hb1.size (by intro k hk; cases hk; exact Nat.le_refl _)
  obtain ⟨ys, hys, htake, hle, hml, hBg, hgs, hwhole⟩ := ownsRow_whole hown2
  have Hys := Lib.hid hys
  have Htake := Lib.hid htake
  clear hown2 hown1 hgr1 hgr2 hys htake hml
  go_wp2_with fail
  have hF : Filled w2 w.heap.size w.heap.size (len + 3) len l := ⟨ys, Hys.out, Htake.out, hwhole⟩
  have HF := Lib.hid hF
  clear hF hwhole
  go_loopw [7] (fun i wr => ∃ k : Nat, k ≤ 3 ∧ i = .int .i64 ((len : Int) + k) ∧ Filled wr w.heap.size w.heap.size (len + 3) (len + k) (l ++ List.replicate k f) ∧ Below w.heap.size w wr) (fun i _ => (((len : Int) + 3) - intOf i).toNat)
  case atStart => exact ⟨0, by omega, by simp, by simpa using HF.out, hb2⟩
  case round =>
    obtain ⟨k, hk, rfl, hfill, hbel⟩ := hrel
    by_cases hk3 : k < 3
    · have hfr := hfill.free (len + k)
      obtain ⟨u, hu⟩ := hfill.cell (len + k) (by omega)
      have hnext := hfill.step (f := f) (by omega) (by simp [Hl.out])
      have Hnext := Lib.hid hnext
      clear hnext hfill
      have htn : ((len : Int) + k).toNat = len + k := by omega
      go_wp2_with fail
      go_roundw
      case rel => exact ⟨k + 1, by omega, by go_num, by have := Hnext.out; rwa [List.append_assoc, ← List.replicate_succ'] at this, hbel.setCell (Nat.le_refl _) _⟩
      case measure => simp [intOf]; omega
    · obtain rfl : k = 3 := by omega
      have Hfill := Lib.hid hfill
      clear hfill
      go_wp2_with fail
      go_ret
      have hd := Filled.done Hfill.out (by simp [Hl.out])
      refine ⟨_, rfl, ⟨w.heap.size, ?_, ?_, Nat.le_refl _, ?_, ?_⟩, hbel⟩
      · rw [Hl.out]; rfl
      · rw [Hl.out]; exact hd
      · obtain ⟨g', c', e, _, hg⟩ := hd.some (by simp)
        simp only [Value.slice.injEq, Option.some.injEq, Addr.mk.injEq] at e
        rw [e.1.1]
        exact hg
      · rw [Hl.out]; simp [maxLen]; omega

theorem OwnF.row {w : World} {B : Nat} {v : Value} {l more : List Nat} (h : OwnF w B v l more) (hl : ∀ n ∈ l, n < 256) : RowB w v l := by
  obtain ⟨g, rfl, ho, hB, hg, hm⟩ := h
  refine ⟨_, _, _, rfl, rfl, by omega, hm, hl, by simp, ?_⟩
  intro x hx i hi
  obtain rfl := Option.some.inj hx
  rw [Addr.add_lit, Nat.zero_add]
  have := ho.cell (by simp) i (by simp; omega)
  rw [this]
  simp [hi]

theorem OwnF.below {w w' : World} {B : Nat} {v : Value} {l more : List Nat} (h : OwnF w B v l more) (hb : Below w.heap.size w w') : OwnF w' B v l more := by
  obtain ⟨g, rfl, ho, hB, hg, hm⟩ := h
  refine ⟨g, rfl, ho.keep hb (by intro k hk; simp [Value.ownBlock] at hk; omega), hB, by have := hb.size; omega, hm⟩

set_option maxHeartbeats 400000 in
theorem kept_any {va vb : Value} {l : List Nat} {w : World} {B f : Nat} (ha : OwnF w B va l [f, f, f]) (hb : RowB w vb l) (hs : l.length ≤ 140737488351232) :
    Calls Try.prog 13 #[va, vb, .int .u8 f] w fun e w' => e = .returned (.bool true) ∧ Still w w' := by
  have hra := ha.row hb.lt
  obtain ⟨g, rfl, ho, hB, hg, hm⟩ := ha
  obtain ⟨a, len, cap, rfl, hl, hc, hm', -⟩ := id hb
  subst hl
  simp only [List.length_cons, List.length_nil, Nat.zero_add, Nat.reduceAdd] at ho hm hra
  have HB := Lib.hid hb
  have HA := Lib.hid hra
  have HO := Lib.hid ho
  clear hb hra ho hm hm'
  go_enter Try.func13, Try.ntmps13
  go_wp2_with fail
  refine (plain_any HA.out HB.out).mono ?_
  rintro e w1 ⟨rfl, hst⟩
  simp only [decide_true]
  go_wp2_with fail
  go_loopw [8] (fun i wr => ∃ k : Nat, k ≤ 3 ∧ i = .int .i64 ((l.length : Int) + k) ∧ Still w wr) (fun i _ => (((l.length : Int) + 3) - intOf i).toNat)
  case atStart => exact ⟨0, by omega, by simp, hst⟩
  case round =>
    obtain ⟨k, hk, rfl, hst'⟩ := hrel
    by_cases hk3 : k < 3
    · have htn : ((l.length : Int) + k).toNat = l.length + k := by omega
      have hc : wr.cell? ⟨g, l.length + k, none⟩ = some (.int .u8 (f : Nat)) := by
        rw [hst'.cell, HO.out.cell (by simp) (l.length + k) (by simp; omega)]
        match k, hk3 with
        | 0, _ => simp
        | 1, _ => simp
        | 2, _ => simp
      go_wp2_with fail
      go_roundw
      case rel => exact ⟨k + 1, by omega, by go_num, hst'⟩
      case measure => simp [intOf]; omega
    · obtain rfl : k = 3 := by omega
      go_wp2_with fail
      go_ret
      exact ⟨rfl, hst'⟩
end
section
set_option linter.unusedVariables false
open Go.RowKit

/-- all blocks but some are as they were -/
structure Beside (own : Nat → Prop) (w w' : World) : Prop where
  os : w'.os = w.os
  tape : w'.tape = w.tape
  output : w'.output = w.output
  size : w.heap.size ≤ w'.heap.size
  block : ∀ k, k < w.heap.size → ¬ own k → w'.heap[k]? = w.heap[k]?

theorem Beside.refl (own : Nat → Prop) (w : World) : Beside own w w := ⟨rfl, rfl, rfl, Nat.le_refl _, fun _ _ _ => rfl⟩
theorem Beside.trans {own : Nat → Prop} {a b c : World} (h : Beside own a b) (k : Beside own b c) : Beside own a c :=
  ⟨k.os.trans h.os, k.tape.trans h.tape, k.output.trans h.output, Nat.le_trans h.size k.size, fun i hi ho => (k.block i (Nat.lt_of_lt_of_le hi h.size) ho).trans (h.block i hi ho)⟩
theorem Beside.mono {own own' : Nat → Prop} {a b : World} (h : Beside own a b) (ho : ∀ k, k < a.heap.size → own k → own' k) : Beside own' a b :=
  ⟨h.os, h.tape, h.output, h.size, fun i hi hn => h.block i hi (fun h' => hn (ho i hi h'))⟩
theorem Beside.setCell {own : Nat → Prop} {a w : World} (h : Beside own a w) {p : Addr} (hp : own p.block ∨ a.heap.size ≤ p.block) (u : Value) : Beside own a (w.setCell p u) :=
  ⟨h.os, h.tape, h.output, by simpa [World.setCell] using h.size, fun i hi hn => (Below.heap_setCell _ _ _ _ (by rintro rfl; rcases hp with hp | hp; exact hn hp; omega)).trans (h.block i hi hn)⟩
theorem Beside.alloc {own : Nat → Prop} {a w : World} (h : Beside own a w) (o : Obj) : Beside own a (w.alloc o) :=
  ⟨h.os, h.tape, h.output, by have := h.size; simp; omega, fun i hi hn => (Below.heap_alloc _ _ _ (Nat.lt_of_lt_of_le hi h.size)).trans (h.block i hi hn)⟩
theorem Beside.drewN {own : Nat → Prop} {a w : World} (h : Beside own a w) (n : Nat) : Beside own a (w.drewN n) := ⟨h.os, h.tape, h.output, h.size, h.block⟩
theorem Beside.drew {own : Nat → Prop} {a w : World} (h : Beside own a w) : Beside own a w.drew := ⟨h.os, h.tape, h.output, h.size, h.block⟩
theorem Beside.grown {own : Nat → Prop} {a w w' : World} {row : Option Nat} (h : Beside own a w) (hg : w.grownBy w' row) (hr : ∀ k, row = some k → own k ∨ a.heap.size ≤ k) : Beside own a w' :=
  ⟨hg.os.trans h.os, hg.tape.trans h.tape, hg.output.trans h.output, Nat.le_trans h.size hg.size, fun i hi hn => (hg.block i (Nat.lt_of_lt_of_le hi h.size) (fun e => by rcases hr i e.symm with hp | hp; exact hn hp; omega)).trans (h.block i hi hn)⟩
theorem Beside.below {own : Nat → Prop} {a b : World} {B : Nat} (h : Beside own a b) (ho : ∀ k, own k → B ≤ k) (hB : B ≤ a.heap.size) : Below B a b :=
  ⟨h.os, h.tape, h.output, h.size, fun k hk => h.block k (by omega) (fun h' => by have := ho k h'; omega)⟩
theorem Below.beside {own : Nat → Prop} {a b : World} (h : Below a.heap.size a b) : Beside own a b := ⟨h.os, h.tape, h.output, h.size, fun k hk _ => h.block k hk⟩
theorem Beside.set {g j : Nat} {a w : World} (h : Beside (· = g) a w) (u : Value) : Beside (· = g) a (w.setCell ⟨g, j, none⟩ u) := Beside.setCell (own := (· = g)) h (Or.inl rfl) u
theorem Beside.upto (g : Nat) (w : World) (n : Nat) : Beside (· = g) w (w.drewN n) := (Beside.refl _ w).drewN n
theorem Beside.one (w : World) (h j : Nat) (u : Value) : Beside (· = h) w (w.setCell ⟨h, j, none⟩ u) := Beside.setCell (own := (· = h)) (Beside.refl _ _) (Or.inl rfl) u

theorem OwnB.ne {w : World} {B : Nat} {v : Value} {l : List Nat} (h : OwnB w B v l) {g : Nat} {cs : Array Value} {t : TypeId} {fr : Nat × Nat} (hg : w.heap[g]? = Option.some (.cells cs t fr)) (ht : t ≠ 5) : v.ownBlock ≠ Option.some g := by
  intro e
  rcases h.2 with ⟨rfl, _⟩ | ⟨g', cap, cur, rfl, _, hh, _⟩
  · cases e
  · simp [Value.ownBlock] at e
    subst e
    rw [hh] at hg
    simp at hg
    exact ht hg.2.1.symm

theorem OwnB.beside {w w' : World} {B : Nat} {v : Value} {l : List Nat} {own : Nat → Prop} (h : OwnB w B v l) (hb : Beside own w w') (hn : ∀ k, v.ownBlock = Option.some k → ¬ own k) : OwnB w' B v l := by
  refine ⟨h.1, ?_⟩
  rcases h.2 with h2 | ⟨g, cap, cur, rfl, hg, hh, r⟩
  · exact .inl h2
  · exact .inr ⟨g, cap, cur, rfl, hg, by rw [hb.block g (lt_of_block hh) (hn g rfl)]; exact hh, r⟩

theorem bits_xor (x : Nat) : ∃ m : Nat, bits .xor .u8 (x : Int) 85 = (m : Int) := by
  simp only [bits]
  rw [IntKind.wrap_u8]
  exact ⟨_, (Int.toNat_of_nonneg (Int.emod_nonneg _ (by decide))).symm⟩

theorem spoil_row {w : World} {B g n c : Nat} {L : List Nat} (ho : OwnB w B (.slice (some ⟨g, 0, none⟩) L.length c) L) (hn : n ≤ L.length) (hL : L.length ≤ 9223372036854775807) (k : Nat) :
    Calls Try.prog 18 #[.slice (some ⟨g, 0, none⟩) n k] w fun e w' => e = .returned (.tuple #[]) ∧ Beside (· = g) w w' := by
  have HO := Lib.hid ho
  clear ho
  go_enter Try.func18, Try.ntmps18
  go_wp2_with fail
  go_loopw [2] (fun i wr => ∃ (p : Nat) (M : List Nat), p ≤ n ∧ i = .int .i64 (p : Int) ∧ M.length = L.length ∧ OwnB wr B (.slice (some ⟨g, 0, none⟩) M.length c) M ∧ Beside (· = g) w wr) (fun i _ => ((n : Int) - intOf i).toNat)
  case atStart => exact ⟨0, L, by omega, rfl, rfl, HO.out, Beside.refl _ _⟩
  case round =>
    obtain ⟨p, M, hp, rfl, hM, hown, hbes⟩ := hrel
    by_cases hlt : p < n
    · have hpM : p < M.length := by omega
      have hcell := hown.cell rfl p hpM
      have hfree := hown.free rfl p
      have HO1 := Lib.hid hown
      have HB := Lib.hid hbes
      have HM := Lib.hid hM
      have hpi : (p : Int) < (n : Int) := by omega
      clear hown hbes hM
      generalize M[p] = x at *
      obtain ⟨m, hbx⟩ := bits_xor x
      have HS := Lib.hid (HO1.out.set rfl p m)
      go_wp2_with fail
      go_roundw
      case rel => exact ⟨p + 1, M.set p m, by omega, by go_num, by simp [HM.out], by simp only [List.length_set]; first | exact HS.out | (rw [hbx]; exact HS.out), HB.out.set _⟩
      case measure => simp [intOf]; omega
    · have hpi : ¬ (p : Int) < (n : Int) := by omega
      go_wp2_with fail
      go_end0
      exact ⟨rfl, hbes⟩

theorem spoil_nil (w : World) : Calls Try.prog 18 #[.slice none 0 0] w fun e w' => e = .returned (.tuple #[]) ∧ w = w' := by
  go_enter Try.func18, Try.ntmps18
  go_wp2_with fail
  refine wp_loop_rounds 1 ?_
  rw [rounds_succ]
  go_wp2_with fail
  go_end0
  exact ⟨rfl, rfl⟩

theorem spoil_own {w : World} {B : Nat} {v : Value} {L : List Nat} (ho : OwnB w B v L) (hL : L.length ≤ 9223372036854775807) :
    Calls Try.prog 18 #[v] w fun e w' => e = .returned (.tuple #[]) ∧ Beside (fun k => v.ownBlock = some k) w w' := by
  rcases ho.2 with ⟨rfl, h0⟩ | ⟨g, cap, cur, rfl, _⟩
  · exact (spoil_nil w).mono fun e w' ⟨h1, h2⟩ => ⟨h1, h2 ▸ Beside.refl _ _⟩
  · exact (spoil_row ho (Nat.le_refl _) hL cap).mono fun e w' ⟨h1, h2⟩ => ⟨h1, h2.mono fun k _ hk => by simp [Value.ownBlock, hk]⟩

theorem spoil_full {w : World} {B : Nat} {v : Value} {L m : List Nat} (ho : OwnF w B v L m) (hL : (L ++ m).length ≤ 9223372036854775807) :
    Calls Try.prog 18 #[v] w fun e w' => e = .returned (.tuple #[]) ∧ Beside (fun k => v.ownBlock = some k) w w' := by
  obtain ⟨g, rfl, ho, hB, hg, hm⟩ := ho
  rw [← List.length_append] at ho ⊢
  exact (spoil_row ho (by simp) hL _).mono fun e w' ⟨h1, h2⟩ => ⟨h1, h2.mono fun k _ hk => by simp [Value.ownBlock, hk]⟩
end
section
set_option linter.unusedVariables false
open Go.RowKit

theorem run_getMap {P : Program} {α : Type} (m : Nat) (es : Array MapEntry) (c : Nat) (k : Obj → Sem α) (w : World) (h : w.heap[m]? = some (.map es c)) : (Sem.getObj m k).run P w = (k (.map es c)).run P w := by
  simp only [Sem.run, h]
def setMap (w : World) (m : Nat) (o : Obj) : World := { w with heap := w.heap.setIfInBounds m o }
theorem run_setMap {P : Program} {α : Type} (m : Nat) (es : Array MapEntry) (c : Nat) (o : Obj) (k : Sem α) (w : World) (h : w.heap[m]? = some (.map es c)) : (Sem.setObj m o k).run P w = k.run P (setMap w m o) := by
  simp only [Sem.run, h]
  rfl

/-- an entry: its key, its value, when it was made -/
def ent (x : Int × Int × Nat) : MapEntry := { key := .int .i64 x.1, val := .int .i64 x.2.1, born := x.2.2 }
def IMap (w : World) (m : Nat) (L : List (Int × Int × Nat)) (c : Nat) : Prop := w.heap[m]? = some (.map (L.map ent).toArray c)
/-- where a key stands -/
def at? (L : List (Int × Int × Nat)) (k : Int) : Option (Nat × Int) :=
  match L with
  | [] => none
  | x :: r => if x.1 = k then some (0, x.2.1) else (at? r k).map fun y => (y.1 + 1, y.2)
def get (L : List (Int × Int × Nat)) (k : Int) : Option Int := (at? L k).map (·.2)
def upd (L : List (Int × Int × Nat)) (k v : Int) (c : Nat) : List (Int × Int × Nat) :=
  match at? L k with
  | some (i, _) => L.modify i fun x => (k, v, x.2.2)
  | none => L ++ [(k, v, c)]
def updc (L : List (Int × Int × Nat)) (k : Int) (c : Nat) : Nat := if (at? L k).isSome then c else c + 1

theorem find_ent (L : List (Int × Int × Nat)) (k : Int) (i : Nat) : Instr.findNow (.int .i64) (.int .i64 k) (L.map ent) i = some ((at? L k).map fun y => (y.1 + i, .int .i64 y.2)) := by
  induction L generalizing i with
  | nil => simp [Instr.findNow, at?]
  | cons x r ih =>
    simp only [List.map_cons, Instr.findNow, show (ent x).key = .int .i64 x.1 from rfl, show (ent x).val = .int .i64 x.2.1 from rfl, Instr.sameNow, at?, if_true]
    by_cases h : x.1 = k
    · subst h
      simp
    · have h1 : (k == x.1) = false := by simp; exact fun e => h e.symm
      rw [if_neg h, h1]
      simp only
      rw [ih (i + 1)]
      simp only [Option.map_map, Function.comp_def]
      congr 2
      funext y
      simp; omega

theorem run_findKey (L : List (Int × Int × Nat)) (k : Int) (w : World) : (Instr.findKey 3 (.int .i64 k) (L.map ent)).run Try.prog w = .ok ((at? L k).map fun y => (y.1, .int .i64 y.2)) w := by
  have h := find_ent L k 0
  simp only [Nat.add_zero] at h
  simp [Instr.findKey, Sem.run_bind, run_underlying Try.underlying3, h]

theorem run_checkKey (b : Bool) (k : Int) (w : World) : (Instr.checkKey b 10000 3 (.int .i64 k)).run Try.prog w = .ok () w := by kernel_rfl

theorem zero3 (w : World) : (zeroValue 3).run Try.prog w = .ok (.int .i64 0) w := by kernel_rfl

theorem run_look (m c : Nat) (L : List (Int × Int × Nat)) (k : Int) (w : World) (h : IMap w m L c) :
    (Instr.lookup 60 (.map (some m)) (.int .i64 k) true).run Try.prog w = .ok (.tuple #[.int .i64 ((get L k).getD 0), .bool (get L k).isSome]) w := by
  have hz := zero3 w
  have hk := fun b => run_checkKey b k w
  have hf := run_findKey L k w
  cases hq : at? L k with
  | none =>
    rw [hq] at hf
    simp [Instr.lookup, run_underlying Try.underlying60, getObj, run_getMap _ _ _ _ _ h, hk, hf, go_sem, get, hq]
  | some y =>
    rw [hq] at hf
    simp [Instr.lookup, run_underlying Try.underlying60, getObj, run_getMap _ _ _ _ _ h, hk, hf, go_sem, get, hq]
theorem run_look_nil (k : Int) (w : World) : (Instr.lookup 60 (.map none) (.int .i64 k) true).run Try.prog w = .ok (.tuple #[.int .i64 0, .bool false]) w := by kernel_rfl

theorem at_lt {L : List (Int × Int × Nat)} {k : Int} {i : Nat} {v : Int} (h : at? L k = some (i, v)) : i < L.length ∧ ∀ (hi : i < L.length), (L[i]).1 = k := by
  induction L generalizing i with
  | nil => simp [at?] at h
  | cons x r ih =>
    simp only [at?] at h
    by_cases e : x.1 = k
    · simp [e] at h
      obtain ⟨rfl, _⟩ := h
      exact ⟨by simp, fun _ => by simpa using e⟩
    · rw [if_neg e] at h
      simp only [Option.map_eq_some_iff, Prod.mk.injEq] at h
      obtain ⟨⟨j, u⟩, hy, rfl, rfl⟩ := h
      have := ih hy
      exact ⟨by simp; omega, fun _ => by simpa using this.2 this.1⟩

theorem modify_ent (L : List (Int × Int × Nat)) (i : Nat) (k v : Int) : ((L.map ent).modify i fun e => { e with key := .int .i64 k, val := .int .i64 v }) = (L.modify i fun x => (k, v, x.2.2)).map ent := by
  induction L generalizing i with
  | nil => simp
  | cons x r ih =>
    cases i with
    | zero => simp [ent]
    | succ i => simpa using ih i

theorem run_update (m c : Nat) (L : List (Int × Int × Nat)) (k v : Int) (w : World) (h : IMap w m L c) :
    (Instr.mapUpdate 60 (.map (some m)) (.int .i64 k) (.int .i64 v)).run Try.prog w = .ok () (setMap w m (.map ((upd L k v c).map ent).toArray (updc L k c))) := by
  have hk := fun b => run_checkKey b k w
  have hf := run_findKey L k w
  cases hq : at? L k with
  | none =>
    rw [hq] at hf
    simp [Instr.mapUpdate, run_underlying Try.underlying60, getObj, setObj, run_getMap _ _ _ _ _ h, run_setMap _ _ _ _ _ _ h, hk, hf, go_sem, upd, updc, hq, ent]
  | some y =>
    rw [hq] at hf
    obtain ⟨h1, h2⟩ := at_lt (i := y.1) (v := y.2) hq
    have hs : Instr.sameBits 10000 (Value.int .i64 k) (.int .i64 k) = true := by simp [Instr.sameBits]
    have hg : (Option.map ((fun x => x.key) ∘ ent) L[y.1]?).getD (.int .i64 k) = .int .i64 k := by
      simp [h1, ent, h2 h1]
    have hst : (Instr.keyThatStays (.int .i64 k) (.int .i64 k)).run Try.prog w = .ok (.int .i64 k) w := by simp [Instr.keyThatStays, hs]
    have hm := modify_ent L y.1 k v
    have hset := run_setMap (P := Try.prog) (α := Unit) m _ _ (Obj.map ((List.map ent L).modify y.fst fun e => { key := Value.int IntKind.i64 k, val := Value.int IntKind.i64 v, born := e.born }).toArray c) (Sem.pure ()) w h
    simp [Instr.mapUpdate, run_underlying Try.underlying60, getObj, setObj, run_getMap _ _ _ _ _ h, hk, hf, go_sem, upd, updc, hq]
    rw [hg, hst]
    show Sem.run Try.prog (Sem.setObj m _ (Sem.pure ())) w = _
    rw [hset, hm]
    rfl

theorem get_upd (L : List (Int × Int × Nat)) (k v j : Int) (c : Nat) : get (upd L k v c) j = if j = k then some v else get L j := by
  unfold get upd
  cases hq : at? L k with
  | none =>
    simp only
    induction L with
    | nil =>
      by_cases e : j = k
      · simp [at?, e]
      · have e2 : ¬ k = j := fun h => e h.symm
        simp [at?, e, e2]
    | cons x r ih =>
      simp only [at?] at hq
      by_cases e : x.1 = k
      · simp [e] at hq
      · rw [if_neg e] at hq
        have := ih (by simpa using hq)
        simp only [List.cons_append, at?]
        by_cases e2 : x.1 = j
        · have : ¬ j = k := fun h => e (e2.trans h)
          simp [e2, this]
        · simp only [e2, if_false, Option.map_map, Function.comp_def] at this ⊢
          simpa [Function.comp_def] using this
  | some y =>
    simp only
    induction L generalizing y with
    | nil => simp [at?] at hq
    | cons x r ih =>
      simp only [at?] at hq
      by_cases e : x.1 = k
      · simp [e] at hq
        subst hq
        simp only [List.modify_zero_cons, at?]
        by_cases e2 : j = k
        · simp [e2]
        · have : ¬ k = j := fun h => e2 h.symm
          have h3 : ¬ x.1 = j := fun h => e2 (h.symm.trans e)
          simp [this, h3, e2]
      · rw [if_neg e] at hq
        simp only [Option.map_eq_some_iff] at hq
        obtain ⟨z, hz, rfl⟩ := hq
        have := ih (y := z) hz
        simp only [List.modify_succ_cons, at?]
        by_cases e2 : x.1 = j
        · have : ¬ j = k := fun h => e (e2.trans h)
          simp [e2, this]
        · simp only [e2, if_false, Option.map_map, Function.comp_def] at this ⊢
          simpa [Function.comp_def] using this
end
end Go.Proofs.Ytmnbkhgogogeiaa
