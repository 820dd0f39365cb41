/-
  All blocks but some are as they were; the contract of Spoil.
-/
import Derived.Test.YtmnbkhgogogeiaaOwn
import Derived.BigQuiet
import Derived.BigRegion
import Derived.IntWalk
namespace Go.Proofs.Ytmnbkhgogogeiaa
set_option linter.unusedVariables false
open Go.RowKit

/-- all blocks but some are as they were -/
structure Beside (own : Nat → Prop) (w w' : World) : Prop where
  os : w'.os = w.os
  tape : w'.tape = w.tape
  output : w'.output = w.output
  size : w.heap.size ≤ w'.heap.size
  block : ∀ k, k < w.heap.size → ¬ own k → w'.heap[k]? = w.heap[k]?

theorem Beside.refl (own : Nat → Prop) (w : World) : Beside own w w := ⟨rfl, rfl, rfl, Nat.le_refl _, fun _ _ _ => rfl⟩
theorem Beside.trans {own : Nat → Prop} {a b c : World} (h : Beside own a b) (k : Beside own b c) : Beside own a c :=
  ⟨k.os.trans h.os, k.tape.trans h.tape, k.output.trans h.output, Nat.le_trans h.size k.size, fun i hi ho => (k.block i (Nat.lt_of_lt_of_le hi h.size) ho).trans (h.block i hi ho)⟩
theorem Beside.mono {own own' : Nat → Prop} {a b : World} (h : Beside own a b) (ho : ∀ k, k < a.heap.size → own k → own' k) : Beside own' a b :=
  ⟨h.os, h.tape, h.output, h.size, fun i hi hn => h.block i hi (fun h' => hn (ho i hi h'))⟩
theorem Beside.setCell {own : Nat → Prop} {a w : World} (h : Beside own a w) {p : Addr} (hp : own p.block ∨ a.heap.size ≤ p.block) (u : Value) : Beside own a (w.setCell p u) :=
  ⟨h.os, h.tape, h.output, by simpa [World.setCell] using h.size, fun i hi hn => (Below.heap_setCell _ _ _ _ (by rintro rfl; rcases hp with hp | hp; exact hn hp; omega)).trans (h.block i hi hn)⟩
theorem Beside.alloc {own : Nat → Prop} {a w : World} (h : Beside own a w) (o : Obj) : Beside own a (w.alloc o) :=
  ⟨h.os, h.tape, h.output, by have := h.size; simp; omega, fun i hi hn => (Below.heap_alloc _ _ _ (Nat.lt_of_lt_of_le hi h.size)).trans (h.block i hi hn)⟩
theorem Beside.drewN {own : Nat → Prop} {a w : World} (h : Beside own a w) (n : Nat) : Beside own a (w.drewN n) := ⟨h.os, h.tape, h.output, h.size, h.block⟩
theorem Beside.drew {own : Nat → Prop} {a w : World} (h : Beside own a w) : Beside own a w.drew := ⟨h.os, h.tape, h.output, h.size, h.block⟩
theorem Beside.grown {own : Nat → Prop} {a w w' : World} {row : Option Nat} (h : Beside own a w) (hg : w.grownBy w' row) (hr : ∀ k, row = some k → own k ∨ a.heap.size ≤ k) : Beside own a w' :=
  ⟨hg.os.trans h.os, hg.tape.trans h.tape, hg.output.trans h.output, Nat.le_trans h.size hg.size, fun i hi hn => (hg.block i (Nat.lt_of_lt_of_le hi h.size) (fun e => by rcases hr i e.symm with hp | hp; exact hn hp; omega)).trans (h.block i hi hn)⟩
theorem Beside.below {own : Nat → Prop} {a b : World} {B : Nat} (h : Beside own a b) (ho : ∀ k, own k → B ≤ k) (hB : B ≤ a.heap.size) : Below B a b :=
  ⟨h.os, h.tape, h.output, h.size, fun k hk => h.block k (by omega) (fun h' => by have := ho k h'; omega)⟩
theorem Below.beside {own : Nat → Prop} {a b : World} (h : Below a.heap.size a b) : Beside own a b := ⟨h.os, h.tape, h.output, h.size, fun k hk _ => h.block k hk⟩
theorem Beside.set {g j : Nat} {a w : World} (h : Beside (· = g) a w) (u : Value) : Beside (· = g) a (w.setCell ⟨g, j, none⟩ u) := Beside.setCell (own := (· = g)) h (Or.inl rfl) u
theorem Beside.upto (g : Nat) (w : World) (n : Nat) : Beside (· = g) w (w.drewN n) := (Beside.refl _ w).drewN n
theorem Beside.one (w : World) (h j : Nat) (u : Value) : Beside (· = h) w (w.setCell ⟨h, j, none⟩ u) := Beside.setCell (own := (· = h)) (Beside.refl _ _) (Or.inl rfl) u

theorem OwnB.ne {w : World} {B : Nat} {v : Value} {l : List Nat} (h : OwnB w B v l) {g : Nat} {cs : Array Value} {t : TypeId} {fr : Nat × Nat} (hg : w.heap[g]? = Option.some (.cells cs t fr)) (ht : t ≠ 5) : v.ownBlock ≠ Option.some g := by
  intro e
  rcases h.2 with ⟨rfl, _⟩ | ⟨g', cap, cur, rfl, _, hh, _⟩
  · cases e
  · simp [Value.ownBlock] at e
    subst e
    rw [hh] at hg
    simp at hg
    exact ht hg.2.1.symm

theorem OwnB.beside {w w' : World} {B : Nat} {v : Value} {l : List Nat} {own : Nat → Prop} (h : OwnB w B v l) (hb : Beside own w w') (hn : ∀ k, v.ownBlock = Option.some k → ¬ own k) : OwnB w' B v l := by
  refine ⟨h.1, ?_⟩
  rcases h.2 with h2 | ⟨g, cap, cur, rfl, hg, hh, r⟩
  · exact .inl h2
  · exact .inr ⟨g, cap, cur, rfl, hg, by rw [hb.block g (lt_of_block hh) (hn g rfl)]; exact hh, r⟩

theorem bits_xor (x : Nat) : ∃ m : Nat, bits .xor .u8 (x : Int) 85 = (m : Int) := by
  simp only [bits]
  rw [IntKind.wrap_u8]
  exact ⟨_, (Int.toNat_of_nonneg (Int.emod_nonneg _ (by decide))).symm⟩

theorem spoil_row {w : World} {B g n c : Nat} {L : List Nat} (ho : OwnB w B (.slice (some ⟨g, 0, none⟩) L.length c) L) (hn : n ≤ L.length) (hL : L.length ≤ 9223372036854775807) (k : Nat) :
    Calls Try.prog 18 #[.slice (some ⟨g, 0, none⟩) n k] w fun e w' => e = .returned (.tuple #[]) ∧ Beside (· = g) w w' := by
  have HO := Lib.hid ho
  clear ho
  go_enter Try.func18, Try.ntmps18
  go_wp2_with fail
  go_loopw [2] (fun i wr => ∃ (p : Nat) (M : List Nat), p ≤ n ∧ i = .int .i64 (p : Int) ∧ M.length = L.length ∧ OwnB wr B (.slice (some ⟨g, 0, none⟩) M.length c) M ∧ Beside (· = g) w wr) (fun i _ => ((n : Int) - intOf i).toNat)
  case atStart => exact ⟨0, L, by omega, rfl, rfl, HO.out, Beside.refl _ _⟩
  case round =>
    obtain ⟨p, M, hp, rfl, hM, hown, hbes⟩ := hrel
    by_cases hlt : p < n
    · have hpM : p < M.length := by omega
      have hcell := hown.cell rfl p hpM
      have hfree := hown.free rfl p
      have HO1 := Lib.hid hown
      have HB := Lib.hid hbes
      have HM := Lib.hid hM
      have hpi : (p : Int) < (n : Int) := by omega
      clear hown hbes hM
      generalize M[p] = x at *
      obtain ⟨m, hbx⟩ := bits_xor x
      have HS := Lib.hid (HO1.out.set rfl p m)
      go_wp2_with fail
      go_roundw
      case rel => exact ⟨p + 1, M.set p m, by omega, by go_num, by simp [HM.out], by simp only [List.length_set]; first | exact HS.out | (rw [hbx]; exact HS.out), HB.out.set _⟩
      case measure => simp [intOf]; omega
    · have hpi : ¬ (p : Int) < (n : Int) := by omega
      go_wp2_with fail
      go_end0
      exact ⟨rfl, hbes⟩

theorem spoil_nil (w : World) : Calls Try.prog 18 #[.slice none 0 0] w fun e w' => e = .returned (.tuple #[]) ∧ w = w' := by
  go_enter Try.func18, Try.ntmps18
  go_wp2_with fail
  refine wp_loop_rounds 1 ?_
  rw [rounds_succ]
  go_wp2_with fail
  go_end0
  exact ⟨rfl, rfl⟩

theorem spoil_own {w : World} {B : Nat} {v : Value} {L : List Nat} (ho : OwnB w B v L) (hL : L.length ≤ 9223372036854775807) :
    Calls Try.prog 18 #[v] w fun e w' => e = .returned (.tuple #[]) ∧ Beside (fun k => v.ownBlock = some k) w w' := by
  rcases ho.2 with ⟨rfl, h0⟩ | ⟨g, cap, cur, rfl, _⟩
  · exact (spoil_nil w).mono fun e w' ⟨h1, h2⟩ => ⟨h1, h2 ▸ Beside.refl _ _⟩
  · exact (spoil_row ho (Nat.le_refl _) hL cap).mono fun e w' ⟨h1, h2⟩ => ⟨h1, h2.mono fun k _ hk => by simp [Value.ownBlock, hk]⟩

theorem spoil_full {w : World} {B : Nat} {v : Value} {L m : List Nat} (ho : OwnF w B v L m) (hL : (L ++ m).length ≤ 9223372036854775807) :
    Calls Try.prog 18 #[v] w fun e w' => e = .returned (.tuple #[]) ∧ Beside (fun k => v.ownBlock = some k) w w' := by
  obtain ⟨g, rfl, ho, hB, hg, hm⟩ := ho
  rw [← List.length_append] at ho ⊢
  exact (spoil_row ho (by simp) hL _).mono fun e w' ⟨h1, h2⟩ => ⟨h1, h2.mono fun k _ hk => by simp [Value.ownBlock, hk]⟩

end Go.Proofs.Ytmnbkhgogogeiaa
