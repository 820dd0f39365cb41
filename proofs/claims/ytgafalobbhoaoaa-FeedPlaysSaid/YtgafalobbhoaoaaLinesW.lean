/-
  FeedLines: what is known between its steps.
-/
import Derived.Test.YtgafalobbhoaoaaLines1
import Derived.BigQuiet
import Derived.Deep.QuietTactic
namespace Go.Proofs.Ytgafalobbhoaoaa
set_option linter.unusedVariables false
open Go.RowKit

/-- a line that announces nothing, and has no line's end in it -/
def GoodL (s : ByteArray) : Prop := (∀ x ∈ natsS s, x ≠ 13 ∧ x ≠ 10) ∧ annP (natsS s) = none ∧ s.size ≤ 4094
/-- the bytes of lines -/
def linesB (us : List ByteArray) : List Nat := us.flatMap fun u => natsS u ++ [13, 10]
theorem linesB_snoc (us : List ByteArray) (u : ByteArray) : linesB (us ++ [u]) = linesB us ++ (natsS u ++ [13, 10]) := by simp [linesB]
theorem linesB_cons (us : List ByteArray) (u : ByteArray) : linesB (u :: us) = natsS u ++ 13 :: 10 :: linesB us := by simp [linesB]
theorem linesB_len (us : List ByteArray) (h : ∀ u ∈ us, u.size ≤ 4094) : (linesB us).length ≤ us.length * 4096 := by
  induction us with
  | nil => simp [linesB]
  | cons u us ih =>
    rw [linesB_cons]
    have h1 := h u (by simp)
    have h2 := ih (fun v hv => h v (by simp [hv]))
    simp only [List.length_append, List.length_cons, natsS_len]
    omega
theorem natsS_lt (s : ByteArray) : ∀ n ∈ natsS s, n < 256 := by
  intro n hn
  obtain ⟨b, _, rfl⟩ := List.mem_map.1 hn
  exact UInt8.toNat_lt b
theorem linesB_lt (us : List ByteArray) : ∀ n ∈ linesB us, n < 256 := by
  intro n hn
  unfold linesB at hn
  obtain ⟨u, _, h⟩ := List.mem_flatMap.1 hn
  rcases List.mem_append.1 h with h | h
  · exact natsS_lt u n h
  · simp at h; omega

/-- a row of texts is no block of bytes, nor a feed's -/
theorem strs_ne {w : World} {B : Nat} {v : Value} {n : Nat} {xs : List Value} (h : w.ownsRow B 9 1 v n xs) {g : Nat} {cur : Array Value} {t : TypeId} {fr : Nat × Nat} (hg : w.heap[g]? = some (.cells cur t fr)) (ht : t ≠ 9) : v.ownBlock ≠ some g := by
  intro e
  rcases h.2 with ⟨rfl, _⟩ | ⟨g', cap, cur', rfl, hb, hh, _⟩
  · simp [Value.ownBlock] at e
  · simp [Value.ownBlock] at e
    subst e
    rw [hg] at hh
    simp at hh
    exact ht hh.2.1
theorem strs_keep {w w' : World} {B : Nat} {v : Value} {n : Nat} {xs : List Value} (h : w.ownsRow B 9 1 v n xs) (hk : ∀ g, v.ownBlock = some g → w'.heap[g]? = w.heap[g]?) : w'.ownsRow B 9 1 v n xs := by
  refine ⟨h.1, ?_⟩
  rcases h.2 with h2 | ⟨g, cap, cur, rfl, hb, hh, k⟩
  · exact .inl h2
  · exact .inr ⟨g, cap, cur, rfl, hb, by rw [hk g rfl]; exact hh, k⟩
theorem strs_lt {w : World} {B : Nat} {v : Value} {n : Nat} {xs : List Value} (h : w.ownsRow B 9 1 v n xs) : ∀ g, v.ownBlock = some g → B ≤ g ∧ g < w.heap.size := by
  intro g hg
  rcases h.2 with ⟨rfl, _⟩ | ⟨g', cap, cur, rfl, hb, hh, _⟩
  · simp [Value.ownBlock] at hg
  · simp [Value.ownBlock] at hg; subst hg; exact ⟨hb, (Array.getElem?_eq_some_iff.1 hh).1⟩
theorem own_type {w : World} {B : Nat} {v : Value} {l : List Nat} (h : OwnB w B v l) : ∀ g, v.ownBlock = some g → ∃ cur, w.heap[g]? = some (.cells cur 5 (0, 0)) := by
  intro g hg
  rcases h.2 with ⟨rfl, _⟩ | ⟨g', cap, cur, rfl, hb, hh, _⟩
  · simp [Value.ownBlock] at hg
  · simp [Value.ownBlock] at hg; subst hg; exact ⟨cur, hh⟩
theorem rest_type {w : World} {v : Value} {l : List Nat} (h : RestB w v l) : ∀ g, v.ownBlock = some g → ∃ cur, w.heap[g]? = some (.cells cur 5 (0, 0)) := by
  intro g hg
  rcases h.2 with ⟨rfl, _⟩ | ⟨g', off, cap, cur, rfl, hh, _⟩
  · simp [Value.ownBlock] at hg
  · simp [Value.ownBlock] at hg; subst hg; exact ⟨cur, hh⟩

/-- while lines are put -/
structure Putting (w wr : World) (p : Nat) (B : List Nat) (us : List ByteArray) (v r : Value) : Prop where
  f : FeedB wr p .nilFunc r (.slice none 0 0) 0 0 0 0 0
  o : OwnB wr 0 r B
  v : wr.ownsRow w.heap.size 9 1 v us.length (us.map Value.string)
  b : Below w.heap.size w wr
  pl : w.heap.size ≤ p
  rl : ∀ g, r.ownBlock = some g → w.heap.size ≤ g

theorem Putting.below {w wr w2 : World} {p : Nat} {B : List Nat} {us : List ByteArray} {v r : Value} (k : Putting w wr p B us v r) (hb : Below wr.heap.size wr w2) : Putting w w2 p B us v r :=
  ⟨k.f.keep hb k.f.lt, k.o.keep hb (ownB_lt k.o), strs_keep k.v (fun g hg => hb.block g (strs_lt k.v g hg).2), k.b.trans (hb.mono k.b.size), k.pl, k.rl⟩
theorem Putting.put {w wr w2 : World} {p : Nat} {B l : List Nat} {us : List ByteArray} {v r r' : Value} (k : Putting w wr p B us v r) (hf : FeedB w2 p .nilFunc r' (.slice none 0 0) 0 0 0 0 0) (ho : OwnB w2 0 r' (B ++ l)) (ft : Foot p r wr w2) (mv : Moved r r' wr) : Putting w w2 p (B ++ l) us v r' := by
  refine ⟨hf, ho, strs_keep k.v (fun g hg => ft.block g (strs_lt k.v g hg).2 ?_ ?_), ⟨ft.os.trans k.b.os, ft.tape.trans k.b.tape, ft.output.trans k.b.output, Nat.le_trans k.b.size ft.size, fun b hb => (ft.block b (Nat.lt_of_lt_of_le hb k.b.size) (by have := k.pl; omega) (fun e => by have := k.rl b e; omega)).trans (k.b.block b hb)⟩, k.pl, ?_⟩
  · rintro rfl
    exact strs_ne k.v k.f.row (by decide) hg
  · intro e
    obtain ⟨cur, hh⟩ := own_type k.o g e
    exact strs_ne k.v hh (by decide) hg
  · intro g hg
    rcases mv with m | m
    · rw [m] at hg; exact k.rl g hg
    · have := m g hg; have := k.b.size; omega
/-- one line more is wanted -/
theorem Putting.want {w wr w2 : World} {p : Nat} {B : List Nat} {us : List ByteArray} {v r v' : Value} {u : ByteArray} (k : Putting w wr p B us v r) (o : Obj) (hv : w2.ownsRow w.heap.size 9 1 v' (us.length + 1) (us.map Value.string ++ [.string u])) (hg : (wr.alloc o).grownBy w2 v.ownBlock) : Putting w w2 p B (us ++ [u]) v' r := by
  have hne : v.ownBlock ≠ some p := strs_ne k.v k.f.row (by decide)
  have hvl := strs_lt k.v
  refine ⟨(k.f.alloc o).grown hg hne, ?_, ?_, ⟨hg.os.trans k.b.os, hg.tape.trans k.b.tape, hg.output.trans k.b.output, Nat.le_trans (Nat.le_trans k.b.size (by simp)) hg.size, fun b hb => ?_⟩, k.pl, k.rl⟩
  · refine ⟨k.o.1, ?_⟩
    rcases k.o.2 with h2 | ⟨g, cap, cur, rfl, hb, hh, rr⟩
    · exact .inl h2
    · have hgl := (Array.getElem?_eq_some_iff.1 hh).1
      refine .inr ⟨g, cap, cur, rfl, hb, ?_, rr⟩
      rw [hg.block g (by simp; omega) (fun e => strs_ne k.v hh (by decide) e.symm), Below.heap_alloc wr o g hgl]
      exact hh
  · simpa using hv
  · have hbl : b < wr.heap.size := Nat.lt_of_lt_of_le hb k.b.size
    rw [hg.block b (by simp; omega) (fun e => by have := (hvl b e.symm).1; omega), Below.heap_alloc wr o b hbl]
    exact k.b.block b hb

/-- while they are told -/
structure Telling (w wr : World) (p : Nat) (R : List Nat) (s : St) (us : List ByteArray) (v r h : Value) : Prop where
  f : FeedN wr p r h s
  ok : Ok s
  rest : RestB wr r R
  v : wr.ownsRow w.heap.size 9 1 v us.length (us.map Value.string)
  b : Below w.heap.size w wr
  pl : w.heap.size ≤ p
  rl : ∀ g, r.ownBlock = some g → w.heap.size ≤ g
  hl : ∀ g, h.ownBlock = some g → w.heap.size ≤ g
  d : ∀ g, r.ownBlock = some g → h.ownBlock ≠ some g
theorem FeedN.feed {w : World} {p : Nat} {r h : Value} {s : St} (k : FeedN w p r h s) : ∃ f, FeedB w p f r h s.seg s.len s.lits s.left s.ahead ∧ OwnB w 0 h s.H := by
  rcases k with k | ⟨_, k1, k2⟩
  · exact ⟨_, k.b, k.o⟩
  · exact ⟨_, k1, k2⟩
theorem Telling.next {w wr w2 : World} {p : Nat} {R R' : List Nat} {s s' : St} {us : List ByteArray} {v r r' h h' : Value} (k : Telling w wr p R s us v r h) (hf : FeedS w2 p r' h' s') (hok : Ok s') (hr : RestB w2 r' R') (hrb : r'.ownBlock = r.ownBlock ∨ r'.ownBlock = none) (ft : Foot p h wr w2) (mv : Moved h h' wr) : Telling w w2 p R' s' us v r' h' := by
  obtain ⟨f, kb, ko⟩ := k.f.feed
  refine ⟨.inl hf, hok, hr, strs_keep k.v (fun g hg => ft.block g (strs_lt k.v g hg).2 ?_ ?_), ⟨ft.os.trans k.b.os, ft.tape.trans k.b.tape, ft.output.trans k.b.output, Nat.le_trans k.b.size ft.size, fun b hb => (ft.block b (Nat.lt_of_lt_of_le hb k.b.size) (by have := k.pl; omega) (fun e => by have := k.hl b e; omega)).trans (k.b.block b hb)⟩, k.pl, ?_, ?_, ?_⟩
  · rintro rfl
    exact strs_ne k.v kb.row (by decide) hg
  · intro e
    obtain ⟨cur, hh⟩ := own_type ko g e
    exact strs_ne k.v hh (by decide) hg
  · intro g hg
    rcases hrb with m | m
    · rw [m] at hg; exact k.rl g hg
    · rw [m] at hg; cases hg
  · intro g hg
    rcases mv with m | m
    · rw [m] at hg; exact k.hl g hg
    · have := m g hg; have := k.b.size; omega
  · intro g hg e
    have hg' : r.ownBlock = some g := by
      rcases hrb with m | m
      · rw [m] at hg; exact hg
      · rw [m] at hg; cases hg
    rcases mv with m | m
    · rw [m] at e; exact k.d g hg' e
    · have := m g e; have := k.rest.lt g hg'; omega
theorem Telling.below {w wr w2 : World} {p : Nat} {R : List Nat} {s : St} {us : List ByteArray} {v r h : Value} (k : Telling w wr p R s us v r h) (hb : Below wr.heap.size wr w2) : Telling w w2 p R s us v r h := by
  refine ⟨?_, k.ok, k.rest.keep (fun g hg => hb.block g (k.rest.lt g hg)), strs_keep k.v (fun g hg => hb.block g (strs_lt k.v g hg).2), k.b.trans (hb.mono k.b.size), k.pl, k.rl, k.hl, k.d⟩
  rcases k.f with f | ⟨m, f, o⟩
  · exact .inl ⟨f.b.keep hb f.b.lt, f.o.keep hb (ownB_lt f.o)⟩
  · exact .inr ⟨m, f.keep hb f.lt, o.keep hb (ownB_lt o)⟩
end Go.Proofs.Ytgafalobbhoaoaa
