/-
  awake, as a closed run.
-/
import Derived.Test.YtmnbkhgogogeiaaFlush
namespace Go.Proofs.Ytmnbkhgogogeiaa
set_option linter.unusedVariables false
open Go.RowKit

/-- a disk whose blocks lie from B on, below the heap's end -/
def Lies (B : Nat) (w : World) (O : Nat → Prop) : Prop := ∀ k, O k → B ≤ k ∧ k < w.heap.size
theorem Lies.mono {B : Nat} {w w' : World} {O : Nat → Prop} (h : Lies B w O) (hs : w.heap.size ≤ w'.heap.size) : Lies B w' O := fun k hk => ⟨(h k hk).1, Nat.lt_of_lt_of_le (h k hk).2 hs⟩

/-- the blocks of a disk, no others -/
def Mine (p : Nat) (kv wv mv : Value) (k : Nat) : Prop := k = p ∨ kv.ownBlock = some k ∨ wv.ownBlock = some k ∨ mv = .map (some k)
theorem Dk.mine {w : World} {O : Nat → Prop} {p : Nat} {kv wv mv : Value} {S : List (List Nat)} {W : List (Nat × List Nat)} {arm : Nat} {down : Bool} (h : Dk w O p kv wv mv S W arm down) : Dk w (Mine p kv wv mv) p kv wv mv S W arm down :=
  ⟨h.row, h.kept, h.waits, h.last, h.good, .inl rfl, fun k hk => .inr (.inl hk), fun k hk => .inr (.inr (.inl hk)), fun k hk => .inr (.inr (.inr hk))⟩
theorem Dk.sub {w : World} {O : Nat → Prop} {p : Nat} {kv wv mv : Value} {S : List (List Nat)} {W : List (Nat × List Nat)} {arm : Nat} {down : Bool} (h : Dk w O p kv wv mv S W arm down) : ∀ k, Mine p kv wv mv k → O k := by
  rintro k (rfl | hk | hk | hk)
  · exact h.op
  · exact h.ok k hk
  · exact h.ow k hk
  · exact h.om k hk
/-- a block that is no disk's -/
def Alien (w : World) (v : Value) : Prop := ∀ k, v.ownBlock = some k → ∃ cs t fr, w.heap[k]? = some (.cells cs t fr) ∧ t ≠ 62 ∧ t ≠ 143 ∧ t ≠ 145
theorem OwnB.alien {w : World} {B : Nat} {v : Value} {l : List Nat} (h : OwnB w B v l) : Alien w v := by
  intro k hk
  rcases h.2 with ⟨rfl, _⟩ | ⟨g, cap, cur, rfl, _, hh, _⟩
  · cases hk
  · simp [Value.ownBlock] at hk
    subst hk
    exact ⟨_, _, _, hh, by decide, by decide, by decide⟩
theorem Alien.not_mine {w : World} {O : Nat → Prop} {p : Nat} {kv wv mv : Value} {S : List (List Nat)} {W : List (Nat × List Nat)} {arm : Nat} {down : Bool} {v : Value} (ha : Alien w v) (h : Dk w O p kv wv mv S W arm down) : ∀ k, v.ownBlock = some k → ¬ Mine p kv wv mv k := by
  intro k hk hm
  obtain ⟨cs, t, fr, hh, h1, h2, h3⟩ := ha k hk
  rcases hm with rfl | hm | hm | hm
  · have := h.row
    unfold DkV at this
    rw [this] at hh
    simp at hh
    exact h1 hh.2.1.symm
  · exact ownsRow_ne h.kept hh h2 k hm rfl
  · exact ownsRow_ne h.waits hh h3 k hm rfl
  · rcases h.last with ⟨e, _⟩ | ⟨m, L, c, e, hi, _⟩
    · rw [hm] at e; cases e
    · rw [hm] at e
      obtain rfl : k = m := by simpa using e
      unfold IMap at hi
      rw [hh] at hi
      simp at hi

/-- what is known of a disk between two calls: its blocks from B on, all that was there before w0 untouched -/
structure Held (B : Nat) (w0 w : World) (p : Nat) (kv : Value) (S : List (List Nat)) (W : List (Nat × List Nat)) (arm : Nat) (down : Bool) : Prop where
  dk : ∃ wv mv, Dk w (Mine p kv wv mv) p kv wv mv S W arm down ∧ Lies B w (Mine p kv wv mv)
  below : Below B w0 w
  base : B ≤ w0.heap.size

theorem Held.below' {B : Nat} {w0 w w' : World} {p : Nat} {kv : Value} {S : List (List Nat)} {W : List (Nat × List Nat)} {arm : Nat} {down : Bool} (h : Held B w0 w p kv S W arm down) (hb : Below w.heap.size w w') : Held B w0 w' p kv S W arm down := by
  obtain ⟨wv, mv, hd, hl⟩ := h.dk
  have hs := h.below.size
  have hb0 := h.base
  exact ⟨⟨wv, mv, hd.beside (own := fun _ => False) ⟨hb.os, hb.tape, hb.output, hb.size, fun k hk _ => hb.block k hk⟩ (fun _ _ h => h), hl.mono hb.size⟩, h.below.trans (hb.mono (by omega)), hb0⟩
/-- a change beside the disk's blocks -/
theorem Held.beside' {B : Nat} {w0 w w' : World} {p : Nat} {kv v : Value} {S : List (List Nat)} {W : List (Nat × List Nat)} {arm : Nat} {down : Bool} (h : Held B w0 w p kv S W arm down) (hb : Beside (fun k => v.ownBlock = some k) w w') (ha : Alien w v) (hB : ∀ k, v.ownBlock = some k → B ≤ k) : Held B w0 w' p kv S W arm down := by
  obtain ⟨wv, mv, hd, hl⟩ := h.dk
  have hs := h.below.size
  have hb0 := h.base
  exact ⟨⟨wv, mv, hd.beside hb (fun k hk hv => ha.not_mine hd k hv hk), hl.mono hb.size⟩, h.below.trans (hb.below hB (by omega)), hb0⟩
theorem Held.ended {B : Nat} {w0 w w' : World} {O : Nat → Prop} {p : Nat} {kv v : Value} {S : List (List Nat)} {W : List (Nat × List Nat)} {arm : Nat} {down : Bool} {e : Ending} (hb : Below B w0 w) (hB : B ≤ w0.heap.size) (hl : Lies B w O) (h : DkEnd w O p kv S W arm down v e w') : e = .returned v ∧ Held B w0 w' p kv S W arm down := by
  obtain ⟨wv', mv', O', rfl, hd, hbs, ho⟩ := h
  have hs := hb.size
  refine ⟨rfl, ⟨wv', mv', hd.mine, fun k hk => ?_⟩, hb.trans (hbs.below (fun k hk => (hl k hk).1) (by omega)), hB⟩
  have := hbs.size
  rcases ho k (hd.sub k hk) with h1 | h1
  · have := hl k h1
    omega
  · omega

theorem new_held (n : Nat) (w : World) (h1 : 1 ≤ n) (h2 : n ≤ 65536) : Calls Try.prog 7 #[.int .i64 (n : Int)] w fun e w' => ∃ p kv, e = .returned (.tuple #[.pointer (some ⟨p, 0, none⟩), .int .i64 0]) ∧ Held w.heap.size w w' p kv (List.replicate n (zeros 64)) [] 0 false :=
  (new_yes n w h1 h2).mono fun e w' ⟨p, kv, he, hd, hb⟩ => ⟨p, kv, he, ⟨_, _, hd.mine, fun k hk => hd.sub k hk⟩, hb, Nat.le_refl _⟩

theorem write_held {B : Nat} {w0 w : World} {p : Nat} {kv : Value} {S : List (List Nat)} {W : List (Nat × List Nat)} {arm : Nat} (h : Held B w0 w p kv S W arm false) (a : Nat) (ha : a < S.length) (v : Value) (b : List Nat) (hb : RowB w v b) (hbl : b.length = 64) (hv : Alien w v) (hwl : W.length < 1000000) (harm : arm ≤ 9223372036854775807) :
    Calls Try.prog 95 #[.pointer (some ⟨p, 0, none⟩), .int .i64 (a : Int), v] w fun e w' => e = .returned (.int .i64 (if (hitOf arm).2 then 3 else 0)) ∧ Held B w0 w' p kv S (W ++ [(a, b)]) (hitOf arm).1 (hitOf arm).2 := by
  obtain ⟨wv, mv, hd, hl⟩ := h.dk
  exact (write_ok hd a ha v b hb hbl (hv.not_mine hd) hwl harm).mono fun e w' he => Held.ended h.below h.base hl he
theorem flush_held {B : Nat} {w0 w : World} {p : Nat} {kv : Value} {S : List (List Nat)} {W : List (Nat × List Nat)} {arm a2 : Nat} (h : Held B w0 w p kv S W arm false) (harm : arm ≤ 9223372036854775807) (hh : hitOf arm = (a2, false)) :
    Calls Try.prog 61 #[.pointer (some ⟨p, 0, none⟩)] w fun e w' => e = .returned (.int .i64 0) ∧ Held B w0 w' p kv (flushed S W) [] a2 false := by
  obtain ⟨wv, mv, hd, hl⟩ := h.dk
  exact (flush_ok hd harm hh).mono fun e w' he => Held.ended h.below h.base hl he
theorem read_held {B : Nat} {w0 w : World} {p : Nat} {kv : Value} {S : List (List Nat)} {W : List (Nat × List Nat)} {arm : Nat} (h : Held B w0 w p kv S W arm false) (a : Nat) (ha : a < S.length) :
    Calls Try.prog 75 #[.pointer (some ⟨p, 0, none⟩), .int .i64 (a : Int)] w fun e w' => ∃ o, e = .returned (.tuple #[o, .int .i64 0]) ∧ OwnB w' w.heap.size o (shown S W a) ∧ Below w.heap.size w w' := by
  obtain ⟨wv, mv, hd, hl⟩ := h.dk
  exact read_ok hd a ha
theorem OwnB.rowB {w : World} {B : Nat} {v : Value} {l : List Nat} (h : OwnB w B v l) (h256 : ∀ n ∈ l, n < 256) : RowB w v l := by
  obtain ⟨hl, h2⟩ := h
  rcases h2 with ⟨rfl, h0⟩ | ⟨g, cap, cur, rfl, _, hh, hc, hm, hs, ht⟩
  · obtain rfl : l = [] := List.eq_nil_of_length_eq_zero h0
    exact rowB_nil w
  · refine ⟨_, _, _, rfl, rfl, hc, hm, h256, by simp, fun x hx i hi => ?_⟩
    obtain rfl := Option.some.inj hx
    rw [Addr.add_mid, Nat.zero_add, cell_of_row _ _ i _ 5 (0, 0) hh]
    have : (u8s l)[i]? = cur[i]? := by
      rw [← ht, List.getElem?_take_of_lt (by omega)]
      simp
    rw [← this, u8s_get l i hi]

theorem lit_rowB (w : World) (l : List Nat) (h256 : ∀ n ∈ l, n < 256) (hm : l.length ≤ maxLen) : RowB (w.alloc (.cells (u8s l).toArray 5)) (.slice (some ⟨w.heap.size, 0, none⟩) l.length l.length) l := by
  refine ⟨_, _, _, rfl, rfl, Nat.le_refl _, hm, h256, by simp, fun x hx i hi => ?_⟩
  obtain rfl := Option.some.inj hx
  rw [Addr.add_lit, Nat.zero_add, cell_of_row _ _ i _ 5 (0, 0) (heap_alloc_new w _)]
  simp [u8s, hi]
theorem lit_intB (w : World) (K : List Int) (hm : K.length ≤ maxLen) : IntB (w.alloc (.cells (K.map (.int .i64)).toArray 3)) (.slice (some ⟨w.heap.size, 0, none⟩) K.length K.length) K :=
  .inr ⟨_, _, _, rfl, Nat.le_refl _, hm, fun i hi => by
    rw [Nat.zero_add, cell_of_row _ _ i _ 3 (0, 0) (heap_alloc_new w _)]
    simp [hi]⟩
theorem lit_alien (w : World) (cs : Array Value) (t : TypeId) (n m : Nat) (h1 : t ≠ 62) (h2 : t ≠ 143) (h3 : t ≠ 145) : Alien (w.alloc (.cells cs t)) (.slice (some ⟨w.heap.size, 0, none⟩) n m) := by
  intro k hk
  obtain rfl : w.heap.size = k := by simpa [Value.ownBlock] using hk
  exact ⟨_, _, _, heap_alloc_new w _, h1, h2, h3⟩
theorem Held.alloc {B : Nat} {w0 w : World} {p : Nat} {kv : Value} {S : List (List Nat)} {W : List (Nat × List Nat)} {arm : Nat} {down : Bool} (h : Held B w0 w p kv S W arm down) (o : Obj) : Held B w0 (w.alloc o) p kv S W arm down := h.below' ((Below.refl _ _).alloc (Nat.le_refl _) _)

theorem own_64 {w : World} {B : Nat} {v : Value} {l : List Nat} (h : OwnB w B v l) {n : Nat} (hl : l.length = n) (hn : 0 < n) : ∃ g cap, v = .slice (some ⟨g, 0, none⟩) n cap ∧ n ≤ cap ∧ cap ≤ maxLen ∧ B ≤ g ∧ g < w.heap.size ∧ ∀ j (hj : j < l.length), w.cell? ⟨g, j, none⟩ = some (.int .u8 (l[j] : Nat)) := by
  subst hl
  rcases h.2 with ⟨e, h0⟩ | ⟨g, cap, cur, rfl, hb, hh, hc, hm, _⟩
  · omega
  · exact ⟨g, cap, rfl, hc, hm, hb, lt_of_block hh, fun j hj => OwnB.cell h rfl j hj⟩
end Go.Proofs.Ytmnbkhgogogeiaa
