/-
  Several texts of one proof, each in a section of its own: Awake, Rest, Num.
-/
import Derived.Test.YtmnbkhgogogeiaaRg6
import Derived.Shelf.SlMaps.Clone
import Derived.Lib.EndianBits
namespace Go.Proofs.Ytmnbkhgogogeiaa
section
set_option linter.unusedVariables false
open Go.RowKit

/-- a disk whose blocks lie from B on, below the heap's end -/
def Lies (B : Nat) (w : World) (O : Nat → Prop) : Prop := ∀ k, O k → B ≤ k ∧ k < w.heap.size
theorem Lies.mono {B : Nat} {w w' : World} {O : Nat → Prop} (h : Lies B w O) (hs : w.heap.size ≤ w'.heap.size) : Lies B w' O := fun k hk => ⟨(h k hk).1, Nat.lt_of_lt_of_le (h k hk).2 hs⟩

/-- the blocks of a disk, no others -/
def Mine (p : Nat) (kv wv mv : Value) (k : Nat) : Prop := k = p ∨ kv.ownBlock = some k ∨ wv.ownBlock = some k ∨ mv = .map (some k)
theorem Dk.mine {w : World} {O : Nat → Prop} {p : Nat} {kv wv mv : Value} {S : List (List Nat)} {W : List (Nat × List Nat)} {arm : Nat} {down : Bool} (h : Dk w O p kv wv mv S W arm down) : Dk w (Mine p kv wv mv) p kv wv mv S W arm down :=
  ⟨h.row, h.kept, h.waits, h.last, h.good, .inl rfl, fun k hk => .inr (.inl hk), fun k hk => .inr (.inr (.inl hk)), fun k hk => .inr (.inr (.inr hk))⟩
theorem Dk.sub {w : World} {O : Nat → Prop} {p : Nat} {kv wv mv : Value} {S : List (List Nat)} {W : List (Nat × List Nat)} {arm : Nat} {down : Bool} (h : Dk w O p kv wv mv S W arm down) : ∀ k, Mine p kv wv mv k → O k := by
  rintro k (rfl | hk | hk | hk)
  · exact h.op
  · exact h.ok k hk
  · exact h.ow k hk
  · exact h.om k hk
/-- a block that is no disk's -/
def Alien (w : World) (v : Value) : Prop := ∀ k, v.ownBlock = some k → ∃ cs t fr, w.heap[k]? = some (.cells cs t fr) ∧ t ≠ 62 ∧ t ≠ 143 ∧ t ≠ 145
theorem OwnB.alien {w : World} {B : Nat} {v : Value} {l : List Nat} (h : OwnB w B v l) : Alien w v := by
  intro k hk
  rcases h.2 with ⟨rfl, _⟩ | ⟨g, cap, cur, rfl, _, hh, _⟩
  · cases hk
  · simp [Value.ownBlock] at hk
    subst hk
    exact ⟨_, _, _, hh, by decide, by decide, by decide⟩
theorem Alien.not_mine {w : World} {O : Nat → Prop} {p : Nat} {kv wv mv : Value} {S : List (List Nat)} {W : List (Nat × List Nat)} {arm : Nat} {down : Bool} {v : Value} (ha : Alien w v) (h : Dk w O p kv wv mv S W arm down) : ∀ k, v.ownBlock = some k → ¬ Mine p kv wv mv k := by
  intro k hk hm
  obtain ⟨cs, t, fr, hh, h1, h2, h3⟩ := ha k hk
  rcases hm with rfl | hm | hm | hm
  · have := h.row
    unfold DkV at this
    rw [this] at hh
    simp at hh
    exact h1 hh.2.1.symm
  · exact ownsRow_ne h.kept hh h2 k hm rfl
  · exact ownsRow_ne h.waits hh h3 k hm rfl
  · rcases h.last with ⟨e, _⟩ | ⟨m, L, c, e, hi, _⟩
    · rw [hm] at e; cases e
    · rw [hm] at e
      obtain rfl : k = m := by simpa using e
      unfold IMap at hi
      rw [hh] at hi
      simp at hi

/-- what is known of a disk between two calls: its blocks from B on, all that was there before w0 untouched -/
structure Held (B : Nat) (w0 w : World) (p : Nat) (kv : Value) (S : List (List Nat)) (W : List (Nat × List Nat)) (arm : Nat) (down : Bool) : Prop where
  dk : ∃ wv mv, Dk w (Mine p kv wv mv) p kv wv mv S W arm down ∧ Lies B w (Mine p kv wv mv)
  below : Below B w0 w
  base : B ≤ w0.heap.size

theorem Held.below' {B : Nat} {w0 w w' : World} {p : Nat} {kv : Value} {S : List (List Nat)} {W : List (Nat × List Nat)} {arm : Nat} {down : Bool} (h : Held B w0 w p kv S W arm down) (hb : Below w.heap.size w w') : Held B w0 w' p kv S W arm down := by
  obtain ⟨wv, mv, hd, hl⟩ := h.dk
  have hs := h.below.size
  have hb0 := h.base
  exact ⟨⟨wv, mv, hd.beside (own := fun _ => False) ⟨hb.os, hb.tape, hb.output, hb.size, fun k hk _ => hb.block k hk⟩ (fun _ _ h => h), hl.mono hb.size⟩, h.below.trans (hb.mono (by omega)), hb0⟩
/-- a change beside the disk's blocks -/
theorem Held.beside' {B : Nat} {w0 w w' : World} {p : Nat} {kv v : Value} {S : List (List Nat)} {W : List (Nat × List Nat)} {arm : Nat} {down : Bool} (h : Held B w0 w p kv S W arm down) (hb : Beside (fun k => v.ownBlock = some k) w w') (ha : Alien w v) (hB : ∀ k, v.ownBlock = some k → B ≤ k) : Held B w0 w' p kv S W arm down := by
  obtain ⟨wv, mv, hd, hl⟩ := h.dk
  have hs := h.below.size
  have hb0 := h.base
  exact ⟨⟨wv, mv, hd.beside hb (fun k hk hv => ha.not_mine hd k hv hk), hl.mono hb.size⟩, h.below.trans (hb.below hB (by omega)), hb0⟩
theorem Held.ended {B : Nat} {w0 w w' : World} {O : Nat → Prop} {p : Nat} {kv v : Value} {S : List (List Nat)} {W : List (Nat × List Nat)} {arm : Nat} {down : Bool} {e : Ending} (hb : Below B w0 w) (hB : B ≤ w0.heap.size) (hl : Lies B w O) (h : DkEnd w O p kv S W arm down v e w') : e = .returned v ∧ Held B w0 w' p kv S W arm down := by
  obtain ⟨wv', mv', O', rfl, hd, hbs, ho⟩ := h
  have hs := hb.size
  refine ⟨rfl, ⟨wv', mv', hd.mine, fun k hk => ?_⟩, hb.trans (hbs.below (fun k hk => (hl k hk).1) (by omega)), hB⟩
  have := hbs.size
  rcases ho k (hd.sub k hk) with h1 | h1
  · have := hl k h1
    omega
  · omega

theorem new_held (n : Nat) (w : World) (h1 : 1 ≤ n) (h2 : n ≤ 65536) : Calls Try.prog 7 #[.int .i64 (n : Int)] w fun e w' => ∃ p kv, e = .returned (.tuple #[.pointer (some ⟨p, 0, none⟩), .int .i64 0]) ∧ Held w.heap.size w w' p kv (List.replicate n (zeros 64)) [] 0 false :=
  (new_yes n w h1 h2).mono fun e w' ⟨p, kv, he, hd, hb⟩ => ⟨p, kv, he, ⟨_, _, hd.mine, fun k hk => hd.sub k hk⟩, hb, Nat.le_refl _⟩

theorem write_held {B : Nat} {w0 w : World} {p : Nat} {kv : Value} {S : List (List Nat)} {W : List (Nat × List Nat)} {arm : Nat} (h : Held B w0 w p kv S W arm false) (a : Nat) (ha : a < S.length) (v : Value) (b : List Nat) (hb : RowB w v b) (hbl : b.length = 64) (hv : Alien w v) (hwl : W.length < 1000000) (harm : arm ≤ 9223372036854775807) :
    Calls Try.prog 95 #[.pointer (some ⟨p, 0, none⟩), .int .i64 (a : Int), v] w fun e w' => e = .returned (.int .i64 (if (hitOf arm).2 then 3 else 0)) ∧ Held B w0 w' p kv S (W ++ [(a, b)]) (hitOf arm).1 (hitOf arm).2 := by
  obtain ⟨wv, mv, hd, hl⟩ := h.dk
  exact (write_ok hd a ha v b hb hbl (hv.not_mine hd) hwl harm).mono fun e w' he => Held.ended h.below h.base hl he
theorem flush_held {B : Nat} {w0 w : World} {p : Nat} {kv : Value} {S : List (List Nat)} {W : List (Nat × List Nat)} {arm a2 : Nat} (h : Held B w0 w p kv S W arm false) (harm : arm ≤ 9223372036854775807) (hh : hitOf arm = (a2, false)) :
    Calls Try.prog 61 #[.pointer (some ⟨p, 0, none⟩)] w fun e w' => e = .returned (.int .i64 0) ∧ Held B w0 w' p kv (flushed S W) [] a2 false := by
  obtain ⟨wv, mv, hd, hl⟩ := h.dk
  exact (flush_ok hd harm hh).mono fun e w' he => Held.ended h.below h.base hl he
theorem read_held {B : Nat} {w0 w : World} {p : Nat} {kv : Value} {S : List (List Nat)} {W : List (Nat × List Nat)} {arm : Nat} (h : Held B w0 w p kv S W arm false) (a : Nat) (ha : a < S.length) :
    Calls Try.prog 75 #[.pointer (some ⟨p, 0, none⟩), .int .i64 (a : Int)] w fun e w' => ∃ o, e = .returned (.tuple #[o, .int .i64 0]) ∧ OwnB w' w.heap.size o (shown S W a) ∧ Below w.heap.size w w' := by
  obtain ⟨wv, mv, hd, hl⟩ := h.dk
  exact read_ok hd a ha
theorem OwnB.rowB {w : World} {B : Nat} {v : Value} {l : List Nat} (h : OwnB w B v l) (h256 : ∀ n ∈ l, n < 256) : RowB w v l := by
  obtain ⟨hl, h2⟩ := h
  rcases h2 with ⟨rfl, h0⟩ | ⟨g, cap, cur, rfl, _, hh, hc, hm, hs, ht⟩
  · obtain rfl : l = [] := List.eq_nil_of_length_eq_zero h0
    exact rowB_nil w
  · refine ⟨_, _, _, rfl, rfl, hc, hm, h256, by simp, fun x hx i hi => ?_⟩
    obtain rfl := Option.some.inj hx
    rw [Addr.add_mid, Nat.zero_add, cell_of_row _ _ i _ 5 (0, 0) hh]
    have : (u8s l)[i]? = cur[i]? := by
      rw [← ht, List.getElem?_take_of_lt (by omega)]
      simp
    rw [← this, u8s_get l i hi]

theorem lit_rowB (w : World) (l : List Nat) (h256 : ∀ n ∈ l, n < 256) (hm : l.length ≤ maxLen) : RowB (w.alloc (.cells (u8s l).toArray 5)) (.slice (some ⟨w.heap.size, 0, none⟩) l.length l.length) l := by
  refine ⟨_, _, _, rfl, rfl, Nat.le_refl _, hm, h256, by simp, fun x hx i hi => ?_⟩
  obtain rfl := Option.some.inj hx
  rw [Addr.add_lit, Nat.zero_add, cell_of_row _ _ i _ 5 (0, 0) (heap_alloc_new w _)]
  simp [u8s, hi]
theorem lit_intB (w : World) (K : List Int) (hm : K.length ≤ maxLen) : IntB (w.alloc (.cells (K.map (.int .i64)).toArray 3)) (.slice (some ⟨w.heap.size, 0, none⟩) K.length K.length) K :=
  .inr ⟨_, _, _, rfl, Nat.le_refl _, hm, fun i hi => by
    rw [Nat.zero_add, cell_of_row _ _ i _ 3 (0, 0) (heap_alloc_new w _)]
    simp [hi]⟩
theorem lit_alien (w : World) (cs : Array Value) (t : TypeId) (n m : Nat) (h1 : t ≠ 62) (h2 : t ≠ 143) (h3 : t ≠ 145) : Alien (w.alloc (.cells cs t)) (.slice (some ⟨w.heap.size, 0, none⟩) n m) := by
  intro k hk
  obtain rfl : w.heap.size = k := by simpa [Value.ownBlock] using hk
  exact ⟨_, _, _, heap_alloc_new w _, h1, h2, h3⟩
theorem Held.alloc {B : Nat} {w0 w : World} {p : Nat} {kv : Value} {S : List (List Nat)} {W : List (Nat × List Nat)} {arm : Nat} {down : Bool} (h : Held B w0 w p kv S W arm down) (o : Obj) : Held B w0 (w.alloc o) p kv S W arm down := h.below' ((Below.refl _ _).alloc (Nat.le_refl _) _)

theorem own_64 {w : World} {B : Nat} {v : Value} {l : List Nat} (h : OwnB w B v l) {n : Nat} (hl : l.length = n) (hn : 0 < n) : ∃ g cap, v = .slice (some ⟨g, 0, none⟩) n cap ∧ n ≤ cap ∧ cap ≤ maxLen ∧ B ≤ g ∧ g < w.heap.size ∧ ∀ j (hj : j < l.length), w.cell? ⟨g, j, none⟩ = some (.int .u8 (l[j] : Nat)) := by
  subst hl
  rcases h.2 with ⟨e, h0⟩ | ⟨g, cap, cur, rfl, hb, hh, hc, hm, _⟩
  · omega
  · exact ⟨g, cap, rfl, hc, hm, hb, lt_of_block hh, fun j hj => OwnB.cell h rfl j hj⟩
end
section
set_option linter.unusedVariables false
open Go.RowKit

theorem size_ok {w : World} {O : Nat → Prop} {p : Nat} {kv wv mv : Value} {S : List (List Nat)} {W : List (Nat × List Nat)} {arm : Nat} {down : Bool} (h : Dk w O p kv wv mv S W arm down) :
    Calls Try.prog 26 #[.pointer (some ⟨p, 0, none⟩)] w fun e w' => e = .returned (.int .i64 (S.length : Nat)) ∧ w = w' := by
  have c0 := h.row.cell0
  obtain ⟨a, cap, e⟩ : ∃ a cap, kv = .slice a S.length cap := by
    rcases h.kept.2 with ⟨e, h0⟩ | ⟨g, cap, cur, e, _⟩
    · exact ⟨none, 0, by rw [e, h0]⟩
    · exact ⟨_, _, e⟩
  subst e
  clear h
  go_enter Try.func26, Try.ntmps26
  go_wp2_with fail
  go_ret
  exact ⟨rfl, rfl⟩

theorem write_arg {w : World} {p : Nat} {ko : Option Addr} {n kc : Nat} {wv mv : Value} {arm : Int} (h : DkV w p (.slice ko n kc) wv mv arm false) (hn : n ≤ 65536) (a : Int) (va : Option Addr) (vn vc : Nat) (hbad : hasB n a = false ∨ vn ≠ 64) : Calls Try.prog 95 #[.pointer (some ⟨p, 0, none⟩), .int .i64 a, .slice va vn vc] w fun e w' => e = .returned (.int .i64 1) ∧ w = w' := by
  have hh := has_ok h a hn
  cases hb : hasB n a with
  | false =>
    rw [hb] at hh
    have HH := Lib.hid hh
    clear hh hb hbad
    go_enter Try.func95, Try.ntmps95
    go_wp2_with fail
    refine (ready_ok h).mono ?_
    rintro e w1 ⟨rfl, rfl⟩
    go_wp2_with fail
    refine HH.out.mono ?_
    rintro e w1 ⟨rfl, rfl⟩
    go_wp2_with fail
    go_ret
    exact ⟨rfl, rfl⟩
  | true =>
    rw [hb] at hh
    have hne : ¬ (vn : Int) = 64 := by
      rcases hbad with hbad | hbad
      · rw [hb] at hbad; cases hbad
      · omega
    have HH := Lib.hid hh
    clear hh hb hbad
    go_enter Try.func95, Try.ntmps95
    go_wp2_with fail
    refine (ready_ok h).mono ?_
    rintro e w1 ⟨rfl, rfl⟩
    go_wp2_with fail
    refine HH.out.mono ?_
    rintro e w1 ⟨rfl, rfl⟩
    go_wp2_with fail
    go_ret
    exact ⟨rfl, rfl⟩
theorem DkV.set0 {w : World} {p : Nat} {kv wv mv : Value} {arm : Int} {down : Bool} (h : DkV w p kv wv mv arm down) (v : Value) : DkV (w.setCell ⟨p, 0, none⟩ v) p v wv mv arm down := by unfold DkV at h ⊢; rw [heap_setCell_same w p 0 _ 62 _ h]; rfl
theorem DkV.below {w w' : World} {p : Nat} {kv wv mv : Value} {arm : Int} {down : Bool} (h : DkV w p kv wv mv arm down) (hb : Below w.heap.size w w') : DkV w' p kv wv mv arm down := by
  have := lt_of_block h
  unfold DkV at h ⊢
  rw [hb.block p this, h]
theorem ownsRow_below {w w' : World} {B : Nat} {e : TypeId} {sz : Nat} {v : Value} {n : Nat} {xs : List Value} (h : w.ownsRow B e sz v n xs) (hb : Below w.heap.size w w') : w'.ownsRow B e sz v n xs :=
  ownsRow_beside (own := fun _ => False) h ⟨hb.os, hb.tape, hb.output, hb.size, fun k hk _ => hb.block k hk⟩ (fun _ _ h => h)
theorem ownsRow_set {w : World} {B : Nat} {e : TypeId} {sz : Nat} {v : Value} {n : Nat} {xs : List Value} (h : w.ownsRow B e sz v n xs) {q j : Nat} {u : Value} (hn : ∀ k, v.ownBlock = some k → k ≠ q) : (w.setCell ⟨q, j, none⟩ u).ownsRow B e sz v n xs :=
  ownsRow_beside (own := (· = q)) h (Beside.one w q j u) hn
theorem own_shape {w : World} {B : Nat} {e : TypeId} {sz : Nat} {v : Value} {n : Nat} {xs : List Value} (h : w.ownsRow B e sz v n xs) : ∃ a c, v = .slice a n c := by
  rcases h.2 with ⟨rfl, rfl⟩ | ⟨g, cap, cur, rfl, _⟩
  · exact ⟨_, _, rfl⟩
  · exact ⟨_, _, rfl⟩
theorem own_ge {w : World} {B : Nat} {e : TypeId} {sz : Nat} {v : Value} {n : Nat} {xs : List Value} (h : w.ownsRow B e sz v n xs) : ∀ k, v.ownBlock = some k → B ≤ k := by
  intro k hk
  rcases h.2 with ⟨rfl, _⟩ | ⟨g', cap', cur, rfl, hb, hh, _⟩
  · cases hk
  · simp [Value.ownBlock] at hk
    subst hk
    exact hb
theorem secs_one (S : List (List Nat)) : ∀ v ∈ secs S, v.oneCell' = true := by
  intro v hv
  obtain ⟨s, _, hs⟩ := List.mem_flatMap.1 hv
  exact u8s_one s v hs
theorem wcells_one (W : List (Nat × List Nat)) : ∀ v ∈ wcells W, v.oneCell' = true := by
  intro v hv
  obtain ⟨x, _, hs⟩ := List.mem_flatMap.1 hv
  exact wrow_one x.1 x.2 v hs
end
section
set_option linter.unusedVariables false
open Go.RowKit

def be : Nat → Nat → List Nat
  | 0, _ => []
  | j + 1, v => (v / 256 ^ j % 256) :: be j v
@[simp] theorem be_length (n v : Nat) : (be n v).length = n := by induction n <;> simp_all [be]
def val (l : List Nat) : Nat := l.foldl (fun a c => a * 256 + c) 0
def putAt (l : List Nat) (off : Nat) (d : List Nat) : List Nat := l.take off ++ d ++ l.drop (off + d.length)
theorem putAt_length (l : List Nat) (off : Nat) (d : List Nat) (h : off + d.length ≤ l.length) : (putAt l off d).length = l.length := by unfold putAt; simp; omega
theorem putAt_nil (l : List Nat) (off : Nat) : putAt l off [] = l := by simp [putAt]
theorem putAt_set (l : List Nat) (a x : Nat) (d : List Nat) (h : a + 1 + d.length ≤ l.length) : (putAt l (a + 1) d).set a x = putAt l a (x :: d) := by
  unfold putAt
  have h1 : l.take (a + 1) = l.take a ++ [l[a]'(by omega)] := by rw [List.take_succ_eq_append_getElem]
  rw [h1, List.append_assoc, List.append_assoc, List.set_append_right _ _ (by simp; omega)]
  have h2 : a - (l.take a).length = 0 := by simp; omega
  rw [h2]
  simp [Nat.add_assoc, Nat.add_comm 1]

/-- a row of bytes, known whole -/
def Row8 (w : World) (g : Nat) (l : List Nat) : Prop := w.heap[g]? = some (.cells (u8s l).toArray 5 (0, 0))
theorem Row8.cell {w : World} {g : Nat} {l : List Nat} (h : Row8 w g l) (j : Nat) (hj : j < l.length) : w.cell? ⟨g, j, none⟩ = some (.int .u8 (l[j] : Nat)) := by
  rw [cell_of_row _ _ j _ 5 (0, 0) h]
  simp [u8s, hj]
theorem Row8.free {w : World} {g : Nat} {l : List Nat} (h : Row8 w g l) (j : Nat) : w.frozen? ⟨g, j, none⟩ = false := by
  unfold Row8 at h
  simp [World.frozen?, h]
theorem Row8.set {w : World} {g : Nat} {l : List Nat} (h : Row8 w g l) (j x : Nat) : Row8 (w.setCell ⟨g, j, none⟩ (.int .u8 (x : Nat))) g (l.set j x) := by
  unfold Row8 at h ⊢
  rw [heap_setCell_same w g j _ 5 _ h, u8s_set]
  simp
theorem Row8.lt {w : World} {g : Nat} {l : List Nat} (h : Row8 w g l) : g < w.heap.size := lt_of_block h
theorem Row8.beside {w w' : World} {g : Nat} {l : List Nat} {own : Nat → Prop} (h : Row8 w g l) (hb : Beside own w w') (hn : ¬ own g) : Row8 w' g l := by
  have hl := h.lt
  unfold Row8 at h ⊢
  rw [hb.block g hl hn, h]

set_option maxRecDepth 100000 in
theorem put_any {w : World} {g : Nat} {l : List Nat} (hr : Row8 w g l) (off n cap v : Nat) (hn : 0 < n) (hl : off + n ≤ l.length) (hl2 : l.length ≤ 1000) (hc : n ≤ cap) (hv : v < 18446744073709551616) :
    Calls Try.prog 96 #[.slice (some ⟨g, off, none⟩) n cap, .int .u64 (v : Nat)] w fun e w' => e = .returned (.tuple #[]) ∧ Row8 w' g (putAt l off (be n v)) ∧ Beside (· = g) w w' := by
  have HR := Lib.hid hr
  clear hr
  go_enter Try.func96, Try.ntmps96
  go_wp2_with fail
  go_loopw [4, 1] (fun i x wr => ∃ q j : Nat, q + j = n ∧ i = .int .i64 ((q : Int) - 1) ∧ x = .int .u64 ((v / 256 ^ j : Nat)) ∧ Row8 wr g (putAt l (off + q) (be j v)) ∧ Beside (· = g) w wr) (fun i _ _ => (RowKit.intOf i + 1).toNat)
  case atStart => exact ⟨n, 0, by omega, by simp, by simp, by simpa [be, putAt_nil] using HR.out, Beside.refl _ _⟩
  case round =>
    obtain ⟨q, j, hj, rfl, rfl, hrow, hbs⟩ := hrel
    cases q with
    | succ q =>
      have e1 : ((q + 1 : Nat) : Int) - 1 = (q : Int) := by omega
      rw [e1]
      clear e1
      have hlen : (putAt l (off + (q + 1)) (be j v)).length = l.length := putAt_length _ _ _ (by simp; omega)
      obtain ⟨u0, hc0⟩ : ∃ u, wr.cell? ⟨g, off + q, none⟩ = some u := ⟨_, hrow.cell (off + q) (by omega)⟩
      have hf0 := hrow.free (off + q)
      have HST := Lib.hid (hrow.set (off + q) (v / 256 ^ j % 256))
      rw [← Nat.add_assoc, putAt_set _ _ _ _ (by simp; omega)] at HST
      have HBS := Lib.hid (hbs.setCell (p := ⟨g, off + q, none⟩) (.inl rfl) (.int .u8 ((v / 256 ^ j % 256 : Nat))))
      obtain ⟨y, hy⟩ : ∃ y : Nat, v / 256 ^ j = y := ⟨_, rfl⟩
      have HY : Hid (v / 256 ^ (j + 1) = y / 256) := Lib.hid (by rw [Nat.pow_succ, ← Nat.div_div_eq_div_mul, hy])
      rw [hy] at HST HBS ⊢
      have hyb : y < 18446744073709551616 := by rw [← hy]; exact Nat.lt_of_le_of_lt (Nat.div_le_self _ _) hv
      have HJ := Lib.hid hj
      have HBE : Hid (be (j + 1) v = (y % 256) :: be j v) := Lib.hid (by rw [← hy]; rfl)
      have HQ : Hid (off + q = off + q) := Lib.hid rfl
      have hqc : q < cap := by omega
      have hqn : (q : Int) < (n : Int) := by omega
      clear hy hrow hbs hj hlen
      go_wp2_with fail
      go_roundw
      case rel =>
        have e256 : ((y % 256 : Nat) : Int) = (y : Int) % 256 := by omega
        rw [e256] at HST HBS
        exact ⟨q, j + 1, by have := HJ.out; omega, rfl, by rw [HY.out]; go_num, by rw [HBE.out]; exact HST.out, HBS.out⟩
      case measure => simp [intOf]
    | zero =>
      obtain rfl : j = n := by omega
      go_wp2_with fail
      refine bodyPost_end (v := .tuple #[]) (by simp [results, Try.results96, go_sem]) rfl ⟨rfl, ?_, hbs⟩
      simpa using hrow

theorem val_snoc (l : List Nat) (c : Nat) : val (l ++ [c]) = val l * 256 + c := by simp [val]
theorem val_lt_aux (l : List Nat) (h : ∀ n ∈ l, n < 256) : ∀ a, l.foldl (fun a c => a * 256 + c) a < (a + 1) * 256 ^ l.length := by
  induction l with
  | nil => intro a; simp
  | cons c l ih =>
    intro a
    have h1 := ih (fun n hn => h n (by simp [hn])) (a * 256 + c)
    have h2 := h c (by simp)
    rw [List.foldl_cons, List.length_cons, Nat.pow_succ]
    refine Nat.lt_of_lt_of_le h1 ?_
    rw [Nat.mul_comm (256 ^ l.length) 256, ← Nat.mul_assoc]
    exact Nat.mul_le_mul_right _ (by omega)
theorem val_lt (l : List Nat) (h : ∀ n ∈ l, n < 256) : val l < 256 ^ l.length := by
  have := val_lt_aux l h 0
  simpa [val] using this
theorem or_byte (y c : Nat) (hy : y < 72057594037927936) (hc : c < 256) : bits .or .u64 ((y : Int) * 256) (c : Int) = ((y * 256 + c : Nat) : Int) := by
  rw [bits_join .u64 64 (by decide) wraps_u64 8 ((y : Int) * 256) (c : Int) (by omega) (by omega) (by omega) (by omega) (by omega) (by omega)]
  omega
set_option maxRecDepth 100000 in
theorem get_any {w : World} {v : Value} {l : List Nat} (hr : RowB w v l) (h8 : l.length ≤ 8) :
    Calls Try.prog 100 #[v] w fun e w' => e = .returned (.int .u64 (val l : Nat)) ∧ w = w' := by
  have h256 := hr.lt
  obtain ⟨a, len, cap, rfl, hlen, hcap, hm, -, hn, hcell⟩ := id hr
  have H256 := Lib.hid h256
  have HC := Lib.hid hcell
  have HN := Lib.hid hlen
  have HLN := Lib.hid hn
  have h8n : len ≤ 8 := by omega
  clear hr h256 hcell hlen hn h8
  go_enter Try.func100, Try.ntmps100
  go_wp2_with fail
  go_loopw [8, 3] (fun i x wr => ∃ k : Nat, k ≤ len ∧ i = .int .i64 (k : Nat) ∧ x = .int .u64 (val (l.take k) : Nat) ∧ w = wr) (fun i _ _ => len - (RowKit.intOf i).toNat)
  case atStart => exact ⟨0, by omega, rfl, by simp [val], rfl⟩
  case round =>
    obtain ⟨k, hk, rfl, rfl, rfl⟩ := hrel
    by_cases hkl : k < len
    · have hkz : (k : Int) < (len : Int) := by omega
      have hkk : k < l.length := by rw [HN.out]; exact hkl
      obtain ⟨x, hx⟩ : ∃ x, a = some x := by
        cases a with
        | none => have := HLN.out rfl; omega
        | some x => exact ⟨x, rfl⟩
      subst hx
      have hc := HC.out x rfl k hkk
      obtain ⟨c, hcc⟩ : ∃ c : Nat, l[k] = c := ⟨_, rfl⟩
      have hc256 : c < 256 := by rw [← hcc]; exact H256.out _ (List.getElem_mem hkk)
      have HNX : Hid (val (l.take (k + 1)) = val (l.take k) * 256 + c) := Lib.hid (by rw [List.take_succ_eq_append_getElem hkk, val_snoc, hcc])
      have hvl : val (l.take k) < 72057594037927936 := by
        refine Nat.lt_of_lt_of_le (val_lt _ fun n hn => H256.out n (List.mem_of_mem_take hn)) ?_
        have e1 : (l.take k).length ≤ 7 := by simp; omega
        exact Nat.pow_le_pow_right (by decide) e1
      rw [hcc] at hc
      generalize val (l.take k) = y at *
      clear hcc
      have hk1 : (k : Int) + 1 ≤ 9223372036854775807 := by omega
      have HOR := Lib.hid (or_byte y c hvl hc256)
      go_wp2_with fail
      go_roundw
      case rel => exact ⟨k + 1, by omega, by go_num, by rw [HNX.out, HOR.out], trivial⟩
      case measure => simp [intOf]; omega
    · obtain rfl : k = len := by omega
      have HE : Hid (l.take k = l) := Lib.hid (List.take_of_length_le (by have := HN.out; omega))
      rw [HE.out]
      go_wp2_with fail
      go_ret
      exact ⟨rfl, rfl⟩

def wholeL (l : List Nat) : Bool := decide (l.length = 64) && (l.getD 0 0 == l.getD 63 0)
set_option maxRecDepth 100000 in
theorem whole_any {w : World} {v : Value} {l : List Nat} (hr : RowB w v l) (h64 : l.length = 64) :
    Calls Try.prog 99 #[v] w fun e w' => e = .returned (.bool (wholeL l)) ∧ Below w.heap.size w w' := by
  obtain ⟨a, len, cap, rfl, hlen, hcap, hm, -, hn, hcell⟩ := id hr
  obtain rfl : len = 64 := by omega
  cases a with
  | none => have := hn rfl; omega
  | some x =>
    obtain ⟨b, off, spot⟩ := x
    have hc0 := hcell _ rfl 0 (by omega)
    have hspot : spot = none := by simpa [Addr.add] using World.cell?_spot hc0
    subst hspot
    have hc1 := hcell _ rfl 63 (by omega)
    rw [Addr.add_lit] at hc0 hc1
    have e0 : l.getD 0 0 = l[0] := by simp [List.getD, h64]
    have e1 : l.getD 63 0 = l[63] := by simp [List.getD, h64]
    have HE : Hid (wholeL l = (((l[0] : Nat) : Int) == ((l[63] : Nat) : Int))) := Lib.hid (by
      unfold wholeL
      rw [e0, e1, decide_eq_true h64, Bool.true_and, Bool.eq_iff_iff]
      simp
      omega)
    rw [HE.out]
    generalize l[0] = x at *
    generalize l[63] = y at *
    have hc63 : ¬ cap ≤ 63 := by omega
    clear hcell hr hn HE e0 e1
    rw [Nat.add_zero] at hc0
    go_enter Try.func99, Try.ntmps99
    go_wp2_with go_region
    go_ret
    exact ⟨rfl, (Below.refl _ _).drew⟩

def mkB (o : Nat) : Nat := if o = 255 then 1 else o + 1
def sealL (l old : List Nat) : List Nat := (l.set 0 (mkB (old.getD 63 0))).set 63 (mkB (old.getD 63 0))
@[simp] theorem sealL_length (l old : List Nat) : (sealL l old).length = l.length := by simp [sealL]
set_option maxRecDepth 100000 in
theorem seal_any {w : World} {g cap : Nat} {l old : List Nat} (hr : Row8 w g l) (hl : l.length = 64) (hc : 64 ≤ cap) {v : Value} (ho : RowB w v old) (ho64 : old.length = 64) :
    Calls Try.prog 94 #[.slice (some ⟨g, 0, none⟩) 64 cap, v] w fun e w' => e = .returned (.tuple #[]) ∧ Row8 w' g (sealL l old) ∧ Beside (· = g) w w' := by
  obtain ⟨a, len, ocap, rfl, hlen, hcap, hm, h256, hn, hcell⟩ := id ho
  obtain rfl : len = 64 := by omega
  cases a with
  | none => have := hn rfl; omega
  | some x =>
    obtain ⟨b, off, spot⟩ := x
    have hc0 := hcell _ rfl 0 (by omega)
    have hspot : spot = none := by simpa [Addr.add] using World.cell?_spot hc0
    subst hspot
    clear hc0
    have hc1 := hcell _ rfl 63 (by omega)
    rw [Addr.add_lit] at hc1
    have e1 : old.getD 63 0 = old[63] := by simp [List.getD, ho64]
    have hb : old[63] < 256 := h256 _ (List.getElem_mem _)
    have HS : Hid (∀ y, mkB old[63] = y → Row8 ((w.setCell ⟨g, 0, none⟩ (.int .u8 (y : Nat))).setCell ⟨g, 63, none⟩ (.int .u8 (y : Nat))) g (sealL l old)) := Lib.hid fun y hy => by
      unfold sealL
      rw [e1, hy]
      exact (hr.set 0 y).set 63 y
    have HB : Hid (∀ y : Value, Beside (· = g) w ((w.setCell ⟨g, 0, none⟩ y).setCell ⟨g, 63, none⟩ y)) := Lib.hid fun y => ((Beside.refl (· = g) w).setCell (p := ⟨g, 0, none⟩) (.inl rfl) y).setCell (p := ⟨g, 63, none⟩) (.inl rfl) y
    obtain ⟨u0, hu0⟩ : ∃ u, w.cell? ⟨g, 0, none⟩ = some u := ⟨_, hr.cell 0 (by omega)⟩
    obtain ⟨u1, hu1⟩ : ∃ u, w.cell? ⟨g, 63, none⟩ = some u := ⟨_, hr.cell 63 (by omega)⟩
    have hf0 := hr.free 0
    have hf1 := hr.free 63
    generalize old[63] = o at *
    have hc63 : ¬ ocap ≤ 63 := by omega
    have hc64 : ¬ cap ≤ 63 := by omega
    have hc65 : ¬ cap ≤ 0 := by omega
    clear hcell hr ho h256 hn e1
    by_cases h5 : o = 255
    · subst h5
      have HM : Hid (mkB 255 = 1) := Lib.hid rfl
      go_enter Try.func94, Try.ntmps94
      go_wp2_with fail
      refine bodyPost_end (v := .tuple #[]) (by simp [results, Try.results94, go_sem]) rfl ⟨rfl, ?_, ?_⟩
      · exact HS.out 1 HM.out
      · exact HB.out (.int .u8 1)
    · have HM : Hid (mkB o = o + 1) := Lib.hid (by simp [mkB, h5])
      have h6 : IntKind.u8.wrap ((o : Int) + 1) = ((o + 1 : Nat) : Int) := by rw [IntKind.wrap_u8]; omega
      have h7 : (((o + 1 : Nat) : Int) == 0) = false := by simp; omega
      generalize o + 1 = q at *
      clear hb
      go_enter Try.func94, Try.ntmps94
      go_wp2_with fail
      refine bodyPost_end (v := .tuple #[]) (by simp [results, Try.results94, go_sem]) rfl ⟨rfl, ?_, ?_⟩
      · exact HS.out q HM.out
      · exact HB.out (.int .u8 (q : Nat))
end
end Go.Proofs.Ytmnbkhgogogeiaa
