/-
  A shelf in memory, with a law's own list of what is on it: what Put and Evict make of it.
-/
import Derived.Test.YthmnbjdmbajhkaaRel
import Derived.Test.YthmnbjdmbajhkaaPlainI
namespace Go.Proofs.Ythmnbjdmbajhkaa
set_option linter.unusedVariables false
open Go.RowKit
attribute [local go_sem] Oper.semAt_some

structure Sh (w : World) (p m c : Nat) (b : Int) (r : Option Addr) (cap : Nat) (E : List (Th × Nat)) (L : List Th) (H : List (Th × Bool)) : Prop where
  sh : ShB w p m c b r cap E L
  rel : Rel E L H
  idle : ∀ x ∈ H, x.2 = false → At w x.1.blk (.cells (thC x.1 (-1)) 60 (0, 0))
/-- the blocks that are the shelf's -/
def shOwn (p m : Nat) (r : Option Addr) (E : List (Th × Nat)) (k : Nat) : Prop := k = p ∨ k = m ∨ (∃ og, r = some ⟨og, 0, none⟩ ∧ k = og) ∨ ∃ y ∈ E, y.1.blk = k

theorem Sh.own {w : World} {p m c : Nat} {b : Int} {r : Option Addr} {cap : Nat} {E : List (Th × Nat)} {L : List Th} {H : List (Th × Bool)} (h : Sh w p m c b r cap E L H) {k : Nat} (hk : evOwn p m r L k) : shOwn p m r E k := by
  rcases hk with hk | hk | hk | ⟨x, hx, e⟩
  · exact .inl hk
  · exact .inr (.inl hk)
  · exact .inr (.inr (.inl hk))
  · obtain ⟨n, hn⟩ := h.rel.good.sub x hx
    exact .inr (.inr (.inr ⟨_, hn, e⟩))
/-- each thing lies in a block -/
theorem Sh.thing {w : World} {p m c : Nat} {b : Int} {r : Option Addr} {cap : Nat} {E : List (Th × Nat)} {L : List Th} {H : List (Th × Bool)} (h : Sh w p m c b r cap E L H) {y : Th × Nat} (hy : y ∈ E) :
    ∃ pl, At w y.1.blk (.cells (thC y.1 pl) 60 (0, 0)) := by
  obtain ⟨i, hi, rfl⟩ := List.mem_iff_getElem.1 hy
  have hiH : i < H.length := by rw [h.rel.len]; exact hi
  have e := h.rel.at i hiH hi
  cases hq : H[i].2
  · have := h.idle H[i] (List.getElem_mem hiH) hq
    rw [e]
    exact ⟨_, this⟩
  · have hm := (h.rel.ok i hiH).1 hq
    rcases h.sh.ord with ⟨_, _, h0⟩ | ⟨og, _, _, hO⟩
    · rw [h0] at hm; cases hm
    · obtain ⟨j, hj, ej⟩ := List.mem_iff_getElem.1 hm
      have := hO.th j hj
      rw [ej] at this
      rw [e]
      exact ⟨_, this⟩
theorem Sh.type {w : World} {p m c : Nat} {b : Int} {r : Option Addr} {cap : Nat} {E : List (Th × Nat)} {L : List Th} {H : List (Th × Bool)} (h : Sh w p m c b r cap E L H) {k : Nat} (hk : shOwn p m r E k) {cur : Array Value} {ty : TypeId} {x : Nat × Nat}
    (hc : w.heap[k]? = some (.cells cur ty x)) : ty = 56 ∨ ty = 57 ∨ ty = 60 := by
  rcases hk with hk | hk | hk | ⟨y, hy, rfl⟩
  · exact h.sh.own_type (.inl hk) hc
  · exact h.sh.own_type (.inr (.inl hk)) hc
  · exact h.sh.own_type (.inr (.inr (.inl hk))) hc
  · obtain ⟨pl, hp⟩ := h.thing hy
    have := hc.symm.trans hp
    cases this
    exact .inr (.inr rfl)
theorem Sh.lt {w : World} {p m c : Nat} {b : Int} {r : Option Addr} {cap : Nat} {E : List (Th × Nat)} {L : List Th} {H : List (Th × Bool)} (h : Sh w p m c b r cap E L H) {k : Nat} (hk : shOwn p m r E k) : k < w.heap.size := by
  rcases hk with rfl | rfl | hk | ⟨y, hy, rfl⟩
  · exact h.sh.row.lt
  · exact At.lt h.sh.map
  · exact h.sh.ord.lt (.inl hk)
  · obtain ⟨pl, hp⟩ := h.thing hy
    exact hp.lt
theorem Sh.apart {w : World} {p m c : Nat} {b : Int} {r : Option Addr} {cap : Nat} {E : List (Th × Nat)} {L : List Th} {H : List (Th × Bool)} (h : Sh w p m c b r cap E L H) {B e sz n : Nat} {v : Value} {xs : List Value} (ho : w.ownsRow B e sz v n xs)
    (he : e ≠ 56 ∧ e ≠ 57 ∧ e ≠ 60) : ∀ k, shOwn p m r E k → v.ownBlock ≠ some k := by
  intro k hk hv
  rcases ho.2 with ⟨rfl, _⟩ | ⟨g, cc, cur, rfl, _, hh, _⟩
  · simp [Value.ownBlock] at hv
  · simp only [Value.ownBlock, Option.some.injEq] at hv
    subst hv
    rcases h.type hk hh with h | h | h
    · exact he.1 h
    · exact he.2.1 h
    · exact he.2.2 h
theorem Sh.beside {w w' : World} {p m c : Nat} {b : Int} {r : Option Addr} {cap : Nat} {E : List (Th × Nat)} {L : List Th} {H : List (Th × Bool)} (h : Sh w p m c b r cap E L H) {own : Nat → Prop} (hb : Beside own w w') (ho : ∀ k, shOwn p m r E k → ¬ own k) :
    Sh w' p m c b r cap E L H :=
  ⟨h.sh.beside hb (fun k hk => ho k (h.own hk)), h.rel, fun x hx hq => At.beside (h.idle x hx hq) hb (ho _ (by
    obtain ⟨n, hn⟩ := h.rel.mem hx
    exact .inr (.inr (.inr ⟨_, hn, rfl⟩))))⟩
theorem Sh.below {w w' : World} {p m c : Nat} {b : Int} {r : Option Addr} {cap : Nat} {E : List (Th × Nat)} {L : List Th} {H : List (Th × Bool)} (h : Sh w p m c b r cap E L H) (hb : Below w.heap.size w w') : Sh w' p m c b r cap E L H :=
  h.beside (own := fun _ => False) (Below.beside hb) (fun _ _ h => h)
/-- one that may not go lies apart from what Put and Evict write -/
theorem Sh.idle_not {w : World} {p m c : Nat} {b : Int} {r : Option Addr} {cap : Nat} {E : List (Th × Nat)} {L : List Th} {H : List (Th × Bool)} (h : Sh w p m c b r cap E L H) {x : Th × Bool} (hx : x ∈ H) (hq : x.2 = false) : ¬ evOwn p m r L x.1.blk := by
  have hi := h.idle x hx hq
  rintro (e | e | hk)
  · rw [e] at hi
    have := hi.symm.trans h.sh.row
    cases this
  · rw [e] at hi
    have := hi.symm.trans h.sh.map
    cases this
  · rcases h.sh.ord with ⟨rfl, rfl, rfl⟩ | ⟨og, rfl, _, hO⟩
    · rcases hk with ⟨_, h, _⟩ | ⟨_, h, _⟩ <;> cases h
    · rcases sOwn_some.1 hk with e | ⟨y, hy, e⟩
      · obtain ⟨cur', h1, -⟩ := hO.row
        rw [e] at hi
        have := hi.symm.trans h1
        cases this
      · obtain ⟨i, hi', rfl⟩ := List.mem_iff_getElem.1 hy
        rw [← e] at hi
        have := hi.symm.trans (hO.th i hi')
        simp only [Option.some.injEq, Obj.cells.injEq, thC] at this
        have h5 := congrArg (fun a => a[4]?) this.1
        simp at h5
theorem sh_new (b : Int) (w : World) : Sh ((w.alloc (.map #[] 0)).alloc (.cells #[.int .i64 b, .int .i64 0, .map (some w.heap.size), .slice none 0 0] 56)) (w.heap.size + 1) w.heap.size 0 b none 0 [] [] [] :=
  ⟨new_shelf b w, rel_nil, fun _ h => by cases h⟩

/-- behind a Put of what was not there -/
theorem Sh.put {w w' : World} {p m c : Nat} {b : Int} {r : Option Addr} {cap : Nat} {E : List (Th × Nat)} {L : List Th} {H : List (Th × Bool)} (h : Sh w p m c b r cap E L H)
    {v u size used : Int} {clean : Bool} (hq : at? E v u = none) (h0 : 0 ≤ size) (h1 : size ≤ 1048576) (hE : E.length < 65536) (hd : PutDone p m c b (sumE E) v u size used clean r E L w w') :
    ∃ t cap' r' E' L', t.v = v ∧ t.u = u ∧ t.size = size ∧ t.used = used ∧ E'.length = E.length + 1 ∧ Sh w' p m (c + 1) b r' cap' E' L' (H ++ [(t, clean)]) ∧ Beside (evOwn p m r L) w w' ∧ (∀ k, shOwn p m r' E' k → shOwn p m r E k ∨ w.heap.size ≤ k) := by
  obtain ⟨tb, cap', r', ht, hp, hm, ho, hid, hb, hat⟩ := hd
  have hls : (if clean then upL (L ++ [⟨tb, v, u, size, used⟩]) L.length else L).length = L.length + (if clean then 1 else 0) := by
    cases clean
    · rfl
    · have hp := upL_perm (L ++ [(⟨tb, v, u, size, used⟩ : Th)]) L.length (by simp)
      simpa using hp.length_eq
  refine ⟨⟨tb, v, u, size, used⟩, cap', r', E ++ [(⟨tb, v, u, size, used⟩, c)], _, rfl, rfl, rfl, rfl, by simp, ⟨⟨?_, hm, ho⟩, h.rel.put hq h0 h1 hE clean, ?_⟩, hb, ?_⟩
  · have : sumE (E ++ [((⟨tb, v, u, size, used⟩ : Th), c)]) = sumE E + size := by simp [sumE]
    rw [this, hls]
    exact hp
  · intro x hx hxq
    rcases List.mem_append.1 hx with hx | hx
    · exact At.beside (h.idle x hx hxq) hb (h.idle_not hx hxq)
    · obtain rfl := List.mem_singleton.1 hx
      exact hid hxq
  · rintro k (hk | hk | ⟨og, e, rfl⟩ | ⟨y, hy, rfl⟩)
    · exact .inl (.inl hk)
    · exact .inl (.inr (.inl hk))
    · rcases hat k e with ⟨o, ho, rfl⟩ | h2
      · exact .inl (.inr (.inr (.inl ⟨_, ho, rfl⟩)))
      · exact .inr h2
    · rcases List.mem_append.1 hy with hy | hy
      · exact .inl (.inr (.inr (.inr ⟨y, hy, rfl⟩)))
      · obtain rfl := List.mem_singleton.1 hy
        exact .inr ht
theorem Sh.lens {w : World} {p m c : Nat} {b : Int} {r : Option Addr} {cap : Nat} {E : List (Th × Nat)} {L : List Th} {H : List (Th × Bool)} (h : Sh w p m c b r cap E L H) : L.length ≤ 65536 ∧ L.length ≤ E.length :=
  ⟨Nat.le_trans h.rel.lenL h.rel.good.cnt, h.rel.lenL⟩
theorem putSh_new {w : World} {p m c : Nat} {b : Int} {r : Option Addr} {cap : Nat} {E : List (Th × Nat)} {L : List Th} {H : List (Th × Bool)} (h : Sh w p m c b r cap E L H) (v u size used : Int) (clean : Bool)
    (hq : at? E v u = none) (h0 : 0 ≤ size) (h1 : size ≤ 1048576) (hE : E.length < 65536) :
    Calls Try.prog 16 #[.pointer (some ⟨p, 0, none⟩), key v u, .int .i64 size, .int .i64 used, .bool clean] w fun e w' => e = .returned (.int .i64 0) ∧
      ∃ t cap' r' E' L', t.v = v ∧ t.u = u ∧ t.size = size ∧ t.used = used ∧ E'.length = E.length + 1 ∧ Sh w' p m (c + 1) b r' cap' E' L' (H ++ [(t, clean)]) ∧ Beside (evOwn p m r L) w w' ∧ (∀ k, shOwn p m r' E' k → shOwn p m r E k ∨ w.heap.size ≤ k) := by
  have hS := sumE_bound h.rel.good.rng
  have hl := h.lens
  refine (put_new p m c b (sumE E) v u size used clean r cap E L w h.sh.row h.sh.map h.sh.ord hq (by omega) (by omega) hE (by omega) (wrapS (by omega) (by omega)) h.sh.not_p h.sh.not_m (fun k hk => h.sh.ord.lt hk)).mono ?_
  rintro e w3 ⟨rfl, hd⟩
  exact ⟨rfl, h.put hq h0 h1 hE hd⟩
theorem putSh_twice {w : World} {p m c : Nat} {b : Int} {r : Option Addr} {cap : Nat} {E : List (Th × Nat)} {L : List Th} {H : List (Th × Bool)} (h : Sh w p m c b r cap E L H) (v u size used : Int) (clean : Bool)
    {i : Nat} {y : Th} (hq : at? E v u = some (i, y)) (h0 : 0 ≤ size) (h1 : size ≤ 1048576) :
    Calls Try.prog 16 #[.pointer (some ⟨p, 0, none⟩), key v u, .int .i64 size, .int .i64 used, .bool clean] w fun e w' => e = .returned (.int .i64 6) ∧ Below w.heap.size w w' :=
  put_twice p m c i _ v u size used clean E y w h.sh.row rfl h.sh.map hq (by omega) (by omega)
/-- what Evict makes of it -/
theorem evictSh {w : World} {p m c : Nat} {b : Int} {r : Option Addr} {cap : Nat} {E : List (Th × Nat)} {L : List Th} {H : List (Th × Bool)} (h : Sh w p m c b r cap E L H) :
    Calls Try.prog 15 #[.pointer (some ⟨p, 0, none⟩)] w fun e w' => ∃ v cap' H', e = .returned v ∧ w'.ownsRow w.heap.size 31 2 v (evS b E L).2.2.length (idC (evS b E L).2.2) ∧
      Sh w' p m c b r cap' (evS b E L).1 (evS b E L).2.1 H' ∧ (∀ x ∈ H', x ∈ H) ∧ Beside (evOwn p m r L) w w' ∧ (∀ k, shOwn p m r (evS b E L).1 k → shOwn p m r E k) := by
  refine (evict_any p m c b r cap E L w h.sh h.rel.good h.lens.1 h.sh.not_p h.sh.not_m).mono ?_
  rintro e w5 ⟨v, rfl, ho, ⟨cap5, hs⟩, hg, hm, hb⟩
  obtain ⟨H', hr, hH⟩ := h.rel.evict b L.length E L H rfl
  obtain ⟨-, -, -, -, -, hsub⟩ := evS_facts b L.length E L rfl h.rel.good
  refine ⟨v, cap5, H', rfl, ho, ⟨hs, hr, fun x hx hq => At.beside (h.idle x (hH x hx) hq) hb (h.idle_not (hH x hx) hq)⟩, hH, hb, ?_⟩
  rintro k (hk | hk | hk | ⟨y, hy, e⟩)
  · exact .inl hk
  · exact .inr (.inl hk)
  · exact .inr (.inr (.inl hk))
  · exact .inr (.inr (.inr ⟨y, hsub y hy, e⟩))
end Go.Proofs.Ythmnbjdmbajhkaa
