/-
  ShelfKeeps: the shelf and the law's own row side by side.
-/
import Derived.Test.YthmnbjdmbajhkaaKeepP
namespace Go.Proofs.Ythmnbjdmbajhkaa
set_option linter.unusedVariables false
open Go.RowKit
attribute [local go_sem] Oper.semAt_some

theorem cell_five_new (w : World) (a b c d e : Value) (t : TypeId) : ∀ j u, [a, b, c, d, e][j]? = some u → (w.alloc (.cells #[a, b, c, d, e] t)).cell? ((⟨w.heap.size, 0, none⟩ : Addr).add j) = some u := by
  intro j u hj
  match j, hj with
  | 0, hj => simp at hj; subst hj; simp [Addr.add]
  | 1, hj => simp at hj; subst hj; simp [Addr.add]
  | 2, hj => simp at hj; subst hj; simp [Addr.add]
  | 3, hj => simp at hj; subst hj; simp [Addr.add]
  | 4, hj => simp at hj; subst hj; simp [Addr.add]
  | j + 5, hj => simp at hj

theorem Try.info37 : (Try.prog.info? 37).map (fun i => (i.zero, i.size, i.bytes)) = some (some (.agg #[.int .u32 0, .int .u32 0, .int .i64 0, .int .i64 0, .bool false]), 5, 32) := by kernel_rfl
/-- 'append' of one thing to the law's own row -/
theorem appO {ops : Array Oper} {rest : List Oper} {o : Oper} {a : Act} {Q : Exit → Act → World → Prop} (hgd : o.guard = none) (s x : Operand)
    (ho : o.op = .call { callee := .builtin .append, args := #[s, x], argTypes := #[28, 28] }) {wr : World} {b c d f : Int} {q : Bool} {B n : Nat} {v : Value} {xs : List Value}
    {g : Nat} (hs : a.eval s = v) (hx : a.eval x = .slice (some ⟨g, 0, none⟩) 1 1) (hg : g = wr.heap.size) (hown : wr.ownsRow B 37 5 v n xs) (hB : B ≤ wr.heap.size) (hn : n ≤ 1000000)
    (h : ∀ v' w2, w2.ownsRow B 37 5 v' (n + 1) (xs ++ [.int .u32 b, .int .u32 c, .int .i64 d, .int .i64 f, .bool q]) → Beside (fun k => v.ownBlock = some k) wr w2 → wpList Try.prog ops Q rest (a.put o.dst v') w2) :
    wpList Try.prog ops Q (o :: rest) a (wr.alloc (.cells #[.int .u32 b, .int .u32 c, .int .i64 d, .int .i64 f, .bool q] 37)) := by
  subst hg
  obtain ⟨i0, hi, hz0, hz1, hz2⟩ := info_parts Try.info37
  have hown2 : (wr.alloc (.cells #[.int .u32 b, .int .u32 c, .int .i64 d, .int .i64 f, .bool q] 37)).ownsRow B 37 5 v n xs := by
    refine ⟨hown.1, ?_⟩
    rcases hown.2 with h | ⟨g, c, cur, e, h0, hh, h1⟩
    · exact .inl h
    · exact .inr ⟨g, c, cur, e, h0, (Below.heap_alloc _ _ _ (Array.getElem?_eq_some_iff.1 hh).1).trans hh, h1⟩
  refine wpList_append_own_at _ hgd s x 28 ho B 37 i0 _ 5 32 Try.underlying28 hi hz0 hz1 hz2 rfl (by decide) v n xs hs hown2 ⟨wr.heap.size, 0, none⟩ 1 1 [.int .u32 b, .int .u32 c, .int .i64 d, .int .i64 f, .bool q] hx rfl (cell_five_new wr _ _ _ _ _ 37) (by simp [Value.oneCell']) (by simp [maxLen]; omega) (by omega) (by simp; omega) ?_
  intro v' w2 ho' hgr _ hat
  exact h v' w2 ho' (((Beside.refl _ wr).alloc _).grown hgr (fun k hk => .inl hk))

/-- a block of the shelf is none of a row of another type -/
theorem ShB.own_type {w : World} {p m c : Nat} {b : Int} {r : Option Addr} {cap : Nat} {E : List (Th × Nat)} {L : List Th} (h : ShB w p m c b r cap E L) {k : Nat} (hk : evOwn p m r L k) {cur : Array Value} {ty : TypeId} {x : Nat × Nat}
    (hc : w.heap[k]? = some (.cells cur ty x)) : ty = 56 ∨ ty = 57 ∨ ty = 60 := by
  rcases hk with rfl | rfl | hk
  · have := hc.symm.trans h.row
    cases this
    exact .inl rfl
  · have := hc.symm.trans h.map
    cases this
  · rcases h.ord with ⟨rfl, rfl, rfl⟩ | ⟨og, rfl, _, hO⟩
    · rcases hk with ⟨_, h, _⟩ | ⟨_, h, _⟩ <;> cases h
    · rcases sOwn_some.1 hk with rfl | ⟨x, hx, rfl⟩
      · obtain ⟨cur', h1, -⟩ := hO.row
        have := hc.symm.trans h1
        cases this
        exact .inr (.inl rfl)
      · obtain ⟨i, hi, rfl⟩ := List.mem_iff_getElem.1 hx
        have := hc.symm.trans (hO.th i hi)
        cases this
        exact .inr (.inr rfl)
theorem ShB.apart {w : World} {p m c : Nat} {b : Int} {r : Option Addr} {cap : Nat} {E : List (Th × Nat)} {L : List Th} (h : ShB w p m c b r cap E L) {B e sz n : Nat} {v : Value} {xs : List Value} (ho : w.ownsRow B e sz v n xs)
    (he : e ≠ 56 ∧ e ≠ 57 ∧ e ≠ 60) : ∀ k, evOwn p m r L k → v.ownBlock ≠ some k := by
  intro k hk hv
  rcases ho.2 with ⟨rfl, _⟩ | ⟨g, cc, cur, rfl, _, hh, _⟩
  · simp [Value.ownBlock] at hv
  · simp only [Value.ownBlock, Option.some.injEq] at hv
    subst hv
    rcases h.own_type hk hh with h | h | h
    · exact he.1 h
    · exact he.2.1 h
    · exact he.2.2 h
theorem ShB.not_p {w : World} {p m c : Nat} {b : Int} {r : Option Addr} {cap : Nat} {E : List (Th × Nat)} {L : List Th} (h : ShB w p m c b r cap E L) : ¬ sOwn r L p := by
  intro hk
  rcases h.ord with ⟨rfl, rfl, rfl⟩ | ⟨og, rfl, _, hO⟩
  · rcases hk with ⟨_, h, _⟩ | ⟨_, h, _⟩ <;> cases h
  · rcases sOwn_some.1 hk with e | ⟨x, hx, e⟩
    · obtain ⟨cur', h1, -⟩ := hO.row
      have := (e ▸ h.row).symm.trans h1
      cases this
    · obtain ⟨i, hi, rfl⟩ := List.mem_iff_getElem.1 hx
      have := (e ▸ h.row).symm.trans (hO.th i hi)
      cases this
theorem ShB.not_m {w : World} {p m c : Nat} {b : Int} {r : Option Addr} {cap : Nat} {E : List (Th × Nat)} {L : List Th} (h : ShB w p m c b r cap E L) : ¬ sOwn r L m := by
  intro hk
  rcases h.ord with ⟨rfl, rfl, rfl⟩ | ⟨og, rfl, _, hO⟩
  · rcases hk with ⟨_, h, _⟩ | ⟨_, h, _⟩ <;> cases h
  · have hm : w.heap[m]? = _ := h.map
    rcases sOwn_some.1 hk with e | ⟨x, hx, e⟩
    · obtain ⟨cur', h1, -⟩ := hO.row
      subst e
      have := hm.symm.trans h1
      cases this
    · obtain ⟨i, hi, rfl⟩ := List.mem_iff_getElem.1 hx
      subst e
      have := hm.symm.trans (hO.th i hi)
      cases this
theorem ShB.beside {w w' : World} {p m c : Nat} {b : Int} {r : Option Addr} {cap : Nat} {E : List (Th × Nat)} {L : List Th} (h : ShB w p m c b r cap E L) {own : Nat → Prop} (hb : Beside own w w') (ho : ∀ k, evOwn p m r L k → ¬ own k) :
    ShB w' p m c b r cap E L :=
  ⟨h.row.beside hb (ho p (.inl rfl)), At.beside h.map hb (ho m (.inr (.inl rfl))), h.ord.beside hb (fun k hk => ho k (.inr (.inr hk)))⟩
theorem owns_beside' {own : Nat → Prop} {a b : World} {B e sz n : Nat} {v : Value} {xs : List Value} (h : a.ownsRow B e sz v n xs) (hb : Beside own a b) (ho : ∀ k, own k → v.ownBlock ≠ some k) : b.ownsRow B e sz v n xs := by
  refine ⟨h.1, ?_⟩
  rcases h.2 with h | ⟨g, c, cur, e, h0, hh, h1⟩
  · exact .inl h
  · exact .inr ⟨g, c, cur, e, h0, (hb.block g (Array.getElem?_eq_some_iff.1 hh).1 (fun k => ho g k (by rw [e]; rfl))).trans hh, h1⟩

/-- the shelf, and the law's own row of the first things -/
structure Keep (B : Nat) (w : World) (p m c : Nat) (b : Int) (r : Option Addr) (cap : Nat) (E : List (Th × Nat)) (L : List Th) (H : List (Th × Bool)) (hv : Value) (R : List (Th × Bool)) : Prop where
  sh : ShB w p m c b r cap E L
  good : Good E L
  like : Like E L H
  low : ∀ k, evOwn p m r L k → B ≤ k
  row : w.ownsRow B 37 5 hv R.length (oneC R)
  len : L.length ≤ E.length

theorem Keep.below {B : Nat} {w w' : World} {p m c : Nat} {b : Int} {r : Option Addr} {cap : Nat} {E : List (Th × Nat)} {L : List Th} {H : List (Th × Bool)} {hv : Value} {R : List (Th × Bool)} (h : Keep B w p m c b r cap E L H hv R)
    (hb : Below w.heap.size w w') : Keep B w' p m c b r cap E L H hv R :=
  ⟨h.sh.beside (own := fun _ => False) (Below.beside hb) (fun _ _ h => h), h.good, h.like, h.low, owns_beside' h.row (own := fun _ => False) (Below.beside hb) (fun _ h => h.elim), h.len⟩

/-- behind a Put of what was not there -/
theorem Keep.put {B : Nat} {w w' : World} {p m c : Nat} {b : Int} {r : Option Addr} {cap : Nat} {E : List (Th × Nat)} {L : List Th} {H : List (Th × Bool)} {hv : Value} {R : List (Th × Bool)} (h : Keep B w p m c b r cap E L H hv R)
    {v u size used : Int} {clean : Bool} (hq : at? E v u = none) (h0 : 0 ≤ size) (h1 : size ≤ 1048576) (hE : E.length < 65536) (hB : B ≤ w.heap.size)
    (hd : PutDone p m c b (sumE E) v u size used clean r E L w w') :
    ∃ t cap' r' E' L', t.v = v ∧ t.u = u ∧ t.size = size ∧ t.used = used ∧ E'.length = E.length + 1 ∧ Keep B w' p m (c + 1) b r' cap' E' L' (H ++ [(t, clean)]) hv R ∧ Beside (evOwn p m r L) w w' := by
  obtain ⟨tb, cap', r', ht, hp, hm, ho, _, hb, hat⟩ := hd
  have hls : (if clean then upL (L ++ [⟨tb, v, u, size, used⟩]) L.length else L).length = L.length + (if clean then 1 else 0) := by
    cases clean
    · rfl
    · have hp := upL_perm (L ++ [(⟨tb, v, u, size, used⟩ : Th)]) L.length (by simp)
      simpa using hp.length_eq
  have hlow : ∀ k, sOwn r' (if clean then upL (L ++ [⟨tb, v, u, size, used⟩]) L.length else L) k → B ≤ k := by
    rintro k (⟨og, e, rfl⟩ | ⟨x, hx, rfl⟩)
    · rcases hat k e with ⟨o, ho, rfl⟩ | h2
      · exact h.low k (.inr (.inr (.inl ⟨_, ho, rfl⟩)))
      · omega
    · have hx' : x ∈ L ∨ x = ⟨tb, v, u, size, used⟩ := by
        cases clean
        · exact .inl hx
        · have hp := upL_perm (L ++ [(⟨tb, v, u, size, used⟩ : Th)]) L.length (by simp)
          simpa using hp.mem_iff.1 hx
      rcases hx' with hx' | rfl
      · exact h.low _ (.inr (.inr (.inr ⟨x, hx', rfl⟩)))
      · exact Nat.le_trans hB ht
  refine ⟨⟨tb, v, u, size, used⟩, cap', r', E ++ [(⟨tb, v, u, size, used⟩, c)], _, rfl, rfl, rfl, rfl, by simp, ⟨⟨?_, hm, ho⟩, h.good.put hq h0 h1 hE clean, h.like.put h.good c clean hq, ?_, owns_beside' h.row hb ?_, ?_⟩, hb⟩
  · have : sumE (E ++ [((⟨tb, v, u, size, used⟩ : Th), c)]) = sumE E + size := by simp [sumE]
    rw [this, hls]
    exact hp
  · rintro k (rfl | rfl | hk)
    · exact h.low k (.inl rfl)
    · exact h.low k (.inr (.inl rfl))
    · exact hlow k hk
  · exact h.sh.apart h.row (by decide)
  · rw [hls]
    have := h.len
    simp only [List.length_append, List.length_cons, List.length_nil]
    split <;> omega
/-- behind the append -/
theorem Keep.app {B : Nat} {w w' : World} {p m c : Nat} {b : Int} {r : Option Addr} {cap : Nat} {E : List (Th × Nat)} {L : List Th} {H : List (Th × Bool)} {hv hv' : Value} {x : Th × Bool} (h : Keep B w p m c b r cap E L (H ++ [x]) hv H)
    (ho : w'.ownsRow B 37 5 hv' (H.length + 1) (oneC H ++ [.int .u32 x.1.v, .int .u32 x.1.u, .int .i64 x.1.size, .int .i64 x.1.used, .bool x.2])) (hb : Beside (fun k => hv.ownBlock = some k) w w') :
    Keep B w' p m c b r cap E L (H ++ [x]) hv' (H ++ [x]) :=
  ⟨h.sh.beside hb (fun k hk e => h.sh.apart h.row (by decide) k hk e), h.good, h.like, h.low, by rw [oneC_snoc, List.length_append]; exact ho, h.len⟩
end Go.Proofs.Ythmnbjdmbajhkaa
