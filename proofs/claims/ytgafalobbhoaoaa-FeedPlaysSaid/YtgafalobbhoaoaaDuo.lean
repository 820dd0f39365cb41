/-
  Both feeds side by side: what is kept of them between two calls.
-/
import Derived.Test.YtgafalobbhoaoaaTail
import Derived.Test.YtgafalobbhoaoaaRStep
import Derived.Test.YtgafalobbhoaoaaBeside
namespace Go.Proofs.Ytgafalobbhoaoaa
set_option linter.unusedVariables false
open Go.RowKit

set_option maxRecDepth 100000 in
set_option maxHeartbeats 1000000 in
/-- a feed that nobody has asked, and to which nothing came -/
theorem next_none_N (p : Nat) (h : Value) (s : St) (hok : Ok s) (w : World) (hm0 : s.m = .line) (kb : FeedB w p .nilFunc (.slice none 0 0) h s.seg s.len s.lits s.left s.ahead) (ko : OwnB w 0 h s.H) :
    Calls Try.prog 14 #[.pointer (some ⟨p, 0, none⟩)] w (NextIs w p (.slice none 0 0) h (runS s [])) := by
  obtain ⟨c0, c1, c2, c3, c4, c5, c6, c7, x0, x1, x2, x3, x4, x5, x6, x7⟩ := kb.at
  have hcmp := run_nn w
  have HT0 : Hid (Foot p h w (w.setCell ⟨p, 0, none⟩ (lineV p))) := Lib.hid (Foot.refl p h w).set
  have HK0 : Hid (FeedS (w.setCell ⟨p, 0, none⟩ (lineV p)) p (.slice none 0 0) h s) := Lib.hid ⟨by rw [hm0]; exact kb.set0 (lineV p), ko.off (feed_row_ne kb ko)⟩
  clear kb ko hok hm0
  unfold lineV at HT0 HK0
  go_enter Try.func14, Try.ntmps14
  go_wp2_with fail
  obtain ⟨d0, d1, d2, d3, d4, d5, d6, d7, y0, y1, y2, y3, y4, y5, y6, y7⟩ := HK0.out.b.at
  clear c0 c1 c2 c3 c4 c5 c6 c7 x0 x1 x2 x3 x4 x5 x6 x7
  generalize w.setCell ⟨p, 0, none⟩ (.func (.func 20) #[.pointer (some ⟨p, 0, none⟩)] #[]) = W0 at *
  refine wp_loop_rounds 1 ?_
  rw [rounds_succ]
  go_wp2_with fail
  refine bodyPost_ret (v := .tuple #[.slice none 0 0, .int .i64 0]) (by simp [results, Try.results14, go_sem]) rfl ⟨_, h, .slice none 0 0, rfl, ⟨HK0.out.b.set1 _, HK0.out.o.off (feed_row_ne HK0.out.b HK0.out.o)⟩, RestB.nil _, .inl rfl, World.ownsRow_nil _ _ _ _, HT0.out.set, Moved.refl _ _, (by intro h; cases h), (by intro _; rfl)⟩

/-- Next of a feed, whatever came -/
theorem next_whole (p : Nat) (r h : Value) (s : St) (R : List Nat) (hok : Ok s) (w : World) (k : FeedN w p r h s) (hr : RestB w r R) (hd : ∀ g, r.ownBlock = some g → h.ownBlock ≠ some g) (hR : R.length ≤ 2000000) :
    Calls Try.prog 14 #[.pointer (some ⟨p, 0, none⟩)] w (NextIs w p r h (runS s R)) := by
  rcases hr.2 with ⟨e, e2⟩ | ⟨g, off, cap, cur, e, _⟩
  · subst e e2
    rcases k with k | ⟨hm, kb, ko⟩
    · exact next_none p h s hok w k
    · exact next_none_N p h s hok w hm kb ko
  · subst e
    exact next_all p g off cap _ h s R rfl hok w k hr (hd g rfl) hR

/-- the blocks of a feed, of the reference's -/
def PB (p : Nat) (r h : Value) (b : Nat) : Prop := b = p ∨ r.ownBlock = some b ∨ h.ownBlock = some b
def QB (q : Nat) (iv c t : Value) (b : Nat) : Prop := b = q ∨ iv.ownBlock = some b ∨ c.ownBlock = some b ∨ t.ownBlock = some b

structure DuoV (w wr : World) (p q : Nat) (s1 : St) (R1 : List Nat) (s2 : St) (R2 : List Nat) (X : Nat → Prop) (r h iv c t : Value) (T : List Nat) (lo li : Int) (af : Bool) : Prop where
  fn : FeedN wr p r h s1
  rf : RefS wr q iv c t s2 T lo li af
  ok1 : Ok s1
  ok2 : Ok s2
  r1 : RestB wr r R1
  r2 : RestB wr iv R2
  rh : ∀ g, r.ownBlock = some g → h.ownBlock ≠ some g
  sep : ∀ b, PB p r h b → ¬ QB q iv c t b
  low : ∀ b, PB p r h b ∨ QB q iv c t b → w.heap.size ≤ b
  frn : ∀ b, X b → w.heap.size ≤ b ∧ b < wr.heap.size ∧ ¬ PB p r h b ∧ ¬ QB q iv c t b
  b : Below w.heap.size w wr

theorem FeedN.lt {w : World} {p : Nat} {r h : Value} {s : St} (k : FeedN w p r h s) : p < w.heap.size := by
  obtain ⟨f, kb, ko⟩ := k.feed
  exact kb.lt
theorem FeedN.keep {w w' : World} {p : Nat} {r h : Value} {s : St} (k : FeedN w p r h s) (hk : ∀ b, PB p r h b → w'.heap[b]? = w.heap[b]?) : FeedN w' p r h s := by
  rcases k with k | ⟨hm, kb, ko⟩
  · exact .inl ⟨⟨by rw [hk p (.inl rfl)]; exact k.b.row⟩, k.o.same fun g hg => hk g (.inr (.inr hg))⟩
  · exact .inr ⟨hm, ⟨by rw [hk p (.inl rfl)]; exact kb.row⟩, ko.same fun g hg => hk g (.inr (.inr hg))⟩
theorem RefS.keep {w w' : World} {q : Nat} {iv c t : Value} {s : St} {T : List Nat} {lo li : Int} {af : Bool} (k : RefS w q iv c t s T lo li af) (hk : ∀ b, QB q iv c t b → w'.heap[b]? = w.heap[b]?) : RefS w' q iv c t s T lo li af :=
  ⟨k.b.same (hk q (.inl rfl)), k.oc.same fun g hg => hk g (.inr (.inr (.inl hg))), k.ot.same fun g hg => hk g (.inr (.inr (.inr hg))), k.ne, k.ic, k.it, k.rel⟩

section
variable {w wr w' : World} {p q : Nat} {s1 s2 : St} {R1 R2 : List Nat} {X : Nat → Prop} {r h iv c t : Value} {T : List Nat} {lo li : Int} {af : Bool}

theorem DuoV.plt (k : DuoV w wr p q s1 R1 s2 R2 X r h iv c t T lo li af) : ∀ b, PB p r h b → b < wr.heap.size := by
  obtain ⟨f, kb, ko⟩ := k.fn.feed
  rintro b (rfl | hb | hb)
  · exact kb.lt
  · exact k.r1.lt b hb
  · exact ownB_lt ko b hb
theorem DuoV.qlt (k : DuoV w wr p q s1 R1 s2 R2 X r h iv c t T lo li af) : ∀ b, QB q iv c t b → b < wr.heap.size := by
  rintro b (rfl | hb | hb | hb)
  · exact k.rf.b.lt
  · exact k.r2.lt b hb
  · exact ownB_lt k.rf.oc b hb
  · exact ownB_lt k.rf.ot b hb

/-- a call of the program's feed -/
theorem DuoV.prog (k : DuoV w wr p q s1 R1 s2 R2 X r h iv c t T lo li af) {s1' : St} {R1' : List Nat} {r' h' : Value} (hb : Beside (PB p r h) wr w') (fn' : FeedN w' p r' h' s1') (ok1' : Ok s1') (r1' : RestB w' r' R1') (rh' : ∀ g, r'.ownBlock = some g → h'.ownBlock ≠ some g)
    (mv : ∀ b, PB p r' h' b → PB p r h b ∨ wr.heap.size ≤ b) : DuoV w w' p q s1' R1' s2 R2 X r' h' iv c t T lo li af := by
  have same : ∀ b, QB q iv c t b → w'.heap[b]? = wr.heap[b]? := fun b hq => hb.block b (k.qlt b hq) (fun hp => k.sep b hp hq)
  have hs := hb.size
  have hs0 := k.b.size
  refine ⟨fn', k.rf.keep same, ok1', k.ok2, r1', k.r2.keep fun b hb => same b (.inr (.inl hb)), rh', ?_, ?_, ?_, k.b.trans (hb.below (fun b hp => k.low b (.inl hp)) hs0)⟩
  · intro b hp hq
    rcases mv b hp with hp | hn
    · exact k.sep b hp hq
    · have := k.qlt b hq; omega
  · rintro b (hp | hq)
    · rcases mv b hp with hp | hn
      · exact k.low b (.inl hp)
      · omega
    · exact k.low b (.inr hq)
  · intro b hx
    obtain ⟨h0, h1, h2, h3⟩ := k.frn b hx
    exact ⟨h0, by omega, fun hp => (mv b hp).elim h2 (fun hn => by omega), h3⟩

/-- a call of the reference's -/
theorem DuoV.refr (k : DuoV w wr p q s1 R1 s2 R2 X r h iv c t T lo li af) {s2' : St} {R2' T' : List Nat} {iv' c' t' : Value} {lo' li' : Int} {af' : Bool} (hb : Beside (QB q iv c t) wr w') (rf' : RefS w' q iv' c' t' s2' T' lo' li' af') (ok2' : Ok s2') (r2' : RestB w' iv' R2')
    (mv : ∀ b, QB q iv' c' t' b → QB q iv c t b ∨ wr.heap.size ≤ b) : DuoV w w' p q s1 R1 s2' R2' X r h iv' c' t' T' lo' li' af' := by
  have same : ∀ b, PB p r h b → w'.heap[b]? = wr.heap[b]? := fun b hp => hb.block b (k.plt b hp) (fun hq => k.sep b hp hq)
  have hs := hb.size
  have hs0 := k.b.size
  refine ⟨k.fn.keep same, rf', k.ok1, ok2', k.r1.keep fun b hb => same b (.inr (.inl hb)), r2', k.rh, ?_, ?_, ?_, k.b.trans (hb.below (fun b hq => k.low b (.inr hq)) hs0)⟩
  · intro b hp hq
    rcases mv b hq with hq | hn
    · exact k.sep b hp hq
    · have := k.plt b hp; omega
  · rintro b (hp | hq)
    · exact k.low b (.inl hp)
    · rcases mv b hq with hq | hn
      · exact k.low b (.inr hq)
      · omega
  · intro b hx
    obtain ⟨h0, h1, h2, h3⟩ := k.frn b hx
    exact ⟨h0, by omega, h2, fun hq => (mv b hq).elim h3 (fun hn => by omega)⟩

/-- a call of neither -/
theorem DuoV.other (k : DuoV w wr p q s1 R1 s2 R2 X r h iv c t T lo li af) {Y : Nat → Prop} (hb : Beside Y wr w') (hY : ∀ b, Y b → X b ∨ wr.heap.size ≤ b) {Z : Nat → Prop} (hZ : ∀ b, Z b → X b ∨ wr.heap.size ≤ b ∧ b < w'.heap.size) : DuoV w w' p q s1 R1 s2 R2 Z r h iv c t T lo li af := by
  have hs := hb.size
  have hs0 := k.b.size
  have pl := k.plt
  have ql := k.qlt
  have sp : ∀ b, PB p r h b → w'.heap[b]? = wr.heap[b]? := fun b hp => hb.block b (pl b hp) (fun hy => (hY b hy).elim (fun hx => (k.frn b hx).2.2.1 hp) (fun hn => by have := pl b hp; omega))
  have sq : ∀ b, QB q iv c t b → w'.heap[b]? = wr.heap[b]? := fun b hq => hb.block b (ql b hq) (fun hy => (hY b hy).elim (fun hx => (k.frn b hx).2.2.2 hq) (fun hn => by have := ql b hq; omega))
  refine ⟨k.fn.keep sp, k.rf.keep sq, k.ok1, k.ok2, k.r1.keep fun b hb => sp b (.inr (.inl hb)), k.r2.keep fun b hb => sq b (.inr (.inl hb)), k.rh, k.sep, k.low, ?_, ?_⟩
  · intro b hz
    rcases hZ b hz with hx | ⟨h1, h2⟩
    · obtain ⟨h0, h1, h2, h3⟩ := k.frn b hx
      exact ⟨h0, by omega, h2, h3⟩
    · exact ⟨by omega, h2, fun hp => by have := pl b hp; omega, fun hq => by have := ql b hq; omega⟩
  · exact k.b.trans (hb.below (fun b hy => (hY b hy).elim (fun hx => (k.frn b hx).1) (fun hn => by omega)) hs0)
end

/-- both feeds, whatever their values -/
def Duo (w wr : World) (p q : Nat) (s1 : St) (R1 : List Nat) (s2 : St) (R2 : List Nat) (X : Nat → Prop) : Prop := ∃ r h iv c t T lo li af, DuoV w wr p q s1 R1 s2 R2 X r h iv c t T lo li af

section
variable {w wr w' : World} {p q : Nat} {s1 s2 : St} {R1 R2 : List Nat} {X : Nat → Prop}

theorem Duo.other (k : Duo w wr p q s1 R1 s2 R2 X) {Y : Nat → Prop} (hb : Beside Y wr w') (hY : ∀ b, Y b → X b ∨ wr.heap.size ≤ b) (Z : Nat → Prop) (hZ : ∀ b, Z b → X b ∨ wr.heap.size ≤ b ∧ b < w'.heap.size) : Duo w w' p q s1 R1 s2 R2 Z := by
  obtain ⟨r, h, iv, c, t, T, lo, li, af, k⟩ := k
  exact ⟨r, h, iv, c, t, T, lo, li, af, k.other hb hY hZ⟩
theorem Duo.below (k : Duo w wr p q s1 R1 s2 R2 X) (hb : Below wr.heap.size wr w') : Duo w w' p q s1 R1 s2 R2 X := k.other (Y := fun _ => False) (Below.beside hb) (fun _ h => h.elim) X fun b h => .inl h
theorem Duo.low (k : Duo w wr p q s1 R1 s2 R2 X) : Below w.heap.size w wr := by
  obtain ⟨r, h, iv, c, t, T, lo, li, af, k⟩ := k
  exact k.b
theorem Duo.plt (k : Duo w wr p q s1 R1 s2 R2 X) : p < wr.heap.size := by
  obtain ⟨r, h, iv, c, t, T, lo, li, af, k⟩ := k
  exact k.plt p (.inl rfl)
theorem Duo.frn (k : Duo w wr p q s1 R1 s2 R2 X) : ∀ b, X b → b < wr.heap.size := by
  obtain ⟨r, h, iv, c, t, T, lo, li, af, k⟩ := k
  exact fun b hb => (k.frn b hb).2.1

theorem foot_pb {p : Nat} {r h : Value} (ft : Foot p h wr w') : Beside (PB p r h) wr w' := ⟨ft.os, ft.tape, ft.output, ft.size, fun b hb hn => ft.block b hb (fun e => hn (.inl e)) (fun e => hn (.inr (.inr e)))⟩
theorem foot_pb' {p : Nat} {r h : Value} (ft : Foot p r wr w') : Beside (PB p r h) wr w' := ⟨ft.os, ft.tape, ft.output, ft.size, fun b hb hn => ft.block b hb (fun e => hn (.inl e)) (fun e => hn (.inr (.inl e)))⟩

/-- bytes are put -/
theorem Duo.put (k : Duo w wr p q s1 R1 s2 R2 X) {v : Value} {l : List Nat} (hv : RowB wr v l) (hl : R1.length + l.length ≤ 140737488355328) :
    Calls Try.prog 9 #[.pointer (some ⟨p, 0, none⟩), v] wr fun e w' => e = .returned (.tuple #[]) ∧ Duo w w' p q s1 (R1 ++ l) s2 R2 X ∧ Below w.heap.size w w' ∧ (∀ b, X b → w'.heap[b]? = wr.heap[b]?) := by
  obtain ⟨r, h, iv, c, t, T, lo, li, af, k⟩ := k
  obtain ⟨f, kb, ko⟩ := k.fn.feed
  refine (put_rest p f r h v _ _ _ _ _ R1 l wr kb k.r1 hv hl).mono ?_
  rintro e w2 ⟨r', rfl, hf, hr, ft, mv⟩
  have hbs : Beside (PB p r h) wr w2 := foot_pb' ft
  have hlt := k.plt
  have hoh : OwnB w2 0 h s1.H := ko.same fun g hg => ft.block g (ownB_lt ko g hg) (by rintro rfl; exact feed_row_ne kb ko hg) (fun e => k.rh g e hg)
  have hfn : FeedN w2 p r' h s1 := by
    rcases k.fn with k1 | ⟨hm, k1, k2⟩
    · refine .inl ⟨?_, hoh⟩
      have e1 := kb.row.symm.trans k1.b.row
      simp only [Option.some.injEq, Obj.cells.injEq, Array.mk.injEq, List.cons.injEq] at e1
      have e2 := e1.1.1
      rw [e2] at hf
      exact hf
    · refine .inr ⟨hm, ?_, hoh⟩
      have e1 := kb.row.symm.trans k1.row
      simp only [Option.some.injEq, Obj.cells.injEq, Array.mk.injEq, List.cons.injEq] at e1
      have e2 := e1.1.1
      rw [e2] at hf
      exact hf
  have kk := k.prog hbs hfn k.ok1 hr (fun g hg e => by
    rcases mv with m | m
    · rw [m] at hg; exact k.rh g hg e
    · have := m g hg; have := hlt g (.inr (.inr e)); omega) (fun b hb => by
    rcases hb with hb | hb | hb
    · exact .inl (.inl hb)
    · rcases mv with m | m
      · rw [m] at hb; exact .inl (.inr (.inl hb))
      · exact .inr (m b hb)
    · exact .inl (.inr (.inr hb)))
  exact ⟨rfl, ⟨_, _, _, _, _, _, _, _, _, kk⟩, kk.b, fun b hx => hbs.block b (k.frn b hx).2.1 (k.frn b hx).2.2.1⟩

/-- the program's feed is asked -/
theorem Duo.ask (k : Duo w wr p q s1 R1 s2 R2 X) (hR : R1.length ≤ 2000000) {s' : St} {R' out : List Nat} {kind : Nat} (hrun : runS s1 R1 = (s', R', kind, out)) :
    Calls Try.prog 14 #[.pointer (some ⟨p, 0, none⟩)] wr fun e w' => ∃ o, e = .returned (.tuple #[o, .int .i64 (kind : Int)]) ∧ Duo w w' p q s' R' s2 R2 (fun b => o.ownBlock = some b) ∧ OwnB w' wr.heap.size o out := by
  obtain ⟨r, h, iv, c, t, T, lo, li, af, k⟩ := k
  obtain ⟨f, kb, ko⟩ := k.fn.feed
  have hc := next_whole p r h s1 R1 k.ok1 wr k.fn k.r1 k.rh hR
  rw [hrun] at hc
  refine hc.mono ?_
  rintro e w2 ⟨o, h', r', rfl, hf, hr, hrb, ho, ft, mv, hn1, hn2⟩
  have hbs : Beside (PB p r h) wr w2 := foot_pb ft
  have hlt := k.plt
  have hok : Ok s' := by
    have := ok_run k.ok1 R1 k.r1.1
    rw [hrun] at this
    exact this
  have mvb : ∀ b, PB p r' h' b → PB p r h b ∨ wr.heap.size ≤ b := by
    intro b hb
    rcases hb with hb | hb | hb
    · exact .inl (.inl hb)
    · rcases hrb with e | e
      · rw [e] at hb; exact .inl (.inr (.inl hb))
      · rw [e] at hb; cases hb
    · rcases mv with m | m
      · rw [m] at hb; exact .inl (.inr (.inr hb))
      · exact .inr (m b hb)
  have kk := k.prog hbs (.inl hf) hok hr (fun g hg e => by
    have hgr : r.ownBlock = some g := by
      rcases hrb with e' | e'
      · rw [← e']; exact hg
      · rw [e'] at hg; cases hg
    rcases mv with m | m
    · rw [m] at e; exact k.rh g hgr e
    · have := m g e; have := hlt g (.inr (.inl hgr)); omega) mvb
  refine ⟨o, rfl, ⟨_, _, _, _, _, _, _, _, _, { kk with frn := ?_ }⟩, ho⟩
  intro b hb
  have hob := ownB_lt ho b hb
  have hbl : wr.heap.size ≤ b := by
    rcases ho.2 with ⟨rfl, _⟩ | ⟨g, cap, cur, rfl, hg, _⟩
    · simp [Value.ownBlock] at hb
    · simp [Value.ownBlock] at hb; omega
  have hs0 := k.b.size
  refine ⟨by omega, hob, ?_, fun hq => by have := k.qlt b hq; omega⟩
  by_cases hk1 : kind = 1
  · have hh := hn1 hk1
    subst hh
    rintro (e | e | e)
    · subst e; have := hlt b (.inl rfl); omega
    · rcases hrb with e' | e'
      · rw [e'] at e; have := hlt b (.inr (.inl e)); omega
      · rw [e'] at e; cases e
    · simp [Value.ownBlock] at e
  · have := hn2 hk1
    subst this
    simp [Value.ownBlock] at hb

/-- how much each holds -/
theorem Duo.held (k : Duo w wr p q s1 R1 s2 R2 X) (hR : R1.length ≤ 2000000) : Calls Try.prog 11 #[.pointer (some ⟨p, 0, none⟩)] wr fun e w' => e = .returned (.int .i64 ((s1.H.length : Int) + R1.length)) ∧ Below wr.heap.size wr w' := by
  obtain ⟨r, h, iv, c, t, T, lo, li, af, k⟩ := k
  obtain ⟨f, kb, ko⟩ := k.fn.feed
  obtain ⟨ra, rc, e1⟩ := k.r1.shape'
  obtain ⟨ha, hc, e2⟩ := ko.shape
  subst e1 e2
  have := k.ok1.size
  exact held_any p f _ _ _ _ _ _ _ ha ra hc rc wr kb (by omega) (by omega)
theorem Duo.rheld (k : Duo w wr p q s1 R1 s2 R2 X) (hR : R2.length ≤ 2000000) : Calls Try.prog 12 #[.pointer (some ⟨q, 0, none⟩)] wr fun e w' => e = .returned (.int .i64 ((s2.H.length : Int) + R2.length)) ∧ Below wr.heap.size wr w' := by
  obtain ⟨r, h, iv, c, t, T, lo, li, af, k⟩ := k
  have kb := k.rf.b
  obtain ⟨ra, rc, e1⟩ := k.r2.shape'
  obtain ⟨ca, cc, e2⟩ := k.rf.oc.shape
  subst e1 e2
  have := k.ok2.size
  rw [Int.add_comm]
  exact rheld_any q ra ca _ _ rc cc t _ _ _ _ _ wr kb (by omega) (by omega)

/-- bytes come to the reference's -/
theorem DuoV.push {r h iv c t : Value} {T : List Nat} {lo li : Int} {af : Bool} (k : DuoV w wr p q s1 R1 s2 R2 X r h iv c t T lo li af) {w2 : World} {o : Value} {l : List Nat} (ho : RestB w2 o (R2 ++ l)) (hg : wr.grownBy w2 iv.ownBlock) (mv : Moved iv o wr) :
    Duo w (w2.setCell ⟨q, 0, none⟩ o) p q s1 R1 s2 (R2 ++ l) X ∧ (∀ b, X b → (w2.setCell ⟨q, 0, none⟩ o).heap[b]? = wr.heap[b]?) := by
  have hq := ref_rest_ne k.rf.b k.r2
  have hbs : Beside (QB q iv c t) wr (w2.setCell ⟨q, 0, none⟩ o) := ((Beside.refl _ _).grown hg (fun b hb => .inl (.inr (.inl hb)))).setCell (p := ⟨q, 0, none⟩) (.inl (.inl rfl)) _
  have f2 := k.rf.b.grown hg hq
  have cl := ownB_lt k.rf.oc
  have tl := ownB_lt k.rf.ot
  have oc2 : OwnB w2 0 c s2.H := k.rf.oc.same fun g hg' => hg.block g (cl g hg') (fun e => k.rf.ic g e.symm hg')
  have ot2 : OwnB w2 0 t T := k.rf.ot.same fun g hg' => hg.block g (tl g hg') (fun e => k.rf.it g e.symm hg')
  have rf' : RefS (w2.setCell ⟨q, 0, none⟩ o) q o c t s2 T lo li af := by
    refine ⟨f2.set0 o, oc2.off (ref_row_ne f2 oc2), ot2.off (ref_row_ne f2 ot2), k.rf.ne, fun g hg' e => ?_, fun g hg' e => ?_, k.rf.rel⟩
    · rcases mv with m | m
      · rw [m] at hg'; exact k.rf.ic g hg' e
      · have := m g hg'; have := cl g e; omega
    · rcases mv with m | m
      · rw [m] at hg'; exact k.rf.it g hg' e
      · have := m g hg'; have := tl g e; omega
  have kk := k.refr hbs rf' k.ok2 (ho.keep fun b hb => heap_setCell_other _ _ _ _ (by rintro rfl; exact ref_rest_ne f2 ho hb)) (fun b hb => by
    rcases hb with hb | hb | hb | hb
    · exact .inl (.inl hb)
    · rcases mv with m | m
      · rw [m] at hb; exact .inl (.inr (.inl hb))
      · exact .inr (m b hb)
    · exact .inl (.inr (.inr (.inl hb)))
    · exact .inl (.inr (.inr (.inr hb))))
  exact ⟨⟨_, _, _, _, _, _, _, _, _, kk⟩, fun b hx => hbs.block b (k.frn b hx).2.1 (k.frn b hx).2.2.2⟩
end
end Go.Proofs.Ytgafalobbhoaoaa
