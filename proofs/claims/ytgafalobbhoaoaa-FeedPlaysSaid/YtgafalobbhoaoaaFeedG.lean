/-
  The contracts of a feed's small methods at any state: next, literal, skip; what each leaves alone.
-/
import Derived.Test.YtgafalobbhoaoaaFeedP
import Derived.Test.YtgafalobbhoaoaaNext
import Derived.Maps.AppendAt
namespace Go.Proofs.Ytgafalobbhoaoaa
set_option linter.unusedVariables false
open Go.RowKit

def litV (p : Nat) : Value := .func (.func 31) #[.pointer (some ⟨p, 0, none⟩)] #[]
def skipV (p : Nat) : Value := .func (.func 27) #[.pointer (some ⟨p, 0, none⟩)] #[]
def fv (p : Nat) : Mode → Value
  | .line => lineV p
  | .lit => litV p
  | .skip => skipV p

/-- below the heap's end nothing has turned but block p and h's own block -/
structure Foot (p : Nat) (h : Value) (w w' : World) : Prop where
  os : w'.os = w.os
  tape : w'.tape = w.tape
  output : w'.output = w.output
  size : w.heap.size ≤ w'.heap.size
  block : ∀ b, b < w.heap.size → b ≠ p → h.ownBlock ≠ some b → w'.heap[b]? = w.heap[b]?
/-- a row that lies where the elder one lay, or in a block that is new, or nowhere -/
def Moved (h h' : Value) (w : World) : Prop := h'.ownBlock = h.ownBlock ∨ ∀ g, h'.ownBlock = some g → w.heap.size ≤ g
theorem Moved.refl (h : Value) (w : World) : Moved h h w := .inl rfl
theorem Moved.none (h : Value) (w : World) : Moved h (.slice none 0 0) w := .inr (fun g hg => by simp [Value.ownBlock] at hg)
theorem Foot.refl (p : Nat) (h : Value) (w : World) : Foot p h w w := ⟨rfl, rfl, rfl, Nat.le_refl _, fun _ _ _ _ => rfl⟩
theorem Moved.trans {h h' h'' : Value} {w w1 : World} (a : Moved h h' w) (b : Moved h' h'' w1) (hs : w.heap.size ≤ w1.heap.size) : Moved h h'' w := by
  rcases b with b | b
  · rcases a with a | a
    · exact .inl (b.trans a)
    · exact .inr (fun g hg => a g (b ▸ hg))
  · exact .inr (fun g hg => Nat.le_trans hs (b g hg))
theorem Foot.trans {p : Nat} {h h' : Value} {w w1 w2 : World} (a : Foot p h w w1) (m : Moved h h' w) (b : Foot p h' w1 w2) : Foot p h w w2 :=
  ⟨b.os.trans a.os, b.tape.trans a.tape, b.output.trans a.output, Nat.le_trans a.size b.size, fun k h1 h2 h3 => (b.block k (Nat.lt_of_lt_of_le h1 a.size) h2 (by
    rcases m with m | m
    · rw [m]; exact h3
    · intro e; have := m k e; omega)).trans (a.block k h1 h2 h3)⟩
theorem Foot.of_kept {p : Nat} {w w' : World} (h : Value) (hs : w'.heap.size = w.heap.size) (k : ∀ B, Kept p B w w') (hb : Below p w w') : Foot p h w w' := ⟨hb.os, hb.tape, hb.output, by omega, fun b h1 h2 _ => k w.heap.size b h1 h2⟩
theorem Foot.of_below {p : Nat} {w w' : World} (h : Value) (hb : Below w.heap.size w w') : Foot p h w w' := ⟨hb.os, hb.tape, hb.output, hb.size, fun b h1 _ _ => hb.block b h1⟩
theorem Foot.of_grown {p : Nat} {w w' : World} {h : Value} (hg : w.grownBy w' h.ownBlock) : Foot p h w w' := ⟨hg.os, hg.tape, hg.output, hg.size, fun b h1 _ h3 => hg.block b h1 (fun e => h3 e.symm)⟩
theorem Foot.set {p j : Nat} {w w' : World} {h v : Value} (k : Foot p h w w') : Foot p h w (w'.setCell ⟨p, j, none⟩ v) :=
  ⟨k.os, k.tape, k.output, by simp; exact k.size, fun b h1 h2 h3 => (heap_setCell_other _ _ _ _ (by simpa using h2)).trans (k.block b h1 h2 h3)⟩
theorem Foot.alloc {p : Nat} {w w' : World} {h : Value} (k : Foot p h w w') (o : Obj) : Foot p h w (w'.alloc o) :=
  ⟨k.os, k.tape, k.output, by simp; have := k.size; omega, fun b h1 h2 h3 => (Below.heap_alloc w' o b (Nat.lt_of_lt_of_le h1 k.size)).trans (k.block b h1 h2 h3)⟩

theorem feed_row_ne {w : World} {p : Nat} {f r h v : Value} {seg len lits left ahead : Int} {B : Nat} {l : List Nat} (k : FeedB w p f r h seg len lits left ahead) (o : OwnB w B v l) : v.ownBlock ≠ some p := by
  intro e
  rcases o.2 with ⟨rfl, _⟩ | ⟨g, cap, cur, rfl, hg, hh, _⟩
  · simp [Value.ownBlock] at e
  · simp [Value.ownBlock] at e
    subst e
    rw [k.row] at hh
    simp at hh
theorem FeedB.grown {w w' : World} {p : Nat} {f r h : Value} {seg len lits left ahead : Int} (k : FeedB w p f r h seg len lits left ahead) {row : Option Nat} (hg : w.grownBy w' row) (hn : row ≠ some p) : FeedB w' p f r h seg len lits left ahead :=
  ⟨by rw [hg.block p k.lt (fun e => hn e.symm)]; exact k.row⟩
theorem FeedB.alloc {w : World} {p : Nat} {f r h : Value} {seg len lits left ahead : Int} (k : FeedB w p f r h seg len lits left ahead) (o : Obj) : FeedB (w.alloc o) p f r h seg len lits left ahead :=
  ⟨by rw [Below.heap_alloc w o p k.lt]; exact k.row⟩
theorem OwnB.off {w : World} {B p j : Nat} {v u : Value} {l : List Nat} (h : OwnB w B v l) (hp : v.ownBlock ≠ Option.some p) : OwnB (w.setCell ⟨p, j, none⟩ u) B v l := by
  refine ⟨h.1, ?_⟩
  rcases h.2 with h2 | ⟨g, cap, cur, rfl, hg, hh, r⟩
  · exact .inl h2
  · exact .inr ⟨g, cap, cur, rfl, hg, by rw [heap_setCell_other _ _ _ _ (show g ≠ p by rintro rfl; exact hp rfl)]; exact hh, r⟩

/-- 'append(out, x)' of one byte, with what it leaves alone -/
theorem app1g {ops : Array Oper} {rest : List Oper} {o : Oper} {a : Act} {Q : Exit → Act → World → Prop} (hgd : o.guard = none) (s x : Operand)
    (ho : o.op = .call { callee := .builtin .append, args := #[s, x], argTypes := #[27, 27] })
    {wr : World} {B : Nat} {v : Value} {l : List Nat} {n : Nat} {z : Int} (hown : OwnB wr B v l) (hB : B ≤ wr.heap.size)
    (hs : a.eval s = v) (hx : a.eval x = .slice (some ⟨wr.heap.size, 0, none⟩) 1 1) (hlen : l.length + 1 ≤ 140737488355328) (hz : Hid (z = (n : Int)))
    (h : ∀ o' w2, OwnB w2 B o' (l ++ [n]) → (wr.alloc (.cells #[.int .u8 z] 5)).grownBy w2 v.ownBlock → Moved v o' wr → wpList Try.prog ops Q rest (a.put o.dst o') w2) :
    wpList Try.prog ops Q (o :: rest) a (wr.alloc (.cells #[.int .u8 z] 5)) := by
  obtain ⟨i0, hi, hz0, hz1, hz2⟩ := info_parts Try.info5
  refine wpList_append_own_at _ hgd s x 27 ho B 5 i0 (.int .u8 0) 1 1 Try.underlying27 hi hz0 hz1 hz2 rfl (by decide) v l.length (u8s l) hs (World.ownsRow.alloc hown _) ⟨wr.heap.size, 0, none⟩ 1 1 [.int .u8 z] hx rfl (one_new _ _ _) (by simp [Value.oneCell']) (by simp [maxLen]; omega) (by omega) (by simp; omega) ?_
  intro o' w2 ho' hgr _ hat
  have e : z = (n : Int) := hz
  subst e
  refine h o' w2 (OwnB.snoc ho' rfl) hgr ?_
  rcases hat with e | e
  · exact .inl e
  · exact .inr (fun g hg => by rw [e] at hg; simp at hg; omega)

set_option maxRecDepth 100000 in
set_option maxHeartbeats 1000000 in
theorem next_zero (p : Nat) (f r : Value) (a : Option Addr) (n c : Nat) (seg len lits ahead : Int) (w : World) (hf : FeedB w p f r (.slice a n c) seg len lits 0 ahead) :
    Calls Try.prog 29 #[.pointer (some ⟨p, 0, none⟩)] w fun e w' => e = .returned (.tuple #[]) ∧ FeedB w' p (lineV p) r (.slice a n c) n len lits 0 0 ∧ w'.heap.size = w.heap.size ∧ (∀ B, Kept p B w w') ∧ Below p w w' := by
  obtain ⟨c0, c1, c2, c3, c4, c5, c6, c7, x0, x1, x2, x3, x4, x5, x6, x7⟩ := hf.at
  have HF := Lib.hid hf
  clear hf
  go_enter Try.func29, Try.ntmps29
  go_wp2_with fail
  go_end0
  refine ⟨rfl, ⟨?_⟩, by simp, fun B => (((Kept.refl p B w).set).set).set.set, ((((Below.refl _ _).setCell (p := ⟨p, 0, none⟩) (Nat.le_refl _) _).setCell (p := ⟨p, 0, none⟩) (Nat.le_refl _) _).setCell (p := ⟨p, 3, none⟩) (Nat.le_refl _) _).setCell (p := ⟨p, 7, none⟩) (Nat.le_refl _) _⟩
  exact ((((HF.out.set0 (litV p)).set0 (lineV p)).set3 n).set7 0).row

set_option maxRecDepth 100000 in
set_option maxHeartbeats 1000000 in
theorem next_more (p : Nat) (f r h : Value) (seg len lits left ahead : Int) (w : World) (hl : 0 < left) (hf : FeedB w p f r h seg len lits left ahead) :
    Calls Try.prog 29 #[.pointer (some ⟨p, 0, none⟩)] w fun e w' => e = .returned (.tuple #[]) ∧ FeedB w' p (litV p) r h seg len lits left ahead ∧ w'.heap.size = w.heap.size ∧ (∀ B, Kept p B w w') ∧ Below p w w' := by
  obtain ⟨c0, c1, c2, c3, c4, c5, c6, c7, x0, x1, x2, x3, x4, x5, x6, x7⟩ := hf.at
  have HF := Lib.hid hf
  have hl0 : (left == 0) = false := by simp; omega
  clear hf
  go_enter Try.func29, Try.ntmps29
  go_wp2_with fail
  go_end0
  exact ⟨rfl, HF.out.set0 (litV p), by simp, fun B => ((Kept.refl p B w).set), ((Below.refl _ _).setCell (p := ⟨p, 0, none⟩) (Nat.le_refl _) _)⟩

/-- a feed in a state, its function value given -/
structure FeedS (w : World) (p : Nat) (r h : Value) (s : St) : Prop where
  b : FeedB w p (fv p s.m) r h s.seg s.len s.lits s.left s.ahead
  o : OwnB w 0 h s.H
/-- what a step leaves -/
def StepIs (w : World) (p : Nat) (r h : Value) (s' : St) (ans : Nat) (e : Ending) (w' : World) : Prop :=
  ∃ h', e = .returned (.int .i64 ans) ∧ FeedS w' p r h' s' ∧ Foot p h w w' ∧ Moved h h' w

theorem kept_own {w w' : World} {p : Nat} {f r h v : Value} {seg len lits left ahead : Int} {l : List Nat} (k : FeedB w p f r h seg len lits left ahead) (o : OwnB w 0 v l) (hk : ∀ B, Kept p B w w') : OwnB w' 0 v l := by
  have hne := feed_row_ne k o
  refine ⟨o.1, ?_⟩
  rcases o.2 with h2 | ⟨g, cap, cur, rfl, hg, hh, r⟩
  · exact .inl h2
  · exact .inr ⟨g, cap, cur, rfl, hg, by rw [hk w.heap.size g (Array.getElem?_eq_some_iff.1 hh).1 (by rintro rfl; exact hne rfl)]; exact hh, r⟩

set_option maxRecDepth 100000 in
set_option maxHeartbeats 2000000 in
theorem lit_step (p : Nat) (r h : Value) (s : St) (hok : Ok s) (hm : s.m = .lit) (c : Nat) (hc : c < 256) (w : World) (k : FeedS w p r h s) :
    Calls Try.prog 31 #[.pointer (some ⟨p, 0, none⟩), .int .u8 (c : Int)] w (StepIs w p r h (litS s c).1 0) := by
  obtain ⟨H, L⟩ := hok.size, hok.lt hm
  obtain ⟨c0, c1, c2, c3, c4, c5, c6, c7, x0, x1, x2, x3, x4, x5, x6, x7⟩ := k.b.at
  have hne := Lib.hid (feed_row_ne k.b k.o)
  have HK := Lib.hid k
  obtain ⟨lf, hlf⟩ : ∃ n, s.left = n + 1 := ⟨s.left - 1, by omega⟩
  have hlb := hok.left
  have hli : ((s.left : Nat) : Int) = (lf : Int) + 1 := by omega
  have hlfb : lf ≤ 16384 := by omega
  rw [hli] at c6
  have HLF := Lib.hid hlf
  have HLI := Lib.hid hli
  have hO := k.o
  clear hlf hli k hok hlb
  go_enter Try.func31, Try.ntmps31
  go_wp2_with (at_builtin; go_loud (refine app1g rfl (.tmp 9) (.tmp 11) rfl hO (Nat.zero_le _) rfl rfl (by omega) (Lib.hid rfl) ?_); intro o' w2 ho hg2 hm2; obtain ⟨oa, oc, rfl⟩ := ho.shape; simp only [List.length_append, List.length_cons, List.length_nil, Nat.zero_add] at ho hm2; have HF2 := Lib.hid ((HK.out.b.alloc _).grown hg2 hne.out); obtain ⟨d0, d1, d2, d3, d4, d5, d6, d7, e0, e1, e2, e3, e4, e5, e6, e7⟩ := HF2.out.at; rw [HLI.out] at d6; have HO2 := Lib.hid ho; have HG2 := Lib.hid hg2; have HM2 := Lib.hid hm2; clear ho hg2 hm2)
  have HF3 := Lib.hid ((HF2.out.set2 (.slice oa (s.H.length + 1) oc)).set6 (lf : Int))
  have hfo : Foot p h w ((w2.setCell ⟨p, 2, none⟩ (.slice oa (s.H.length + 1) oc)).setCell ⟨p, 6, none⟩ (.int .i64 (lf : Int))) := ((Foot.trans ((Foot.refl p h w).alloc _) (Moved.refl h w) (Foot.of_grown HG2.out)).set).set
  have HFo := Lib.hid hfo
  have ho3 : OwnB ((w2.setCell ⟨p, 2, none⟩ (.slice oa (s.H.length + 1) oc)).setCell ⟨p, 6, none⟩ (.int .i64 (lf : Int))) 0 (.slice oa (s.H.length + 1) oc) (s.H ++ [c]) := (HO2.out.off (feed_row_ne HF2.out HO2.out)).off (feed_row_ne HF2.out HO2.out)
  have HO3 := Lib.hid ho3
  clear hfo ho3
  by_cases h0 : lf = 0
  · subst h0
    refine (next_zero p _ _ _ _ _ _ _ _ _ _ HF3.out).mono ?_
    rintro e w4 ⟨rfl, hf4, hz4, hk4, hb4⟩
    have HF4 := Lib.hid hf4
    have HK4 := Lib.hid hk4
    have HZ4 := Lib.hid hz4
    have HBL4 := Lib.hid hb4
    clear hf4 hk4 hz4 hb4
    go_wp2_with fail
    go_ret
    refine ⟨_, rfl, ⟨?_, ?_⟩, HFo.out.trans HM2.out (Foot.of_kept _ HZ4.out HK4.out HBL4.out), HM2.out⟩
    · have e1 : (litS s c).1 = { s with H := s.H ++ [c], left := 0, m := .line, seg := (s.H ++ [c]).length, ahead := 0 } := by
        unfold litS nextS
        rw [HLF.out]
        rfl
      rw [e1]
      have hl1 : (s.H ++ [c]).length = s.H.length + 1 := by simp
      show FeedB _ p (lineV p) r _ ((s.H ++ [c]).length : Nat) s.len s.lits 0 0
      rw [hl1]
      exact HF4.out
    · have e1 : (litS s c).1.H = s.H ++ [c] := by
        unfold litS nextS
        split <;> rfl
      rw [e1]
      exact kept_own HF3.out HO3.out HK4.out
  · have hlp : 0 < (lf : Int) := by omega
    refine (next_more p _ _ _ _ _ _ _ _ _ hlp HF3.out).mono ?_
    rintro e w4 ⟨rfl, hf4, hz4, hk4, hb4⟩
    have HF4 := Lib.hid hf4
    have HK4 := Lib.hid hk4
    have HZ4 := Lib.hid hz4
    have HBL4 := Lib.hid hb4
    clear hf4 hk4 hz4 hb4
    go_wp2_with fail
    go_ret
    have e1 : (litS s c).1 = { s with H := s.H ++ [c], left := lf, m := .lit } := by
      unfold litS nextS
      rw [HLF.out]
      simp [h0]
    refine ⟨_, rfl, ⟨?_, ?_⟩, HFo.out.trans HM2.out (Foot.of_kept _ HZ4.out HK4.out HBL4.out), HM2.out⟩
    · rw [e1]
      exact HF4.out
    · rw [e1]
      exact kept_own HF3.out HO3.out HK4.out

set_option maxRecDepth 100000 in
set_option maxHeartbeats 2000000 in
theorem skip_step (p : Nat) (r h : Value) (s : St) (hm : s.m = .skip) (c : Nat) (hc : c < 256) (w : World) (k : FeedS w p r h s) :
    Calls Try.prog 27 #[.pointer (some ⟨p, 0, none⟩), .int .u8 (c : Int)] w (StepIs w p r h (skipS s c).1 0) := by
  obtain ⟨c0, c1, c2, c3, c4, c5, c6, c7, x0, x1, x2, x3, x4, x5, x6, x7⟩ := k.b.at
  have HK := Lib.hid k
  clear k
  by_cases he : endsB s c = true
  · have HE := Lib.hid he
    have h1 : ((s.ahead : Int) == 13) = true := by unfold endsB at he; simp at he ⊢; omega
    have h2 : ((c : Int) == 10) = true := by unfold endsB at he; simp at he ⊢; omega
    clear he
    go_enter Try.func27, Try.ntmps27
    go_wp2_with fail
    refine (begin_any p _ _ _ _ _ _ _ _ _ HK.out.b).mono ?_
    rintro e w4 ⟨rfl, hf4, hz4, hb4, hk4⟩
    have HF4 := Lib.hid hf4
    have HK4 := Lib.hid hk4
    have HZ4 := Lib.hid hz4
    have HBL4 := Lib.hid hb4
    clear hf4 hk4 hz4 hb4
    go_wp2_with fail
    go_ret
    have e1 : (skipS s c).1 = st0 := by unfold skipS; rw [if_pos HE.out]
    refine ⟨_, rfl, ⟨?_, ?_⟩, Foot.of_kept _ HZ4.out HK4.out HBL4.out, Moved.none _ _⟩
    · rw [e1]; exact HF4.out
    · rw [e1]; exact World.ownsRow_nil _ _ _ _
  · have he' : endsB s c = false := by simpa using he
    have HE := Lib.hid he'
    have hcase : (((s.ahead : Int) == 13) = false ∨ (((s.ahead : Int) == 13) = true ∧ ((c : Int) == 10) = false)) := by
      unfold endsB at he'
      by_cases h1 : s.ahead = 13
      · right; simp [h1] at he' ⊢; omega
      · left; simp; omega
    have HCs := Lib.hid hcase
    clear he he' hcase
    have e1 : (skipS s c).1 = { s with ahead := c } := by unfold skipS; rw [if_neg (by rw [HE.out]; decide)]
    have E1 := Lib.hid e1
    clear e1
    rcases HCs.out with h1 | ⟨h1, h2⟩
    all_goals
      clear HCs
      go_enter Try.func27, Try.ntmps27
      go_wp2_with fail
      go_ret
      refine ⟨h, rfl, ⟨?_, ?_⟩, (Foot.refl p h w).set, Moved.refl _ _⟩
      · rw [E1.out]; exact HK.out.b.set7 c
      · rw [E1.out]; exact HK.out.o.off (feed_row_ne HK.out.b HK.out.o)
end Go.Proofs.Ytgafalobbhoaoaa
