/-
  A range over a function that hands out values made anew in each round: the iterator's contract SeqV, and the caller's law range_v. Nothing here speaks of a program.
-/
import Derived.Test.YtmnbkhgogogeiaaRg25
namespace Go.Proofs.Ytmnbkhgogogeiaa
open Go Go.RowKit

/-- what new blocks do not hurt -/
def Calm {β : Type} (J : β → World → Prop) : Prop := ∀ s W W', J s W → Below W.heap.size W W' → J s W'
/-- the contract of an iterator that hands out two values made anew: E says what they are -/
def SeqV {α : Type} (F : Fence) (n : Nat) (P : Program) (g : Nat) (lb : Array Value) (E : α → World → Value → Value → Prop) (Kp : World → World → Prop) (xs : List α) (St : World → Prop) : Prop :=
  ∀ (l : Nat) (J Jx : List α → World → Prop) (W : World), St W → Calm J → Calm Jx →
    (∀ pre x rest u v W1, xs = pre ++ x :: rest → E x W1 u v → J pre W1 → YieldAt F (n - 1) P l #[u, v] W1 fun e W' =>
      (e = .returned (.bool true) ∧ J (pre ++ [x]) W' ∧ Kp W1 W') ∨ (e = .returned (.bool false) ∧ Jx (pre ++ [x]) W')) →
    J [] W →
    CallsIn F n P g (#[.func (.yield l) #[] #[]] ++ lb) W fun e W' => (∃ v, e = .returned v) ∧ (J xs W' ∨ ∃ pre, pre <+: xs ∧ Jx pre W')
theorem Book.calm {W W' : World} {D : Nat} {r : Loop} (h : Book W D r) (hb : Below W.heap.size W W') : Book W' D r :=
  ⟨(hb.block _ (Array.getElem?_eq_some_iff.1 h.1).1).trans h.1, (hb.block _ (Array.getElem?_eq_some_iff.1 h.2).1).trans h.2⟩

variable {F : Fence} {n : Nat} {P : Program}

/-- one round of the loop, out of its body's walk -/
theorem round_v {α : Type} {fn : FuncId} {tmps : Array Value} {ps : Array Tmp} {assign body : Code} {D : Nat} {en : Array Value} {Kp : World → World → Prop}
    {I : List α → World → Prop} {Ix : Code → List α → World → Prop} {a₁ : Act} {pre : List α} {x : α} {W : World} {E : World → Prop} (rec : LoopState → Option Code → Loop)
    (hrec : rec = fun st pe => { state := st, pending := pe, fn, tmps, params := ps, assign, body, defers := D }) (hfn : F.fn fn) (hps : en.size = ps.size)
    (hKt : ∀ {A B C : World}, Kp A B → Kp B C → Kp A C) (hKb : ∀ (W : World) (r r' : Loop), Book W D r → Kp W (W.putObj (D + 1) (.loop r')))
    (hI : ∀ s (W : World) (r r' : Loop), Book W D r → I s W → I s (W.putObj (D + 1) (.loop r'))) (hIx : ∀ c s (W : World) (r r' : Loop), Book W D r → Ix c s W → Ix c s (W.putObj (D + 1) (.loop r')))
    (hassign : ∀ (W : World) (K : Act → World → Prop), K a₁ W → assign.wpIn (F.inRound (D + 1)) n P (Exit.then K (fun _ _ _ => False)) { tmps := (ps.zip en).foldl (fun t (p, v) => t.setIfInBounds p v) tmps, defers := [] } W)
    (hE : ∀ (W : World) (r r' : Loop), Book W D r → E W → E (W.putObj (D + 1) (.loop r')))
    (hbody : ∀ (W : World), I pre W → E W → body.wpIn (F.inRound (D + 1)) n P (ownPostG D Kp I Ix (pre ++ [x]) W) a₁ W)
    (hi : I pre W) (he : E W) (hb : Book W D (rec .ready none)) :
    YieldAt F n P (D + 1) en W fun e W' =>
      (e = .returned (.bool true) ∧ (I (pre ++ [x]) W' ∧ Book W' D (rec .ready none)) ∧ Kp W W') ∨ (e = .returned (.bool false) ∧ ∃ c, Ix c (pre ++ [x]) W' ∧ Book W' D (rec .done (some c))) := by
  have hy := run_yield (P := P) (args := en) hb.1 (by rw [hrec]; exact hps)
  have hbusy := hb.put (rec .busy none)
  have key : ∀ (jump : Option Code) (W3 : World), KeepsFrom D (W.putObj (D + 1) (.loop (rec .busy none))) W3 →
      (Instr.endRound (D + 1) jump).run P W3 = .ok (.bool jump.isNone) (W3.putObj (D + 1) (.loop (rec (if jump.isNone then .ready else .done) jump))) ∧ Book W3 D (rec .busy none) ∧ Book (W3.putObj (D + 1) (.loop (rec (if jump.isNone then .ready else .done) jump))) D (rec (if jump.isNone then .ready else .done) jump) := by
    intro jump W3 hk
    have h3 := hbusy.kept hk
    refine ⟨?_, h3, h3.put _⟩
    have h4 := run_endRound (P := P) jump h3.1
    rw [hrec] at h4 ⊢
    exact h4
  have hbr : (Instr.beginRound (D + 1)).run P W = .ok () (W.putObj (D + 1) (.loop (rec .busy none))) := by
    have h4 := run_beginRound (P := P) hb.1 (by rw [hrec])
    rw [hrec] at h4 ⊢
    exact h4
  have hw := wpIn_mono (Q' := roundPost P (D + 1) fun e W' =>
      (e = .returned (.bool true) ∧ (I (pre ++ [x]) W' ∧ Book W' D (rec .ready none)) ∧ Kp W W') ∨ (e = .returned (.bool false) ∧ ∃ c, Ix c (pre ++ [x]) W' ∧ Book W' D (rec .done (some c)))) (hbody _ (hI _ _ _ (rec .busy none) hb hi) (hE _ _ (rec .busy none) hb he)) (by
    intro e a3 W3 hp
    have leave : ∀ c, KeepsFrom D (W.putObj (D + 1) (.loop (rec .busy none))) W3 → Ix c (pre ++ [x]) W3 → ∃ v w', (Instr.endRound (D + 1) (some c)).run P W3 = .ok v w' ∧ ((Ending.returned v = .returned (.bool true) ∧ (I (pre ++ [x]) w' ∧ Book w' D (rec .ready none)) ∧ Kp W w') ∨ (Ending.returned v = .returned (.bool false) ∧ ∃ c, Ix c (pre ++ [x]) w' ∧ Book w' D (rec .done (some c)))) := by
      intro c hk hx
      obtain ⟨h1, h2, h3⟩ := key (some c) W3 hk
      exact ⟨_, _, h1, .inr ⟨rfl, c, hIx _ _ _ _ _ h2 hx, h3⟩⟩
    cases e with
    | normal =>
      obtain ⟨hk, hkp, hi3⟩ := hp
      obtain ⟨h1, h2, h3⟩ := key none W3 hk
      exact ⟨_, _, h1, .inl ⟨rfl, ⟨hI _ _ _ _ h2 hi3, h3⟩, hKt (hKt (hKb _ _ _ hb) hkp) (hKb _ _ _ h2)⟩⟩
    | ret => exact leave _ hp.1 hp.2
    | exit id => exact leave _ hp.1 hp.2
    | goto t => exact leave _ hp.1 hp.2
    | panic ch => exact hp.elim
    | outgrown => exact hp.elim)
  rw [hrec] at hy
  exact ⟨fn, _, assign, body, hy, roundIn_of_wpIn hfn (hassign W _ ⟨_, hbr, hw⟩)⟩

/-- the loop 'for .. := range g': the caller's law -/
theorem range_v {α : Type} {g : Operand} {ps : Array Tmp} {assign body : Code} {Q : Exit → Act → World → Prop} {a : Act} {w : World}
    (hro : F.round = none) (h1 : 1 ≤ n) {gf : Nat} {lb : Array Value} (hg : a.eval g = .func (.func gf) #[] lb) (hFg : F.fn gf) (eg : ∀ args w, (callFunc gf args).run P w = .ok (.enter gf args) w)
    {E : α → World → Value → Value → Prop} {Kp : World → World → Prop} {xs : List α} {St : World → Prop} (hseq : SeqV F (n - 1) P gf lb E Kp xs St)
    (hSt : ∀ r, St ((w.alloc (.deferred (some []))).alloc (.loop r)))
    (hKt : ∀ {A B C : World}, Kp A B → Kp B C → Kp A C) (hKb : ∀ (W : World) (r r' : Loop), Book W w.heap.size r → Kp W (W.putObj (w.heap.size + 1) (.loop r'))) (hps : 2 = ps.size)
    (hE : ∀ x u v (W : World) (r r' : Loop), Book W w.heap.size r → E x W u v → E x (W.putObj (w.heap.size + 1) (.loop r')) u v)
    (I : List α → World → Prop) (Ix : Code → List α → World → Prop) (hI : OwnFrom w.heap.size I) (hIx : ∀ c, OwnFrom w.heap.size (Ix c)) (hIB : Calm I) (hIxB : ∀ c, Calm (Ix c)) (h0 : I [] w) (a₁ : Value → Value → Act)
    (hassign : ∀ (u v : Value) (W : World) (K : Act → World → Prop), K (a₁ u v) W →
      assign.wpIn (F.inRound (w.heap.size + 1)) (n - 1 - 1) P (Exit.then K (fun _ _ _ => False)) { tmps := (ps.zip #[u, v]).foldl (fun t (p, v) => t.setIfInBounds p v) a.tmps, defers := [] } W)
    (hbody : ∀ (pre : List α) (x : α) (rest : List α) (u v : Value) (W : World), xs = pre ++ x :: rest → E x W u v → I pre W → body.wpIn (F.inRound (w.heap.size + 1)) (n - 1 - 1) P (ownPostG w.heap.size Kp I Ix (pre ++ [x]) W) (a₁ u v) W)
    (hdone : ∀ (W : World), I xs W → W.heap[w.heap.size]? = some (.deferred (some [])) → Q .normal { a with defers := { target := .collected w.heap.size, args := #[] } :: a.defers } W)
    (hstop : ∀ (c : Code) (pre : List α) (W : World), pre <+: xs → Ix c pre W → W.heap[w.heap.size]? = some (.deferred (some [])) → c.wpIn F n P Q { a with defers := { target := .collected w.heap.size, args := #[] } :: a.defers } W) :
    (Code.rangeFunc g ps assign body).wpIn F n P Q a w := by
  refine wpIn_rangeFunc fun fn hfn => ?_
  rw [hro]
  obtain ⟨rec, hrec⟩ : ∃ rec : LoopState → Option Code → Loop, rec = fun st pe => { state := st, pending := pe, fn, tmps := a.tmps, params := ps, assign, body, defers := w.heap.size } := ⟨_, rfl⟩
  have hbook : Book ((w.alloc (.deferred (some []))).alloc (.loop (rec .ready none))) w.heap.size (rec .ready none) := by
    constructor
    · have := World.alloc_heap_new (w.alloc (.deferred (some []))) (.loop (rec .ready none)); rwa [World.size_alloc] at this
    · exact (Below.heap_alloc _ _ _ (by simp)).trans (World.alloc_heap_new w _)
  have hput : ∀ {J : List α → World → Prop}, OwnFrom w.heap.size J → ∀ s (W : World) (r r' : Loop), Book W w.heap.size r → J s W → J s (W.putObj (w.heap.size + 1) (.loop r')) := fun hJ s W r r' hb hs => hJ.putObj _ hs (by omega) hb.1 rfl
  refine ⟨w.heap.size + 1, [{ target := .collected w.heap.size, args := #[] }], (w.alloc (.deferred (some []))).alloc (.loop (rec .ready none)), { target := .fn (.func gf) lb, args := #[.func (.yield (w.heap.size + 1)) #[] #[]] }, (w.alloc (.deferred (some []))).alloc (.loop (rec .ready none)), gf,
    #[.func (.yield (w.heap.size + 1)) #[] #[]] ++ lb, (w.alloc (.deferred (some []))).alloc (.loop (rec .ready none)), ?_, ?_, ?_, ?_, fun _ => h1, ?_⟩
  · rw [hrec]; exact run_enterLoop_outer _ _ _ _ _
  · simp only [resolve, hg]
    simp [go_sem]
  · intro f' hf'; simp [Target.leads] at hf'; subst hf'; exact hFg
  · simp [invoke, go_sem, eg]
  · refine (hseq (w.heap.size + 1) (fun pre W => I pre W ∧ Book W w.heap.size (rec .ready none)) (fun pre W => ∃ c, Ix c pre W ∧ Book W w.heap.size (rec .done (some c))) _ (hSt _)
      (fun s A C hs hgr => ⟨hIB s A C hs.1 hgr, hs.2.calm hgr⟩) (fun s A C hs hgr => by obtain ⟨c, hc, hk⟩ := hs; exact ⟨c, hIxB c s A C hc hgr, hk.calm hgr⟩)
      (fun pre x rest u v W1 hx he hs => round_v (en := #[u, v]) (a₁ := a₁ u v) (E := fun W => E x W u v) rec hrec hfn hps hKt hKb (hput hI) (fun c => hput (hIx c)) (hassign u v) (fun W r r' hb h => hE x u v W r r' hb h) (fun W hi h => hbody pre x rest u v W hx h hi) hs.1 he hs.2)
      ⟨hI.alloc _ (hI.alloc _ h0), hbook⟩).mono ?_
    rintro e W2 ⟨⟨v, rfl⟩, (⟨hi, hk⟩ | ⟨pre, hp, c, hi, hk⟩)⟩
    · exact ⟨none, _, by have := run_endLoop (P := P) hk.1 (by rw [hrec]; simp); rw [hrec] at this; exact this, hdone _ (hput hI _ _ _ _ hk hi) (hk.put _).2⟩
    · exact ⟨some c, _, by have := run_endLoop (P := P) hk.1 (by rw [hrec]; simp); rw [hrec] at this; exact this, hstop c pre _ hp (hput (hIx c) _ _ _ _ hk hi) (hk.put _).2⟩
end Go.Proofs.Ytmnbkhgogogeiaa
