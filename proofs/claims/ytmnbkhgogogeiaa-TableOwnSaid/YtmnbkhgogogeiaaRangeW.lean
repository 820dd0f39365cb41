/-
  range_v, where the values' kinds are known when they are assigned.
-/
import Derived.Test.YtmnbkhgogogeiaaRangeV
namespace Go.Proofs.Ytmnbkhgogogeiaa
open Go Go.RowKit

variable {F : Fence} {n : Nat} {P : Program}

/-- the loop 'for .. := range g': the caller's law -/
theorem range_w {α : Type} {g : Operand} {ps : Array Tmp} {assign body : Code} {Q : Exit → Act → World → Prop} {a : Act} {w : World}
    (hro : F.round = none) (h1 : 1 ≤ n) {gf : Nat} {lb : Array Value} (hg : a.eval g = .func (.func gf) #[] lb) (hFg : F.fn gf) (eg : ∀ args w, (callFunc gf args).run P w = .ok (.enter gf args) w)
    {E : α → World → Value → Value → Prop} {Kp : World → World → Prop} {xs : List α} {St : World → Prop} (hseq : SeqV F (n - 1) P gf lb E Kp xs St)
    (hSt : ∀ r, St ((w.alloc (.deferred (some []))).alloc (.loop r)))
    (hKt : ∀ {A B C : World}, Kp A B → Kp B C → Kp A C) (hKb : ∀ (W : World) (r r' : Loop), Book W w.heap.size r → Kp W (W.putObj (w.heap.size + 1) (.loop r'))) (hps : 2 = ps.size)
    (hE : ∀ x u v (W : World) (r r' : Loop), Book W w.heap.size r → E x W u v → E x (W.putObj (w.heap.size + 1) (.loop r')) u v)
    (I : List α → World → Prop) (Ix : Code → List α → World → Prop) (hI : OwnFrom w.heap.size I) (hIx : ∀ c, OwnFrom w.heap.size (Ix c)) (hIB : Calm I) (hIxB : ∀ c, Calm (Ix c)) (h0 : I [] w) (f : Act → Value → Value → Act)
    (hassign : ∀ (x : α) (u v : Value) (W1 : World), E x W1 u v → ∀ (W : World) (K : Act → World → Prop), K (f a u v) W →
      assign.wpIn (F.inRound (w.heap.size + 1)) (n - 1 - 1) P (Exit.then K (fun _ _ _ => False)) { tmps := (ps.zip #[u, v]).foldl (fun t (p, v) => t.setIfInBounds p v) a.tmps, defers := [] } W)
    (hbody : ∀ (pre : List α) (x : α) (rest : List α) (u v : Value) (W : World), xs = pre ++ x :: rest → E x W u v → I pre W → body.wpIn (F.inRound (w.heap.size + 1)) (n - 1 - 1) P (ownPostG w.heap.size Kp I Ix (pre ++ [x]) W) (f a u v) W)
    (hdone : ∀ (W : World), I xs W → W.heap[w.heap.size]? = some (.deferred (some [])) → Q .normal { a with defers := { target := .collected w.heap.size, args := #[] } :: a.defers } W)
    (hstop : ∀ (c : Code) (pre : List α) (W : World), pre <+: xs → Ix c pre W → W.heap[w.heap.size]? = some (.deferred (some [])) → c.wpIn F n P Q { a with defers := { target := .collected w.heap.size, args := #[] } :: a.defers } W) :
    (Code.rangeFunc g ps assign body).wpIn F n P Q a w := by
  refine wpIn_rangeFunc fun fn hfn => ?_
  rw [hro]
  obtain ⟨rec, hrec⟩ : ∃ rec : LoopState → Option Code → Loop, rec = fun st pe => { state := st, pending := pe, fn, tmps := a.tmps, params := ps, assign, body, defers := w.heap.size } := ⟨_, rfl⟩
  have hbook : Book ((w.alloc (.deferred (some []))).alloc (.loop (rec .ready none))) w.heap.size (rec .ready none) := by
    constructor
    · have := World.alloc_heap_new (w.alloc (.deferred (some []))) (.loop (rec .ready none)); rwa [World.size_alloc] at this
    · exact (Below.heap_alloc _ _ _ (by simp)).trans (World.alloc_heap_new w _)
  have hput : ∀ {J : List α → World → Prop}, OwnFrom w.heap.size J → ∀ s (W : World) (r r' : Loop), Book W w.heap.size r → J s W → J s (W.putObj (w.heap.size + 1) (.loop r')) := fun hJ s W r r' hb hs => hJ.putObj _ hs (by omega) hb.1 rfl
  refine ⟨w.heap.size + 1, [{ target := .collected w.heap.size, args := #[] }], (w.alloc (.deferred (some []))).alloc (.loop (rec .ready none)), { target := .fn (.func gf) lb, args := #[.func (.yield (w.heap.size + 1)) #[] #[]] }, (w.alloc (.deferred (some []))).alloc (.loop (rec .ready none)), gf,
    #[.func (.yield (w.heap.size + 1)) #[] #[]] ++ lb, (w.alloc (.deferred (some []))).alloc (.loop (rec .ready none)), ?_, ?_, ?_, ?_, fun _ => h1, ?_⟩
  · rw [hrec]; exact run_enterLoop_outer _ _ _ _ _
  · simp only [resolve, hg]
    simp [go_sem]
  · intro f' hf'; simp [Target.leads] at hf'; subst hf'; exact hFg
  · simp [invoke, go_sem, eg]
  · refine (hseq (w.heap.size + 1) (fun pre W => I pre W ∧ Book W w.heap.size (rec .ready none)) (fun pre W => ∃ c, Ix c pre W ∧ Book W w.heap.size (rec .done (some c))) _ (hSt _)
      (fun s A C hs hgr => ⟨hIB s A C hs.1 hgr, hs.2.calm hgr⟩) (fun s A C hs hgr => by obtain ⟨c, hc, hk⟩ := hs; exact ⟨c, hIxB c s A C hc hgr, hk.calm hgr⟩)
      (fun pre x rest u v W1 hx he hs => round_v (en := #[u, v]) (a₁ := f a u v) (E := fun W => E x W u v) rec hrec hfn hps hKt hKb (hput hI) (fun c => hput (hIx c)) (hassign x u v W1 he) (fun W r r' hb h => hE x u v W r r' hb h) (fun W hi h => hbody pre x rest u v W hx h hi) hs.1 he hs.2)
      ⟨hI.alloc _ (hI.alloc _ h0), hbook⟩).mono ?_
    rintro e W2 ⟨⟨v, rfl⟩, (⟨hi, hk⟩ | ⟨pre, hp, c, hi, hk⟩)⟩
    · exact ⟨none, _, by have := run_endLoop (P := P) hk.1 (by rw [hrec]; simp); rw [hrec] at this; exact this, hdone _ (hput hI _ _ _ _ hk hi) (hk.put _).2⟩
    · exact ⟨some c, _, by have := run_endLoop (P := P) hk.1 (by rw [hrec]; simp); rw [hrec] at this; exact this, hstop c pre _ hp (hput (hIx c) _ _ _ _ hk hi) (hk.put _).2⟩
end Go.Proofs.Ytmnbkhgogogeiaa
