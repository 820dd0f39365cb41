/-
  Several texts of one proof, each in a section of its own: Idx, Range.
-/
import Derived.Test.YtnncldnpkfjhbaaGreatDoorMemMg
import Derived.Test.YtnncldnpkfjhbaaGreatDoorShelfMg
import Derived.RangeFuncNested
import Derived.RangeFuncBound
import Derived.RangeFuncCalls
import Derived.RangeFuncLeaves
import Derived.Shelf.Abstract
import Derived.Shelf.RegionOpen
import Derived.WalkKit
import Derived.OwnWalkIn
import Derived.TacticsInMore
import Derived.LoopNIn
import Derived.LoopIn
namespace Go.Proofs.YtnncldnpkfjhbaaGreatDoor
section
set_option linter.unusedVariables false
open Go.RowKit

/-- how many bytes stand ahead of the first c -/
def aheadN (c : Nat) (l : List Nat) : Nat := (l.takeWhile (fun x => x != c)).length
theorem aheadN_le (c : Nat) (l : List Nat) : aheadN c l ≤ l.length := by
  unfold aheadN
  have := congrArg List.length (List.takeWhile_append_dropWhile (p := fun x => x != c) (l := l))
  rw [List.length_append] at this
  omega
def idxI (c : Nat) (l : List Nat) : Int := if aheadN c l < l.length then (aheadN c l : Int) else -1

theorem index_law (c : Nat) (hc : c < 256) (l : List Nat) (h : ∀ n ∈ l, n < 256) : Lib.indexByte (Lib.bytesOf (l.map (fun (n : Nat) => (n : Int)))) ((c : Int).toNat.toUInt8) = idxI c l := by
  induction l with
  | nil => rfl
  | cons x l ih =>
    have ih' := ih fun n hn => h n (List.mem_cons_of_mem _ hn)
    have hx : x < 256 := h x (List.mem_cons_self ..)
    have e : Lib.bytesOf ((x :: l).map (fun (n : Nat) => (n : Int))) = UInt8.ofNat x :: Lib.bytesOf (l.map (fun (n : Nat) => (n : Int))) := by simp [Lib.bytesOf]
    rw [e]
    unfold Lib.indexByte
    have hb : (UInt8.ofNat x == ((c : Int).toNat.toUInt8)) = decide (x = c) := by
      by_cases hxc : x = c
      · subst hxc; simp
      · have : ¬ UInt8.ofNat x = UInt8.ofNat c := by
          intro h1
          have h2 := congrArg UInt8.toNat h1
          simp at h2
          omega
        simp [hxc]
        exact this
    rw [hb]
    by_cases hxc : x = c
    · subst hxc
      simp [idxI, aheadN]
    · rw [if_neg (by simpa using hxc), ih']
      have ha : aheadN c (x :: l) = aheadN c l + 1 := by simp [aheadN, hxc]
      unfold idxI
      rw [ha]
      by_cases hl : aheadN c l < l.length
      · rw [if_pos hl, if_neg (by first | (simp; done) | (simp; omega)), if_pos (by first | (simp; done) | (simp; omega))]
        simp
      · rw [if_neg hl, if_pos (by decide), if_neg (by first | (simp; done) | (simp; omega))]

theorem index_any (lb lo cap c : Nat) (l : List Nat) (w : World) (hc : c < 256) (hr : RowB w (.slice (some ⟨lb, lo, none⟩) l.length cap) l) :
    Calls Tryz.prog 65 #[.slice (some ⟨lb, lo, none⟩) l.length cap, .int .u8 c] w fun e w' => e = .returned (.int .i64 (idxI c l)) ∧ w' = w := by
  have h := Tryz.bytes_IndexByte lb lo l.length cap (l.map (fun (n : Nat) => (n : Int))) (c : Int) w (by simp) (by
    intro i hi
    obtain ⟨a, len, cp, e, hl, _, _, _, _, hcell⟩ := hr
    simp only [Value.slice.injEq] at e
    obtain ⟨rfl, rfl, rfl⟩ := e
    have := hcell _ rfl i hi
    rw [Addr.add_lit] at this
    rw [this]
    simp [hi])
  rw [index_law c hc l hr.lt] at h
  exact h

theorem equal_any {va vb : Value} {la lb : List Nat} {w : World} (ha : RowB w va la) (hb : RowB w vb lb) :
    Calls Tryz.prog 80 #[va, vb] w fun e w' => e = .returned (.bool (decide (la = lb))) ∧ w' = w := by
  have h1 := run_str ha
  have h2 := run_str hb
  have h3 : ((strN la).toList == (strN lb).toList) = decide (la = lb) := by
    rw [strN_toList, strN_toList]
    by_cases h : la = lb
    · subst h; simp
    · have : ¬ la.map UInt8.ofNat = lb.map UInt8.ofNat := fun e => h (strN_inj ha.lt hb.lt e)
      rw [decide_eq_false h]
      exact beq_false_of_ne this
  have H3 := Lib.hid h3
  clear ha hb h3
  generalize strN la = x at *
  generalize strN lb = y at *
  go_enter Tryz.func80, Tryz.ntmps80
  go_wp2_with fail
  go_ret
  refine ⟨ret_eq ?_, rfl⟩
  rw [← H3.out]
  rfl

/-- how long the text of a line is: without the CR at its end -/
def trimN (t : List Nat) : Nat := if t.getLast? = some 13 then t.length - 1 else t.length

theorem RowB.part {w : World} {lb lo cap : Nat} {l : List Nat} (h : RowB w (.slice (some ⟨lb, lo, none⟩) l.length cap) l) (i j c : Nat) (hij : i ≤ j) (hj : j ≤ l.length) (hc : j - i ≤ c) (hm : c ≤ cap) :
    RowB w (.slice (some ⟨lb, lo + i, none⟩) (j - i) c) ((l.drop i).take (j - i)) := by
  obtain ⟨ad, len, cp, e, hl, hcc, hmm, hw, hne, hcell⟩ := h
  simp only [Value.slice.injEq] at e
  obtain ⟨rfl, rfl, rfl⟩ := e
  refine ⟨_, _, _, rfl, by simp; omega, hc, by omega, fun x hx => hw x (List.mem_of_mem_drop (List.mem_of_mem_take hx)), by simp, fun x hx k hk => ?_⟩
  obtain rfl := Option.some.inj hx
  have hk' : k < j - i := by simp at hk; omega
  have := hcell _ rfl (i + k) (by omega)
  rw [Addr.add_lit] at this ⊢
  rw [Nat.add_assoc, this]
  simp

theorem suffix_any {lb lo cap : Nat} {t : List Nat} {vb : Value} {w : World} (hr : RowB w (.slice (some ⟨lb, lo, none⟩) t.length cap) t) (hc : t.length < cap) (hm : cap ≤ maxLen) (hcr : RowB w vb [13]) (hv : ∃ a c, vb = .slice a 1 c) :
    Calls Tryz.prog 94 #[.slice (some ⟨lb, lo, none⟩) t.length cap, vb] w fun e w' => e = .returned (.bool (decide (t.getLast? = some 13))) ∧ w' = w := by
  obtain ⟨a, c, rfl⟩ := hv
  unfold maxLen at hm
  have HR := Lib.hid hr
  have HC := Lib.hid hcr
  clear hr hcr
  by_cases h0 : t.length = 0
  · have : t = [] := List.eq_nil_of_length_eq_zero h0
    subst this
    go_enter Tryz.func94, Tryz.ntmps94
    go_wp2_with fail
    go_ret
    exact ⟨rfl, rfl⟩
  · have hp : 1 ≤ t.length := by omega
    have gp : (1 : Int) ≤ (t.length : Int) := by omega
    have gs : (t.length : Int) - 1 ≤ (cap : Int) := by omega
    obtain ⟨d, hd1, hd2⟩ : ∃ d, t.getLast? = some d ∧ t.drop (t.length - 1) = [d] := by
      rcases List.eq_nil_or_concat t with h | ⟨s, d, h⟩
      · subst h; simp at h0
      · subst h
        exact ⟨d, by simp, by simp⟩
    have hpart := HR.out.part (t.length - 1) t.length (cap - (t.length - 1)) (by omega) (Nat.le_refl _) (by omega) (by omega)
    rw [show (t.drop (t.length - 1)).take (t.length - (t.length - 1)) = [d] by rw [hd2, show t.length - (t.length - 1) = 1 by omega]; rfl] at hpart
    have HP : Hid (RowB w (.slice (some ⟨lb, lo + (t.length - 1), none⟩) (t.length - (t.length - 1)) (cap - (t.length - 1))) [d]) := Lib.hid hpart
    have HL := Lib.hid hd1
    clear hpart hd1 hd2
    have htn : ((t.length : Int) - 1).toNat = t.length - 1 := by omega
    have hw1 : IntKind.i64.wrap ((t.length : Int) - 1) = (t.length : Int) - 1 := IntWalk.i64_in _ (by omega)
    have gc0 : (t.length : Int) - (↑(t.length - 1)) = 1 := by omega
    go_enter Tryz.func94, Tryz.ntmps94
    go_wp2_with fail
    refine (equal_any HP.out HC.out).mono ?_
    rintro e w2 ⟨rfl, rfl⟩
    go_wp2_with fail
    go_ret
    refine ⟨ret_eq ?_, rfl⟩
    rw [HL.out]
    simp

theorem trim_any {lb lo cap : Nat} {t : List Nat} {vb : Value} {w : World} (hr : RowB w (.slice (some ⟨lb, lo, none⟩) t.length cap) t) (hc : t.length < cap) (hm : cap ≤ maxLen) (hcr : RowB w vb [13]) (hv : ∃ a c, vb = .slice a 1 c) :
    Calls Tryz.prog 66 #[.slice (some ⟨lb, lo, none⟩) t.length cap, vb] w fun e w' => e = .returned (.slice (some ⟨lb, lo, none⟩) (trimN t) cap) ∧ w' = w := by
  have HS := Lib.hid (suffix_any hr hc hm hcr hv)
  obtain ⟨a, c, rfl⟩ := hv
  unfold maxLen at hm
  have hw1 : IntKind.i64.wrap ((t.length : Int) - 1) = (t.length : Int) - 1 := IntWalk.i64_in _ (by omega)
  clear hr hcr
  by_cases h : t.getLast? = some 13
  · have hp : 1 ≤ t.length := by
      rcases t with _ | ⟨x, t⟩
      · simp at h
      · simp
    have gp : (1 : Int) ≤ (t.length : Int) := by omega
    have gs : (t.length : Int) - 1 ≤ (cap : Int) := by omega
    have htn : ((t.length : Int) - 1).toNat = t.length - 1 := by omega
    have HT : Hid (trimN t = t.length - 1) := Lib.hid (by unfold trimN; rw [if_pos h])
    rw [decide_eq_true h] at HS
    clear h
    go_enter Tryz.func66, Tryz.ntmps66
    go_wp2_with fail
    refine HS.out.mono ?_
    rintro e w2 ⟨rfl, rfl⟩
    go_wp2_with fail
    go_ret
    refine ⟨ret_eq ?_, rfl⟩
    rw [HT.out]
    rfl
  · have HT : Hid (trimN t = t.length) := Lib.hid (by unfold trimN; rw [if_neg h])
    rw [decide_eq_false h] at HS
    clear h
    go_enter Tryz.func66, Tryz.ntmps66
    go_wp2_with fail
    refine HS.out.mono ?_
    rintro e w2 ⟨rfl, rfl⟩
    go_wp2_with fail
    go_ret
    refine ⟨ret_eq ?_, rfl⟩
    rw [HT.out]
    rfl
end
section
open Go Go.RowKit

/-- what turns of block B do not hurt -/
def Turns {β : Type} (B : Nat) (J : β → World → Prop) : Prop := ∀ s W W', J s W → W.grownBy W' (some B) → J s W'

/-- the iterator's contract: the elements are xs; Kp is what a round that goes on must keep; St is what the iterator wants of the world in which it is called -/
def SeqOn {α : Type} (F : Fence) (n : Nat) (P : Program) (g : Nat) (lb : Array Value) (encs : α → Array Value) (B : Nat) (Kp : World → World → Prop) (xs : List α) (St : World → Prop) : Prop :=
  ∀ (l : Nat) (J Jx : List α → World → Prop) (W : World), St W → Turns B J → Turns B Jx →
    (∀ pre x rest W1, xs = pre ++ x :: rest → J pre W1 → YieldAt F (n - 1) P l (encs x) W1 fun e W' =>
      (e = .returned (.bool true) ∧ J (pre ++ [x]) W' ∧ Kp W1 W') ∨ (e = .returned (.bool false) ∧ Jx (pre ++ [x]) W')) →
    J [] W →
    CallsIn F n P g (#[.func (.yield l) #[] #[]] ++ lb) W fun e W' => (∃ v, e = .returned v) ∧ (J xs W' ∨ ∃ pre, pre <+: xs ∧ Jx pre W')

/-- the loop's record and the block for deferred calls, where the loop has laid them -/
def Book (W : World) (D : Nat) (r : Loop) : Prop := W.heap[D + 1]? = some (.loop r) ∧ W.heap[D]? = some (.deferred (some []))

theorem Book.turn {W W' : World} {D B : Nat} {r : Loop} (h : Book W D r) (hB : B < D) (hg : W.grownBy W' (some B)) : Book W' D r :=
  ⟨(hg.block _ (Array.getElem?_eq_some_iff.1 h.1).1 (by simp; omega)).trans h.1, (hg.block _ (Array.getElem?_eq_some_iff.1 h.2).1 (by simp; omega)).trans h.2⟩
theorem Book.kept {W W' : World} {D : Nat} {r : Loop} (h : Book W D r) (hk : KeepsFrom D W W') : Book W' D r :=
  ⟨hk.same _ _ (by omega) h.1 rfl, hk.same _ _ (Nat.le_refl _) h.2 rfl⟩
theorem Book.put {W : World} {D : Nat} {r : Loop} (h : Book W D r) (r' : Loop) : Book (W.putObj (D + 1) (.loop r')) D r' :=
  ⟨World.putObj_heap_same (Array.getElem?_eq_some_iff.1 h.1).1, (World.putObj_heap_other (by omega)).trans h.2⟩

variable {F : Fence} {n : Nat} {P : Program}

/-- one round of the loop, out of its body's walk -/
theorem round_on {α : Type} {fn : FuncId} {tmps : Array Value} {ps : Array Tmp} {assign body : Code} {D : Nat} {encs : α → Array Value} {Kp : World → World → Prop}
    {I : List α → World → Prop} {Ix : Code → List α → World → Prop} {a₁ : α → Act} {pre : List α} {x : α} {W : World} (rec : LoopState → Option Code → Loop)
    (hrec : rec = fun st pe => { state := st, pending := pe, fn, tmps, params := ps, assign, body, defers := D }) (hfn : F.fn fn) (hps : (encs x).size = ps.size)
    (hKt : ∀ {A B C : World}, Kp A B → Kp B C → Kp A C) (hKb : ∀ (W : World) (r r' : Loop), Book W D r → Kp W (W.putObj (D + 1) (.loop r')))
    (hI : ∀ s (W : World) (r r' : Loop), Book W D r → I s W → I s (W.putObj (D + 1) (.loop r'))) (hIx : ∀ c s (W : World) (r r' : Loop), Book W D r → Ix c s W → Ix c s (W.putObj (D + 1) (.loop r')))
    (hassign : ∀ (W : World) (K : Act → World → Prop), K (a₁ x) W → assign.wpIn (F.inRound (D + 1)) n P (Exit.then K (fun _ _ _ => False)) { tmps := (ps.zip (encs x)).foldl (fun t (p, v) => t.setIfInBounds p v) tmps, defers := [] } W)
    (hbody : ∀ (W : World), I pre W → body.wpIn (F.inRound (D + 1)) n P (ownPostG D Kp I Ix (pre ++ [x]) W) (a₁ x) W)
    (hi : I pre W) (hb : Book W D (rec .ready none)) :
    YieldAt F n P (D + 1) (encs x) W fun e W' =>
      (e = .returned (.bool true) ∧ (I (pre ++ [x]) W' ∧ Book W' D (rec .ready none)) ∧ Kp W W') ∨ (e = .returned (.bool false) ∧ ∃ c, Ix c (pre ++ [x]) W' ∧ Book W' D (rec .done (some c))) := by
  have hy := run_yield (P := P) (args := encs x) hb.1 (by rw [hrec]; exact hps)
  have hbusy := hb.put (rec .busy none)
  have key : ∀ (jump : Option Code) (W3 : World), KeepsFrom D (W.putObj (D + 1) (.loop (rec .busy none))) W3 →
      (Instr.endRound (D + 1) jump).run P W3 = .ok (.bool jump.isNone) (W3.putObj (D + 1) (.loop (rec (if jump.isNone then .ready else .done) jump))) ∧ Book W3 D (rec .busy none) ∧ Book (W3.putObj (D + 1) (.loop (rec (if jump.isNone then .ready else .done) jump))) D (rec (if jump.isNone then .ready else .done) jump) := by
    intro jump W3 hk
    have h3 := hbusy.kept hk
    refine ⟨?_, h3, h3.put _⟩
    have h4 := run_endRound (P := P) jump h3.1
    rw [hrec] at h4 ⊢
    exact h4
  have hbr : (Instr.beginRound (D + 1)).run P W = .ok () (W.putObj (D + 1) (.loop (rec .busy none))) := by
    have h4 := run_beginRound (P := P) hb.1 (by rw [hrec])
    rw [hrec] at h4 ⊢
    exact h4
  have hw := wpIn_mono (Q' := roundPost P (D + 1) fun e W' =>
      (e = .returned (.bool true) ∧ (I (pre ++ [x]) W' ∧ Book W' D (rec .ready none)) ∧ Kp W W') ∨ (e = .returned (.bool false) ∧ ∃ c, Ix c (pre ++ [x]) W' ∧ Book W' D (rec .done (some c)))) (hbody _ (hI _ _ _ (rec .busy none) hb hi)) (by
    intro e a3 W3 hp
    have leave : ∀ c, KeepsFrom D (W.putObj (D + 1) (.loop (rec .busy none))) W3 → Ix c (pre ++ [x]) W3 → ∃ v w', (Instr.endRound (D + 1) (some c)).run P W3 = .ok v w' ∧ ((Ending.returned v = .returned (.bool true) ∧ (I (pre ++ [x]) w' ∧ Book w' D (rec .ready none)) ∧ Kp W w') ∨ (Ending.returned v = .returned (.bool false) ∧ ∃ c, Ix c (pre ++ [x]) w' ∧ Book w' D (rec .done (some c)))) := by
      intro c hk hx
      obtain ⟨h1, h2, h3⟩ := key (some c) W3 hk
      exact ⟨_, _, h1, .inr ⟨rfl, c, hIx _ _ _ _ _ h2 hx, h3⟩⟩
    cases e with
    | normal =>
      obtain ⟨hk, hkp, hi3⟩ := hp
      obtain ⟨h1, h2, h3⟩ := key none W3 hk
      exact ⟨_, _, h1, .inl ⟨rfl, ⟨hI _ _ _ _ h2 hi3, h3⟩, hKt (hKt (hKb _ _ _ hb) hkp) (hKb _ _ _ h2)⟩⟩
    | ret => exact leave _ hp.1 hp.2
    | exit id => exact leave _ hp.1 hp.2
    | goto t => exact leave _ hp.1 hp.2
    | panic ch => exact hp.elim
    | outgrown => exact hp.elim)
  rw [hrec] at hy
  exact ⟨fn, _, assign, body, hy, roundIn_of_wpIn hfn (hassign W _ ⟨_, hbr, hw⟩)⟩

/-- the loop 'for .. := range g': the caller's law -/
theorem range_on {α : Type} {g : Operand} {ps : Array Tmp} {assign body : Code} {Q : Exit → Act → World → Prop} {a : Act} {w : World}
    (hro : F.round = none) (h1 : 1 ≤ n) {gf : Nat} {lb : Array Value} (hg : a.eval g = .func (.func gf) #[] lb) (hFg : F.fn gf) (eg : ∀ args w, (callFunc gf args).run P w = .ok (.enter gf args) w)
    {encs : α → Array Value} {B : Nat} {Kp : World → World → Prop} {xs : List α} {St : World → Prop} (hseq : SeqOn F (n - 1) P gf lb encs B Kp xs St)
    (hB : B < w.heap.size) (hSt : ∀ r, St ((w.alloc (.deferred (some []))).alloc (.loop r)))
    (hKt : ∀ {A B C : World}, Kp A B → Kp B C → Kp A C) (hKb : ∀ (W : World) (r r' : Loop), Book W w.heap.size r → Kp W (W.putObj (w.heap.size + 1) (.loop r'))) (hps : ∀ x, (encs x).size = ps.size)
    (I : List α → World → Prop) (Ix : Code → List α → World → Prop) (hI : OwnFrom w.heap.size I) (hIx : ∀ c, OwnFrom w.heap.size (Ix c)) (hIB : Turns B I) (hIxB : ∀ c, Turns B (Ix c)) (h0 : I [] w) (a₁ : α → Act)
    (hassign : ∀ (x : α) (W : World) (K : Act → World → Prop), K (a₁ x) W →
      assign.wpIn (F.inRound (w.heap.size + 1)) (n - 1 - 1) P (Exit.then K (fun _ _ _ => False)) { tmps := (ps.zip (encs x)).foldl (fun t (p, v) => t.setIfInBounds p v) a.tmps, defers := [] } W)
    (hbody : ∀ (pre : List α) (x : α) (rest : List α) (W : World), xs = pre ++ x :: rest → I pre W → body.wpIn (F.inRound (w.heap.size + 1)) (n - 1 - 1) P (ownPostG w.heap.size Kp I Ix (pre ++ [x]) W) (a₁ x) W)
    (hdone : ∀ (W : World), I xs W → W.heap[w.heap.size]? = some (.deferred (some [])) → Q .normal { a with defers := { target := .collected w.heap.size, args := #[] } :: a.defers } W)
    (hstop : ∀ (c : Code) (pre : List α) (W : World), pre <+: xs → Ix c pre W → W.heap[w.heap.size]? = some (.deferred (some [])) → c.wpIn F n P Q { a with defers := { target := .collected w.heap.size, args := #[] } :: a.defers } W) :
    (Code.rangeFunc g ps assign body).wpIn F n P Q a w := by
  refine wpIn_rangeFunc fun fn hfn => ?_
  rw [hro]
  obtain ⟨rec, hrec⟩ : ∃ rec : LoopState → Option Code → Loop, rec = fun st pe => { state := st, pending := pe, fn, tmps := a.tmps, params := ps, assign, body, defers := w.heap.size } := ⟨_, rfl⟩
  have hbook : Book ((w.alloc (.deferred (some []))).alloc (.loop (rec .ready none))) w.heap.size (rec .ready none) := by
    constructor
    · have := World.alloc_heap_new (w.alloc (.deferred (some []))) (.loop (rec .ready none)); rwa [World.size_alloc] at this
    · exact (Below.heap_alloc _ _ _ (by simp)).trans (World.alloc_heap_new w _)
  have hput : ∀ {J : List α → World → Prop}, OwnFrom w.heap.size J → ∀ s (W : World) (r r' : Loop), Book W w.heap.size r → J s W → J s (W.putObj (w.heap.size + 1) (.loop r')) := fun hJ s W r r' hb hs => hJ.putObj _ hs (by omega) hb.1 rfl
  refine ⟨w.heap.size + 1, [{ target := .collected w.heap.size, args := #[] }], (w.alloc (.deferred (some []))).alloc (.loop (rec .ready none)), { target := .fn (.func gf) lb, args := #[.func (.yield (w.heap.size + 1)) #[] #[]] }, (w.alloc (.deferred (some []))).alloc (.loop (rec .ready none)), gf,
    #[.func (.yield (w.heap.size + 1)) #[] #[]] ++ lb, (w.alloc (.deferred (some []))).alloc (.loop (rec .ready none)), ?_, ?_, ?_, ?_, fun _ => h1, ?_⟩
  · rw [hrec]; exact run_enterLoop_outer _ _ _ _ _
  · simp only [resolve, hg]
    simp [go_sem]
  · intro f' hf'; simp [Target.leads] at hf'; subst hf'; exact hFg
  · simp [invoke, go_sem, eg]
  · refine (hseq (w.heap.size + 1) (fun pre W => I pre W ∧ Book W w.heap.size (rec .ready none)) (fun pre W => ∃ c, Ix c pre W ∧ Book W w.heap.size (rec .done (some c))) _ (hSt _)
      (fun s A C hs hgr => ⟨hIB s A C hs.1 hgr, hs.2.turn hB hgr⟩) (fun s A C hs hgr => by obtain ⟨c, hc, hk⟩ := hs; exact ⟨c, hIxB c s A C hc hgr, hk.turn hB hgr⟩)
      (fun pre x rest W1 hx hs => round_on rec hrec hfn (hps x) hKt hKb (hput hI) (fun c => hput (hIx c)) (hassign x) (fun W hi => hbody pre x rest W hx hi) hs.1 hs.2)
      ⟨hI.alloc _ (hI.alloc _ h0), hbook⟩).mono ?_
    rintro e W2 ⟨⟨v, rfl⟩, (⟨hi, hk⟩ | ⟨pre, hp, c, hi, hk⟩)⟩
    · exact ⟨none, _, by have := run_endLoop (P := P) hk.1 (by rw [hrec]; simp); rw [hrec] at this; exact this, hdone _ (hput hI _ _ _ _ hk hi) (hk.put _).2⟩
    · exact ⟨some c, _, by have := run_endLoop (P := P) hk.1 (by rw [hrec]; simp); rw [hrec] at this; exact this, hstop c pre _ hp (hput (hIx c) _ _ _ _ hk hi) (hk.put _).2⟩
end
end Go.Proofs.YtnncldnpkfjhbaaGreatDoor
