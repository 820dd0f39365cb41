/-
  Only, purely.
-/
import Derived.Test.YtlfdcocaedeneaaDoorMadeP
namespace Go.Proofs.YtlfdcocaedeneaaDoor
set_option linter.unusedVariables false
open Go.RowKit Go.Lib

/-- is a name among others? -/
def amongB (S : List ByteArray) (nm : ByteArray) : Bool := S.any fun s => (strL (foldL s.data.toList)).toList == nm.toList
theorem amongB_snoc (S : List ByteArray) (k : Nat) (h : k < S.length) (nm : ByteArray) : amongB (S.take (k + 1)) nm = (amongB (S.take k) nm || ((strL (foldL S[k].data.toList)).toList == nm.toList)) := by
  unfold amongB
  rw [List.take_succ_eq_append_getElem h, List.any_append]
  simp
/-- which fields are told -/
def keepB (S : List ByteArray) (nt : Bool) (f : Fd) : Bool := amongB S f.nm != nt
def pickF (S : List ByteArray) (nt : Bool) (fs : List Fd) : List Fd := fs.filter (keepB S nt)
def rawF (fs : List Fd) : List Nat := fs.flatMap (·.R)
def onlyS (l : List Nat) (S : List ByteArray) (nt : Bool) : List Nat := rawF (pickF S nt (fieldsS l)) ++ [13, 10]
theorem pickF_snoc (S : List ByteArray) (nt : Bool) (fs : List Fd) (k : Nat) (h : k < fs.length) : rawF (pickF S nt (fs.take (k + 1))) = rawF (pickF S nt (fs.take k)) ++ (if keepB S nt fs[k] = true then fs[k].R else []) := by
  unfold pickF rawF
  rw [List.take_succ_eq_append_getElem h, List.filter_append, List.flatMap_append]
  congr 1
  by_cases e : keepB S nt fs[k] = true
  · rw [List.filter_cons_of_pos e, if_pos e]; simp
  · rw [List.filter_cons_of_neg e, if_neg e]; simp

/-! all fields' lines together are no longer than the text -/
def totR (s : List Fd × Option Fd) : Nat := (rawF (s.1 ++ s.2.toList)).length
theorem stepF_tot (s : List Fd × Option Fd) (wh tx : List Nat) : totR (stepF s wh tx) ≤ totR s + wh.length := by
  unfold stepF
  split
  · cases h : s.2 with
    | none => simp [totR, rawF, h]
    | some f => simp [totR, rawF, h]; omega
  · cases h : nameN tx with
    | none => simp [totR, rawF]
    | some q => simp [totR, rawF]; omega
theorem runF_tot (l : List Nat) (xs : List (Nat × Nat × Nat)) : ∀ s, totR (runF l s xs) ≤ totR s + sumW xs := by
  induction xs with
  | nil => intro s; simp [runF, sumW]
  | cons x xs ih =>
    intro s
    have h1 := ih (stepF s (lineW l x) (lineT l x))
    have h2 := stepF_tot s (lineW l x) (lineT l x)
    have h3 : (lineW l x).length ≤ x.2.1 := by simp [lineW]; omega
    show totR (runF l (stepF s (lineW l x) (lineT l x)) xs) ≤ totR s + (x.2.1 + sumW xs)
    omega
theorem sumW_prefix {a b : List (Nat × Nat × Nat)} (h : a <+: b) : sumW a ≤ sumW b := by
  obtain ⟨c, rfl⟩ := h
  rw [sumW_append]
  omega
theorem fieldsS_tot (l : List Nat) : (rawF (fieldsS l)).length ≤ l.length := by
  have h1 := runF_tot l (headF (linesP 0 l)) ([], none)
  have h2 := sumW_prefix (List.takeWhile_prefix (fun x : Nat × Nat × Nat => x.2.2 != 0) (l := linesP 0 l))
  have h3 := sumW_lines l.length 0 l (Nat.le_refl _)
  have h4 : totR (([] : List Fd), (none : Option Fd)) = 0 := rfl
  have h5 : totR (runF l ([], none) (headF (linesP 0 l))) = (rawF (fieldsS l)).length := rfl
  unfold headF at h1 h5
  omega
theorem rawF_filter (p : Fd → Bool) : ∀ fs : List Fd, (rawF (fs.filter p)).length ≤ (rawF fs).length := by
  intro fs
  induction fs with
  | nil => simp
  | cons f fs ih =>
    have e : rawF (f :: fs) = f.R ++ rawF fs := by simp [rawF]
    rw [e, List.length_append]
    by_cases h : p f = true
    · rw [List.filter_cons_of_pos h]
      have e2 : rawF (f :: fs.filter p) = f.R ++ rawF (fs.filter p) := by simp [rawF]
      rw [e2, List.length_append]
      omega
    · rw [List.filter_cons_of_neg h]
      omega
theorem rawF_take (fs : List Fd) (k : Nat) : (rawF (fs.take k)).length ≤ (rawF fs).length := by
  have e : rawF fs = rawF (fs.take k) ++ rawF (fs.drop k) := by unfold rawF; rw [← List.flatMap_append, List.take_append_drop]
  rw [e, List.length_append]
  omega
theorem pick_len (l : List Nat) (S : List ByteArray) (nt : Bool) (k : Nat) : (rawF (pickF S nt ((fieldsS l).take k))).length ≤ l.length :=
  Nat.le_trans (Nat.le_trans (rawF_filter _ _) (rawF_take _ _)) (fieldsS_tot l)

/-! what is told of the fields that are told -/
/-- a field whose lines, ahead of others, are told as it -/
def Whole (f : Fd) : Prop := ∀ s rest, runR s (f.R ++ rest) = runR (s.1 ++ s.2.toList, some f) rest
/-- one whose lines, ahead of an empty one, are told as it -/
def Last (f : Fd) : Prop := ∀ s, ∃ R', runR s (f.R ++ [13, 10]) = (s.1 ++ s.2.toList, some ⟨f.nm, f.T, R'⟩)
theorem Whole.last {f : Fd} (h : Whole f) : Last f := fun s => ⟨f.R, by
  rw [h]
  have := runR_line (line_end []).1 (s.1 ++ s.2.toList, some f) []
  rw [if_pos (line_end []).2] at this
  simpa using this⟩
def OkS (s : List Fd × Option Fd) : Prop := (∀ f ∈ s.1, Whole f) ∧ ∀ f ∈ s.2, Whole f
theorem step_whole {s : List Fd × Option Fd} {x : List Nat} (h : OkS s) (hx : LineP x) (hne : lineX x ≠ []) : OkS (stepF s x (lineX x)) := by
  unfold stepF
  by_cases hg : goesB (lineX x) = true
  · rw [if_pos hg]
    refine ⟨h.1, fun f hf => ?_⟩
    simp only [Option.mem_def, Option.map_eq_some_iff] at hf
    obtain ⟨f0, h0, rfl⟩ := hf
    intro s' rest
    simp only
    rw [List.append_assoc, h.2 f0 h0, runR_line hx, if_neg hne]
    congr 1
    unfold stepF
    rw [if_pos hg]
    rfl
  · rw [if_neg hg]
    refine ⟨fun f hf => ?_, fun f hf => ?_⟩
    · rcases List.mem_append.1 hf with hf | hf
      · exact h.1 f hf
      · exact h.2 f (by simpa using hf)
    · simp only [Option.mem_def, Option.map_eq_some_iff] at hf
      obtain ⟨q, hq, rfl⟩ := hf
      intro s' rest
      simp only
      rw [runR_line hx, if_neg hne]
      congr 1
      unfold stepF
      rw [if_neg hg, hq]
      rfl
/-- all but the last one are whole -/
theorem run_whole (n : Nat) : ∀ (r : List Nat) (s : List Fd × Option Fd), r.length ≤ n → OkS s → (∀ f ∈ (runR s r).1, Whole f) ∧ ∀ f ∈ (runR s r).2, Last f := by
  induction n with
  | zero =>
    intro r s h hs
    obtain rfl : r = [] := List.eq_nil_of_length_eq_zero (by omega)
    rw [runR]
    exact ⟨hs.1, fun f hf => (hs.2 f (by simpa using hf)).last⟩
  | succ n ih =>
    intro r s h hs
    by_cases hr : r = []
    · subst hr
      rw [runR]
      exact ⟨hs.1, fun f hf => (hs.2 f (by simpa using hf)).last⟩
    · by_cases hlf : aheadN 10 r < r.length
      · obtain ⟨hl, hw⟩ := line_first hlf
        obtain ⟨x, hx⟩ : ∃ x, r.take (wholeN r) = x := ⟨_, rfl⟩
        obtain ⟨r', hr'⟩ : ∃ r', r.drop (wholeN r) = r' := ⟨_, rfl⟩
        have e : r = x ++ r' := by rw [← hx, ← hr', List.take_append_drop]
        rw [hx] at hl hw
        have hxp : 0 < x.length := List.length_pos_iff.2 (line_ne hl)
        clear hx hr' hw hlf
        subst e
        rw [runR_line hl]
        by_cases h0 : lineX x = []
        · rw [if_pos h0]
          exact ⟨hs.1, fun f hf => (hs.2 f hf).last⟩
        · rw [if_neg h0]
          exact ih r' _ (by simp at h; omega) (step_whole hs hl h0)
      · have hw : wholeN r = r.length := by unfold wholeN; rw [if_neg hlf]
        have ht : textN r = r.length := by unfold textN; rw [if_neg hlf]
        have hpos := List.length_pos_iff.2 hr
        have hno : ∀ c ∈ r, c ≠ 10 := by
          intro c hc e
          subst e
          have : aheadN 10 r < r.length := by
            clear hlf hw ht h
            induction r with
            | nil => simp at hc
            | cons y r ih2 =>
              by_cases hy : y = 10
              · subst hy; simp [aheadN]
              · have e2 : aheadN 10 (y :: r) = aheadN 10 r + 1 := by simp [aheadN, hy]
                rw [e2]
                have hc2 : (10 : Nat) ∈ r := by
                  rcases List.mem_cons.1 hc with h | h
                  · exact absurd h.symm hy
                  · exact h
                have hr2 : r ≠ [] := by intro e; subst e; simp at hc2
                have := ih2 hr2 (List.length_pos_iff.2 hr2) hc2
                simp
                omega
          exact hlf this
        obtain ⟨l1, e1⟩ := lineX_crlf hno
        rw [runR, dif_neg hr, ht, if_neg (by omega), hw, List.take_of_length_le (Nat.le_refl _), List.drop_eq_nil_of_le (Nat.le_refl _), runR, dif_pos rfl]
        have hlast : ∀ s' : List Fd × Option Fd, runR s' (r ++ [13, 10]) = stepF s' (r ++ [13, 10]) r := by
          intro s'
          have := runR_line l1 s' []
          rw [List.append_nil, e1, if_neg hr] at this
          rw [this, runR, dif_pos rfl]
        unfold stepF
        by_cases hg : goesB r = true
        · rw [if_pos hg]
          refine ⟨hs.1, fun f hf => ?_⟩
          simp only [Option.mem_def, Option.map_eq_some_iff] at hf
          obtain ⟨f0, h0, rfl⟩ := hf
          intro s'
          simp only
          rw [List.append_assoc, hs.2 f0 h0, hlast]
          unfold stepF
          rw [if_pos hg]
          exact ⟨_, rfl⟩
        · rw [if_neg hg]
          refine ⟨fun f hf => ?_, fun f hf => ?_⟩
          · rcases List.mem_append.1 hf with hf | hf
            · exact hs.1 f hf
            · exact hs.2 f (by simpa using hf)
          · simp only [Option.mem_def, Option.map_eq_some_iff] at hf
            obtain ⟨q, hq, rfl⟩ := hf
            intro s'
            simp only
            rw [hlast]
            unfold stepF
            rw [if_neg hg, hq]
            exact ⟨_, rfl⟩
theorem raw_run : ∀ (A : List Fd) (s : List Fd × Option Fd) (rest : List Nat), (∀ f ∈ A, Whole f) → ∃ s', runR s (rawF A ++ rest) = runR s' rest ∧ s'.1 ++ s'.2.toList = s.1 ++ s.2.toList ++ A := by
  intro A
  induction A with
  | nil => intro s rest _; exact ⟨s, rfl, by simp⟩
  | cons f A ih =>
    intro s rest h
    have e : rawF (f :: A) ++ rest = f.R ++ (rawF A ++ rest) := by simp [rawF]
    rw [e, h f (List.mem_cons_self ..)]
    obtain ⟨s', h1, h2⟩ := ih (s.1 ++ s.2.toList, some f) rest fun g hg => h g (List.mem_cons_of_mem _ hg)
    exact ⟨s', h1, by rw [h2]; simp⟩
/-- Fields of what Only tells -/
theorem told_only (l : List Nat) (S : List ByteArray) (nt : Bool) : toldS (onlyS l S nt) = (pickF S nt (fieldsS l)).map tkOf := by
  obtain ⟨h1, h2⟩ := run_whole l.length l ([], none) (Nat.le_refl _) ⟨by simp, by simp⟩
  unfold toldS onlyS
  rw [fieldsS_eq l]
  obtain ⟨⟨A, op⟩, hs⟩ : ∃ st, runR ([], none) l = st := ⟨_, rfl⟩
  rw [hs] at h1 h2 ⊢
  simp only at h1 h2 ⊢
  have e1 : pickF S nt (A ++ op.toList) = pickF S nt A ++ pickF S nt op.toList := by simp [pickF]
  have e2 : ∀ a b, rawF (a ++ b) = rawF a ++ rawF b := by intro a b; simp [rawF]
  have hA : ∀ f ∈ pickF S nt A, Whole f := fun f hf => h1 f (List.mem_filter.1 hf).1
  obtain ⟨B, hB, hBl⟩ : ∃ B : Option Fd, pickF S nt op.toList = B.toList ∧ ∀ f ∈ B, Last f := by
    cases op with
    | none => exact ⟨none, rfl, by simp⟩
    | some g =>
      by_cases hp : keepB S nt g = true
      · exact ⟨some g, by simp only [pickF, Option.toList]; rw [List.filter_cons_of_pos hp]; rfl, h2⟩
      · exact ⟨none, by simp only [pickF, Option.toList]; rw [List.filter_cons_of_neg hp]; rfl, by simp⟩
  rw [e1, hB, e2, fieldsS_eq, List.append_assoc]
  obtain ⟨s', h3, h4⟩ := raw_run (pickF S nt A) ([], none) (rawF B.toList ++ [13, 10]) hA
  rw [h3]
  replace h4 : s'.1 ++ s'.2.toList = pickF S nt A := by simpa using h4
  cases B with
  | none =>
    have := runR_line (line_end []).1 s' []
    rw [if_pos (line_end []).2, List.append_nil] at this
    rw [show rawF (none : Option Fd).toList ++ [13, 10] = [13, 10] from rfl, this, h4]
    simp
  | some g =>
    obtain ⟨R', h5⟩ := hBl g rfl s'
    rw [show rawF (some g).toList ++ [13, 10] = g.R ++ [13, 10] by simp [rawF], h5, h4]
    simp [tkOf]
end Go.Proofs.YtlfdcocaedeneaaDoor
