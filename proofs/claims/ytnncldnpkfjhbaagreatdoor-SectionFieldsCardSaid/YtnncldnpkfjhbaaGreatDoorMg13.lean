/-
  Several texts of one proof, each in a section of its own: Str, PureS, FlV, FieldsP.
-/
import Derived.Test.YtnncldnpkfjhbaaGreatDoorFldsMg
import Derived.Lib.UnsafeStr
import Derived.Shelf.RegionOpenPlain
import Derived.Test.YtnncldnpkfjhbaaGreatDoorMg11
import Derived.Test.YtnncldnpkfjhbaaGreatDoorMg6
import Derived.Deep.RegionHeld3
import Derived.Test.YtnncldnpkfjhbaaGreatDoorMg8
namespace Go.Proofs.YtnncldnpkfjhbaaGreatDoor
section
set_option linter.unusedVariables false
open Go.RowKit Go.Lib

/-- cells below E lie as they lay, frozen or not -/
def KeepC (E : Nat) (W W' : World) : Prop := (∀ k, k < E → ∀ C t fz, W.heap[k]? = some (.cells C t fz) → ∃ fz', W'.heap[k]? = some (.cells C t fz')) ∧ W.heap.size ≤ W'.heap.size
theorem KeepC.refl (E : Nat) (W : World) : KeepC E W W := ⟨fun k _ C t fz h => ⟨fz, h⟩, Nat.le_refl _⟩
theorem KeepC.trans {E : Nat} {A B C : World} (h : KeepC E A B) (k : KeepC E B C) : KeepC E A C := ⟨fun j hj D t fz hD => by obtain ⟨fz', h1⟩ := h.1 j hj D t fz hD; exact k.1 j hj D t fz' h1, Nat.le_trans h.2 k.2⟩
theorem KeepC.mono {E E' : Nat} {A B : World} (h : KeepC E A B) (hE : E' ≤ E) : KeepC E' A B := ⟨fun j hj => h.1 j (by omega), h.2⟩
theorem KeepC.below {E : Nat} {A B : World} (h : Below E A B) : KeepC E A B := ⟨fun j hj D t fz hD => ⟨fz, (h.block j hj).trans hD⟩, h.size⟩
theorem KeepC.freeze (E : Nat) (W : World) (p : Addr) (n : Nat) : KeepC E W (W.freeze p n) := by
  refine ⟨fun k hk C t fz h => ?_, ?_⟩
  · unfold World.freeze
    split
    · exact ⟨fz, h⟩
    · simp only [Array.getElem?_modify]
      by_cases e : p.block = k
      · rw [if_pos e, h]
        exact ⟨_, rfl⟩
      · rw [if_neg e, h]
        exact ⟨_, rfl⟩
  · unfold World.freeze
    split
    · exact Nat.le_refl _
    · simp

theorem freeze_other (W : World) (p : Addr) (n k : Nat) (h : k ≠ p.block) : (W.freeze p n).heap[k]? = W.heap[k]? := by
  unfold World.freeze
  split
  · rfl
  · simp only [Array.getElem?_modify]
    rw [if_neg (fun e => h e.symm)]
/-- a row of bytes that can be read, from block n on, below E -/
def RowT (W : World) (n E : Nat) (v : Value) (T : List Nat) : Prop :=
  (v = .slice none 0 0 ∧ T = []) ∨ ∃ b cap cur fz, v = .slice (some ⟨b, 0, none⟩) T.length cap ∧ n ≤ b ∧ b < E ∧ W.heap[b]? = some (.cells cur 5 fz) ∧ T.length ≤ cap ∧ cap ≤ maxLen ∧ cur.size = cap * 1 ∧ cur.toList.take (T.length * 1) = u8s T
theorem RowT.keep {W W' : World} {n E : Nat} {v : Value} {T : List Nat} (h : RowT W n E v T) (hk : KeepC E W W') : RowT W' n E v T := by
  rcases h with h | ⟨b, cap, cur, fz, rfl, h1, h2, h3, r⟩
  · exact .inl h
  · obtain ⟨fz', h4⟩ := hk.1 b h2 _ _ _ h3
    exact .inr ⟨b, cap, cur, fz', rfl, h1, h2, h4, r⟩
theorem ownB_rowT {W : World} {n E : Nat} {v : Value} {T : List Nat} (h : OwnB W n v T) (hE : ∀ k, v.ownBlock = some k → k < E) : RowT W n E v T := by
  rcases h.2 with ⟨rfl, h0⟩ | ⟨b, cap, cur, rfl, h1, h2, h3, h4, h5, h6⟩
  · exact .inl ⟨rfl, List.eq_nil_of_length_eq_zero h0⟩
  · exact .inr ⟨b, cap, cur, _, rfl, h1, hE b rfl, h2, h3, h4, h5, h6⟩

/-- a field that can be read -/
def FinR (W : World) (n E g : Nat) (f : Fd) : Prop := (n ≤ g ∧ g < E) ∧ ∃ a v r fz, W.heap[g]? = some (.cells #[.string f.nm, a, v, r] 84 fz) ∧ RowT W n E v f.T ∧ RowT W n E r f.R
theorem FinR.keep {W W' : World} {n E g : Nat} {f : Fd} (h : FinR W n E g f) (hk : KeepC E W W') : FinR W' n E g f := by
  obtain ⟨hg, a, v, r, fz, h1, h2, h3⟩ := h
  obtain ⟨fz', h4⟩ := hk.1 g hg.2 _ _ _ h1
  exact ⟨hg, a, v, r, fz', h4, h2.keep hk, h3.keep hk⟩
theorem Fin.read {W : World} {n E g : Nat} {f : Fd} (h : Fin W n E f g) : FinR W n E g f := by
  obtain ⟨a, v, r, _, hc, h1, h2, h3⟩ := h
  exact ⟨⟨hc.base, h1⟩, a, v, r, _, hc.row, ownB_rowT hc.own h2, ownB_rowT hc.raw h3⟩

theorem cells5 : Tryz.prog.cellsOf 5 = 1 := by kernel_rfl

/-- the text that a builder holds -/
def strT (T : List Nat) : ByteArray := ⟨(T.map UInt8.ofNat).toArray⟩

set_option maxHeartbeats 2000000 in
set_option maxRecDepth 100000 in
/-- String of a field's builder -/
theorem str_any (g n E : Nat) (f : Fd) (w : World) (h : FinR w n E g f) (hn : n ≤ w.heap.size) (hE : E ≤ w.heap.size) (hlt : ∀ c ∈ f.T, c < 256) :
    Calls Tryz.prog 44 #[.pointer (some ⟨g, 1, none⟩)] w fun e w' => e = .returned (.string (strT f.T)) ∧ Below n w w' ∧ KeepC E w w' ∧ ∀ k, E ≤ k → k < w.heap.size → w'.heap[k]? = w.heap[k]? := by
  have mixed : Tryz.prog.follows Departure.mixedOrders = true := by kernel_rfl
  obtain ⟨hgE, a, v, r, fz, hrow, hv, -⟩ := h
  obtain ⟨nm, T, R⟩ := f
  simp only at hv hlt hrow ⊢
  have hgl : g < w.heap.size := (Array.getElem?_eq_some_iff.1 hrow).1
  have c1 : w.drew.cell? ⟨g, 2, none⟩ = some v := cell_of_row _ _ 2 _ _ _ hrow
  rcases hv with ⟨rfl, rfl⟩ | ⟨b, cap, cur, fz2, rfl, h1, h2, h3, h4, h5, h6, h7⟩
  · have hSD : (Builtin.unsafeSliceData_ #[22] 116 #[.slice none 0 0]).run Tryz.prog w.drew = .ok (.pointer none) w.drew := Lib.run_unsafeSliceData_nil _ _ _ _ _
    have hUS : (Builtin.unsafeString_ #[116, 3] 9 #[.pointer none, .int .i64 0]).run Tryz.prog w.drew = .ok (.string .empty) w.drew := Lib.run_unsafeString_none _ _ _ _ _
    clear hrow hgE hgl
    go_enter Tryz.func44, Tryz.ntmps44
    go_wp2
    go_region_o
    all_goals (go_wp2; go_ret; exact ⟨rfl, Below.drew (Below.refl n w), KeepC.refl E w, fun k _ _ => rfl⟩)
  · by_cases hT : T = []
    · subst hT
      have hUS := fun (W : World) (q : Option Addr) => Lib.run_unsafeString_none (P := Tryz.prog) W 116 3 9 q
      simp only [List.length_nil] at c1 ⊢
      by_cases hc0 : cap = 0
      · subst hc0
        have hsh : w.drew.shape? b = some (5, cur.size) := by have hg' : w.drew.heap[b]? = some (.cells cur 5 fz2) := h3; simp [World.shape?, hg']
        have hSD : (Builtin.unsafeSliceData_ #[22] 116 #[.slice (some ⟨b, 0, none⟩) 0 0]).run Tryz.prog w.drew = .ok (.pointer (some ⟨w.drew.heap.size, 0, none⟩)) (w.drew.alloc (.view ⟨b, 0, none⟩ 5)) :=
          Lib.run_unsafeSliceData_zero w.drew _ _ 5 Tryz.underlying116 ⟨b, 0, none⟩ 0 (5, cur.size) hsh
        have c2 : (w.drew.alloc (.view ⟨b, 0, none⟩ 5)).cell? ⟨g, 2, none⟩ = some (.slice (some ⟨b, 0, none⟩) 0 0) := (((Below.drew (Below.refl w.heap.size w)).alloc (Nat.le_refl _) (.view ⟨b, 0, none⟩ 5)).cell (p := ⟨g, 2, none⟩) hgl).trans c1
        have c3 : (w.alloc (.view ⟨b, 0, none⟩ 5)).drew.cell? ⟨g, 2, none⟩ = some (.slice (some ⟨b, 0, none⟩) 0 0) := c2
        have c0 : w.cell? ⟨g, 2, none⟩ = some (.slice (some ⟨b, 0, none⟩) 0 0) := c1
        clear hrow hgE h1 h2 h3 h4 h5 h6 h7 hsh hgl
        go_enter Tryz.func44, Tryz.ntmps44
        go_wp2
        go_region_o
        all_goals (go_wp2; go_ret; exact ⟨rfl, (Below.drew (Below.refl n w)).alloc hn _, KeepC.below (E := E) ((Below.drew (Below.refl E w)).alloc hE _), fun k _ hk => ((Below.drew (Below.refl w.heap.size w)).alloc (Nat.le_refl _) _).block k hk⟩)
      · have hSD : (Builtin.unsafeSliceData_ #[22] 116 #[.slice (some ⟨b, 0, none⟩) 0 cap]).run Tryz.prog w.drew = .ok (.pointer (some ⟨b, 0, none⟩)) w.drew :=
          Lib.run_unsafeSliceData_row _ _ _ _ _ _ hc0
        clear hrow hgE h1 h2 h3 h4 h5 h6 h7 hc0 hgl
        go_enter Tryz.func44, Tryz.ntmps44
        go_wp2
        go_region_o
        all_goals (go_wp2; go_ret; exact ⟨rfl, Below.drew (Below.refl n w), KeepC.refl E w, fun k _ _ => rfl⟩)
    · have hTl : T.length ≠ 0 := by simpa using hT
      have hl : (T.map UInt8.ofNat).length = T.length := by simp
      have hSD : (Builtin.unsafeSliceData_ #[22] 116 #[.slice (some ⟨b, 0, none⟩) T.length cap]).run Tryz.prog w.drew = .ok (.pointer (some ⟨b, 0, none⟩)) w.drew :=
        Lib.run_unsafeSliceData_row _ _ _ _ _ _ (by omega)
      have hUS : (Builtin.unsafeString_ #[116, 3] 9 #[.pointer (some ⟨b, 0, none⟩), .int .i64 T.length]).run Tryz.prog w.drew = .ok (.string (strT T)) (w.drew.freeze ⟨b, 0, none⟩ T.length) := by
        have := Lib.run_unsafeString_row (P := Tryz.prog) w.drew 116 3 9 5 Tryz.underlying116 cells5 b cur.size (by have hg' : w.drew.heap[b]? = some (.cells cur 5 fz2) := h3; simp [World.shape?, hg']) (T.map UInt8.ofNat) (by simpa using hT) (by rw [hl]; omega) (by rw [hl]; unfold maxLen at h5; omega) (by
          intro j x hx
          rw [Addr.add_lit, Nat.zero_add]
          have hj : j < T.length := by have := (List.getElem?_eq_some_iff.1 hx).1; simpa using this
          have hx' : x = UInt8.ofNat T[j] := by rw [List.getElem?_eq_getElem (by simpa using hj)] at hx; simp at hx; exact hx.symm
          have hb := hlt T[j] (List.getElem_mem hj)
          have e1 : (UInt8.ofNat T[j]).toNat = T[j] := by simp; omega
          rw [hx', e1]
          have hq : cur.toList[j]? = some (.int .u8 (T[j] : Nat)) := by
            have : (cur.toList.take (T.length * 1))[j]? = some (.int .u8 (T[j] : Nat)) := by rw [h7, u8s_get T j hj]
            rwa [List.getElem?_take_of_lt (by omega)] at this
          have := cell_of_row w.drew b j cur 5 fz2 h3
          rw [this]
          simpa using hq)
        rw [hl] at this
        exact this
      have HLE := Lib.hid hn
      clear hrow hgE h3 h4 h5 h6 h7 hgl hlt hn hT hTl hl
      go_enter Tryz.func44, Tryz.ntmps44
      go_wp2
      go_region_o
      all_goals (go_wp2; go_ret; exact ⟨rfl, Lib.below_freeze (Below.drew (Below.refl n w)) (p := ⟨b, 0, none⟩) h1 _, KeepC.freeze E w.drew _ _, fun k hk _ => freeze_other w.drew _ _ k (by simp only; omega)⟩)
end
section
set_option linter.unusedVariables false
open Go.RowKit Go.Lib

theorem aheadN_app (c : Nat) (x r : List Nat) (h : aheadN c x < x.length) : aheadN c (x ++ r) = aheadN c x := by
  unfold aheadN at *
  rw [List.takeWhile_append, if_neg (by omega)]
/-- a whole line -/
def LineP (x : List Nat) : Prop := aheadN 10 x + 1 = x.length
theorem line_ne {x : List Nat} (h : LineP x) : x ≠ [] := by intro e; subst e; simp [LineP] at h
/-- its text -/
def lineX (x : List Nat) : List Nat := x.take (trimN (x.take (aheadN 10 x)))
theorem lineX_len {x : List Nat} (h : LineP x) : (lineX x).length = trimN (x.take (aheadN 10 x)) := by
  have := trimN_le (x.take (aheadN 10 x))
  unfold LineP at h
  simp [lineX] at this ⊢
  omega
theorem wholeN_line {x : List Nat} (h : LineP x) (r : List Nat) : wholeN (x ++ r) = x.length := by
  unfold LineP at h
  unfold wholeN
  rw [aheadN_app 10 x r (by omega), if_pos (by simp; omega), h]
theorem textN_line {x : List Nat} (h : LineP x) (r : List Nat) : textN (x ++ r) = trimN (x.take (aheadN 10 x)) := by
  unfold LineP at h
  unfold textN
  rw [aheadN_app 10 x r (by omega), if_pos (by simp; omega), List.take_append_of_le_length (by omega)]
theorem ahead_take (c : Nat) (r : List Nat) (h : aheadN c r < r.length) : aheadN c (r.take (aheadN c r + 1)) = aheadN c r := by
  induction r with
  | nil => simp at h
  | cons y r ih =>
    by_cases hy : y = c
    · subst hy; simp [aheadN]
    · have e : aheadN c (y :: r) = aheadN c r + 1 := by simp [aheadN, hy]
      rw [e] at h ⊢
      rw [List.take_succ_cons]
      have e2 : ∀ m : List Nat, aheadN c (y :: m) = aheadN c m + 1 := by intro m; simp [aheadN, hy]
      rw [e2, ih (by simpa using h)]
/-- the first line, if it has an end -/
theorem line_first {r : List Nat} (h : aheadN 10 r < r.length) : LineP (r.take (wholeN r)) ∧ wholeN r = (r.take (wholeN r)).length := by
  have e : wholeN r = aheadN 10 r + 1 := by unfold wholeN; rw [if_pos h]
  have el : (r.take (wholeN r)).length = aheadN 10 r + 1 := by rw [e]; simp; omega
  refine ⟨?_, by rw [el, e]⟩
  unfold LineP
  rw [el, e, ahead_take 10 r h]

/-- what the lines of a suffix make of a state -/
def runR (s : List Fd × Option Fd) (r : List Nat) : List Fd × Option Fd :=
  if h : r = [] then s else if textN r = 0 then s else runR (stepF s (r.take (wholeN r)) (r.take (textN r))) (r.drop (wholeN r))
termination_by r.length
decreasing_by
  have := wholeN_pos h
  have := List.length_pos_iff.2 h
  simp
  omega
/-- where the body begins, from a suffix on -/
def splitR (r : List Nat) : Nat :=
  if h : r = [] then 0 else wholeN r + (if textN r = 0 then 0 else splitR (r.drop (wholeN r)))
termination_by r.length
decreasing_by
  have := wholeN_pos h
  have := List.length_pos_iff.2 h
  simp
  omega
theorem splitR_eq (n : Nat) : ∀ (j : Nat) (r : List Nat), r.length ≤ n → splitL (linesP j r) = splitR r := by
  induction n with
  | zero =>
    intro j r h
    obtain rfl : r = [] := List.eq_nil_of_length_eq_zero (by omega)
    rw [linesP_nil, splitR]
    simp [splitL]
  | succ n ih =>
    intro j r h
    by_cases hr : r = []
    · subst hr; rw [linesP_nil, splitR]; simp [splitL]
    · rw [linesP_cons j hr, splitR, dif_neg hr]
      show wholeN r + _ = _
      have := wholeN_pos hr
      rw [ih _ _ (by simp; omega)]
theorem splitS_eq (l : List Nat) : splitS l = splitR l := splitR_eq l.length 0 l (Nat.le_refl _)
theorem runR_eq (n : Nat) : ∀ (l : List Nat) (j : Nat) (s : List Fd × Option Fd), l.length - j ≤ n → runF l s (headF (linesP j (l.drop j))) = runR s (l.drop j) := by
  induction n with
  | zero =>
    intro l j s h
    have : l.drop j = [] := List.drop_eq_nil_of_le (by omega)
    rw [this, linesP_nil, runR]
    simp [headF, runF]
  | succ n ih =>
    intro l j s h
    by_cases hr : l.drop j = []
    · rw [hr, linesP_nil, runR]
      simp [headF, runF]
    · rw [linesP_cons j hr, runR, dif_neg hr]
      have := wholeN_pos hr
      by_cases ht : textN (l.drop j) = 0
      · rw [if_pos ht]
        simp [headF, ht, runF]
      · rw [if_neg ht]
        have e : headF ((j, wholeN (l.drop j), textN (l.drop j)) :: linesP (j + wholeN (l.drop j)) ((l.drop j).drop (wholeN (l.drop j)))) = (j, wholeN (l.drop j), textN (l.drop j)) :: headF (linesP (j + wholeN (l.drop j)) (l.drop (j + wholeN (l.drop j)))) := by
          rw [List.drop_drop]
          simp [headF, ht]
        rw [e]
        show runF l (stepF s _ _) _ = _
        rw [ih l (j + wholeN (l.drop j)) _ (by omega), List.drop_drop]
        rfl
theorem fieldsS_eq (l : List Nat) : fieldsS l = (runR ([], none) l).1 ++ (runR ([], none) l).2.toList := by
  have := runR_eq l.length l 0 ([], none) (by omega)
  simp only [List.drop_zero] at this
  unfold fieldsS
  rw [this]

theorem runR_line {x : List Nat} (h : LineP x) (s : List Fd × Option Fd) (r : List Nat) : runR s (x ++ r) = if lineX x = [] then s else runR (stepF s x (lineX x)) r := by
  have hne : x ++ r ≠ [] := by simp [line_ne h]
  have hl := lineX_len h
  have hle : trimN (x.take (aheadN 10 x)) ≤ x.length := by
    have := trimN_le (x.take (aheadN 10 x))
    simp at this
    omega
  rw [runR, dif_neg hne, wholeN_line h, textN_line h]
  by_cases h0 : trimN (x.take (aheadN 10 x)) = 0
  · rw [if_pos h0, if_pos (List.eq_nil_of_length_eq_zero (by omega))]
  · rw [if_neg h0, if_neg (fun e => h0 (by rw [e] at hl; simpa using hl.symm))]
    rw [List.take_append_of_le_length (Nat.le_refl _), List.take_length, List.take_append_of_le_length hle, List.drop_left]
    rfl
theorem splitR_line {x : List Nat} (h : LineP x) (r : List Nat) : splitR (x ++ r) = x.length + (if lineX x = [] then 0 else splitR r) := by
  have hne : x ++ r ≠ [] := by simp [line_ne h]
  have hl := lineX_len h
  rw [splitR, dif_neg hne, wholeN_line h, textN_line h]
  by_cases h0 : trimN (x.take (aheadN 10 x)) = 0
  · rw [if_pos h0, if_pos (List.eq_nil_of_length_eq_zero (by omega))]
  · rw [if_neg h0, if_neg (fun e => h0 (by rw [e] at hl; simpa using hl.symm)), List.drop_left]
theorem splitR_le (n : Nat) : ∀ r : List Nat, r.length ≤ n → splitR r ≤ r.length := by
  induction n with
  | zero =>
    intro r h
    obtain rfl : r = [] := List.eq_nil_of_length_eq_zero (by omega)
    rw [splitR]
    simp
  | succ n ih =>
    intro r h
    by_cases hr : r = []
    · subst hr; rw [splitR]; simp
    · rw [splitR, dif_neg hr]
      have h1 := wholeN_pos hr
      have h2 := wholeN_le r
      split
      · omega
      · have := ih (r.drop (wholeN r)) (by simp; omega)
        simp at this
        omega
/-- what stands behind the empty line plays no part -/
theorem behind_any (n : Nat) : ∀ (r body : List Nat) (s : List Fd × Option Fd), r.length ≤ n → splitR r < r.length →
    splitR (r.take (splitR r) ++ body) = splitR r ∧ runR s (r.take (splitR r) ++ body) = runR s r := by
  induction n with
  | zero => intro r body s h h2; omega
  | succ n ih =>
    intro r body s h h2
    have hr : r ≠ [] := by intro e; subst e; simp at h2
    have hlf : aheadN 10 r < r.length := by
      rcases Nat.lt_or_ge (aheadN 10 r) r.length with h3 | h3
      · exact h3
      · exfalso
        rw [splitR, dif_neg hr] at h2
        have : wholeN r = r.length := by unfold wholeN; rw [if_neg (by omega)]
        omega
    obtain ⟨hl, hw⟩ := line_first hlf
    obtain ⟨x, hx⟩ : ∃ x, r.take (wholeN r) = x := ⟨_, rfl⟩
    obtain ⟨r', hr'⟩ : ∃ r', r.drop (wholeN r) = r' := ⟨_, rfl⟩
    have e : r = x ++ r' := by rw [← hx, ← hr', List.take_append_drop]
    rw [hx] at hl hw
    have hxp : 0 < x.length := List.length_pos_iff.2 (line_ne hl)
    clear hx hr' hw hlf
    subst e
    rw [splitR_line hl] at h2 ⊢
    rw [runR_line hl]
    by_cases h0 : lineX x = []
    · rw [if_pos h0] at h2 ⊢
      rw [if_pos h0]
      simp only [Nat.add_zero] at h2 ⊢
      rw [List.take_append_of_le_length (Nat.le_refl _), List.take_length]
      exact ⟨by rw [splitR_line hl, if_pos h0]; rfl, by rw [runR_line hl, if_pos h0]⟩
    · rw [if_neg h0] at h2 ⊢
      rw [if_neg h0]
      have h3 : splitR r' < r'.length := by simp at h2; exact h2
      obtain ⟨i1, i2⟩ := ih r' body (stepF s x (lineX x)) (by simp at h; omega) h3
      rw [List.take_length_add_append, List.append_assoc]
      exact ⟨by rw [splitR_line hl, if_neg h0, i1], by rw [runR_line hl, if_neg h0, i2]⟩
theorem splitS_le (l : List Nat) : splitS l ≤ l.length := by rw [splitS_eq]; exact splitR_le _ l (Nat.le_refl _)
theorem splitS_cut (l body : List Nat) (h : splitS l < l.length) : splitS (l.take (splitS l) ++ body) = splitS l := by
  rw [splitS_eq l] at h ⊢
  rw [splitS_eq]
  exact (behind_any l.length l body ([], none) (Nat.le_refl _) h).1
theorem fieldsS_cut (l body : List Nat) (h : splitS l < l.length) : fieldsS (l.take (splitS l) ++ body) = fieldsS l := by
  rw [splitS_eq l] at h ⊢
  rw [fieldsS_eq, fieldsS_eq, (behind_any l.length l body ([], none) (Nat.le_refl _) h).2]
end
section
set_option linter.unusedVariables false
open Go.RowKit

/-- a field's name and text -/
abbrev Tk := ByteArray × ByteArray
def tkV (x : Tk) : List Value := [.string x.1, .string x.2]
def tksV (l : List Tk) : List Value := l.flatMap tkV
def OwnT (w : World) (B : Nat) (v : Value) (l : List Tk) : Prop := w.ownsRow B 57 2 v l.length (tksV l)
theorem tksV_append (l m : List Tk) : tksV (l ++ m) = tksV l ++ tksV m := by simp [tksV]
@[simp] theorem tksV_length (l : List Tk) : (tksV l).length = l.length * 2 := by
  induction l with
  | nil => rfl
  | cons x l ih => simp only [tksV, List.flatMap_cons, List.length_append, List.length_cons] at ih ⊢; rw [ih]; simp [tkV]; omega
theorem OwnT.shape {w : World} {B : Nat} {v : Value} {l : List Tk} (h : OwnT w B v l) : ∃ a cap, v = .slice a l.length cap := by
  rcases h.2 with ⟨hv, h0⟩ | ⟨g, cap, cur, hv, _⟩
  · exact ⟨none, 0, by rw [hv, h0]⟩
  · exact ⟨_, cap, hv⟩
theorem tksV_get (l : List Tk) : ∀ (i : Nat) (h : i < l.length), (tksV l)[i * 2]? = some (.string l[i].1) ∧ (tksV l)[i * 2 + 1]? = some (.string (l[i].2)) := by
  induction l with
  | nil => intro i h; simp at h
  | cons x l ih =>
    intro i h
    have e : tksV (x :: l) = [.string x.1, .string (x.2)] ++ tksV l := by simp [tksV, tkV]
    rw [e]
    cases i with
    | zero => exact ⟨rfl, rfl⟩
    | succ i =>
      have h' : i < l.length := by simpa using h
      obtain ⟨h1, h2⟩ := ih i h'
      constructor
      · rw [List.getElem?_append_right (by simp; omega), show (i + 1) * 2 - [Value.string x.1, .string (x.2)].length = i * 2 by simp; omega, h1]
        simp
      · rw [List.getElem?_append_right (by simp; omega), show (i + 1) * 2 + 1 - [Value.string x.1, .string (x.2)].length = i * 2 + 1 by simp; omega, h2]
        simp
theorem OwnT.cells {w : World} {B : Nat} {v : Value} {l : List Tk} (h : OwnT w B v l) : ∃ g cap, (0 < l.length → v = .slice (some ⟨g, 0, none⟩) l.length cap ∧ B ≤ g ∧ g < w.heap.size ∧ ∀ i (hi : i < l.length), w.cell? ⟨g, i * 2, none⟩ = some (.string l[i].1) ∧ w.cell? ⟨g, i * 2 + 1, none⟩ = some (.string (l[i].2))) := by
  have h0 := h
  rcases h.2 with ⟨rfl, hl⟩ | ⟨g, cap, cur, rfl, hb, hh, _⟩
  · have : l = [] := List.eq_nil_of_length_eq_zero hl
    subst this
    exact ⟨0, 0, fun h => absurd h (by simp)⟩
  · refine ⟨g, cap, fun _ => ⟨rfl, hb, (Array.getElem?_eq_some_iff.1 hh).1, fun i hi => ?_⟩⟩
    obtain ⟨h1, h2⟩ := tksV_get l i hi
    exact ⟨by rw [World.ownsRow.cellAt h0 (i * 2) (by omega), h1], by rw [World.ownsRow.cellAt h0 (i * 2 + 1) (by omega), h2]⟩
end
section
set_option linter.unusedVariables false
open Go.RowKit Go.Lib

/-- a text without blanks and tabs at its ends -/
def cutT (T : List Nat) : ByteArray := ⟨(Lib.trimS (strT T).data.toList [32, 9]).toArray⟩
def tkOf (f : Fd) : Tk := (f.nm, cutT f.T)
/-- what Fields tells -/
def toldS (l : List Nat) : List Tk := (fieldsS l).map tkOf
def Bts (f : Fd) : Prop := (∀ c ∈ f.T, c < 256) ∧ ∀ c ∈ f.R, c < 256
def BtsS (s : List Fd × Option Fd) : Prop := (∀ f ∈ s.1, Bts f) ∧ ∀ f ∈ s.2, Bts f
theorem stepF_bts {s : List Fd × Option Fd} {wh tx : List Nat} (h : BtsS s) (h1 : ∀ c ∈ wh, c < 256) (h2 : ∀ c ∈ tx, c < 256) : BtsS (stepF s wh tx) := by
  unfold stepF
  split
  · refine ⟨h.1, fun f hf => ?_⟩
    simp only [Option.mem_def, Option.map_eq_some_iff] at hf
    obtain ⟨f0, h0, rfl⟩ := hf
    have hb := h.2 f0 h0
    exact ⟨fun c hc => by rcases List.mem_append.1 hc with h | h; exact hb.1 c h; exact h2 c h, fun c hc => by rcases List.mem_append.1 hc with h | h; exact hb.2 c h; exact h1 c h⟩
  · refine ⟨fun f hf => ?_, fun f hf => ?_⟩
    · rcases List.mem_append.1 hf with hf | hf
      · exact h.1 f hf
      · exact h.2 f (by simpa using hf)
    · simp only [Option.mem_def, Option.map_eq_some_iff] at hf
      obtain ⟨q, _, rfl⟩ := hf
      exact ⟨fun c hc => h2 c (List.mem_of_mem_drop hc), h1⟩
theorem runF_bts {l : List Nat} (hl : ∀ c ∈ l, c < 256) (xs : List (Nat × Nat × Nat)) : ∀ s, BtsS s → BtsS (runF l s xs) := by
  induction xs with
  | nil => intro s h; exact h
  | cons x xs ih => intro s h; exact ih _ (stepF_bts h (fun c hc => hl c (List.mem_of_mem_drop (List.mem_of_mem_take hc))) (fun c hc => hl c (List.mem_of_mem_drop (List.mem_of_mem_take hc))))
theorem fieldsS_bts {l : List Nat} (hl : ∀ c ∈ l, c < 256) : ∀ f ∈ fieldsS l, Bts f := by
  intro f hf
  have h := runF_bts hl (headF (linesP 0 l)) ([], none) ⟨by simp, by simp⟩
  rcases List.mem_append.1 hf with hf | hf
  · exact h.1 f hf
  · exact h.2 f (by simpa using hf)
theorem headF_len (xs : List (Nat × Nat × Nat)) : (headF xs).length ≤ xs.length := List.IsPrefix.length_le (List.takeWhile_prefix _)
theorem fieldsS_len (l : List Nat) : (fieldsS l).length ≤ l.length := by
  have h1 := runF_len l (headF (linesP 0 l)) ([], none)
  have h2 := headF_len (linesP 0 l)
  have h3 := (lines_in l.length 0 l (Nat.le_refl _)).1
  unfold fieldsS
  simp only [List.length_append]
  simp at h1
  omega
/-- all fields' texts together are no longer than the whole -/
def AllLe (N : Nat) (s : List Fd × Option Fd) : Prop := (∀ f ∈ s.1, f.T.length ≤ N ∧ f.R.length ≤ N) ∧ OpLe N s
theorem stepF_all {N M : Nat} {s : List Fd × Option Fd} {wh tx : List Nat} (h : AllLe N s) (h1 : wh.length ≤ M) (h2 : tx.length ≤ M) : AllLe (N + M) (stepF s wh tx) := by
  refine ⟨?_, stepF_le h.2 h1 h2⟩
  unfold stepF
  split
  · intro f hf
    have := h.1 f hf
    omega
  · intro f hf
    rcases List.mem_append.1 hf with hf | hf
    · have := h.1 f hf
      omega
    · have := h.2 f (by simpa using hf)
      omega
theorem runF_all (l : List Nat) (xs : List (Nat × Nat × Nat)) : ∀ (s : List Fd × Option Fd) (N : Nat), AllLe N s → AllLe (N + xs.length * l.length) (runF l s xs) := by
  induction xs with
  | nil => intro s N h; simpa [runF] using h
  | cons x xs ih =>
    intro s N h
    have h1 := ih (stepF s (lineW l x) (lineT l x)) (N + l.length) (stepF_all h (by simp [lineW]; omega) (by simp [lineT]; omega))
    rw [List.length_cons, Nat.add_mul, Nat.one_mul, show N + (xs.length * l.length + l.length) = N + l.length + xs.length * l.length by omega]
    exact h1
theorem fieldsS_le {l : List Nat} (hl : l.length ≤ 100000) : ∀ f ∈ fieldsS l, f.T.length ≤ 10000000000 ∧ f.R.length ≤ 10000000000 := by
  intro f hf
  have h := runF_all l (headF (linesP 0 l)) ([], none) 0 ⟨by simp, by intro f hf; simp at hf⟩
  have h2 := headF_len (linesP 0 l)
  have h3 := (lines_in l.length 0 l (Nat.le_refl _)).1
  have hmul : (headF (linesP 0 l)).length * l.length ≤ 100000 * 100000 := Nat.mul_le_mul (by omega) hl
  rcases List.mem_append.1 hf with hf | hf
  · have := h.1 f hf
    omega
  · have := h.2 f (by simpa using hf)
    omega
/-- the fields, one for each pointer, can be read -/
theorem fin2_read {W : World} {b E : Nat} : ∀ (fs : List Fd) (gs : List Nat), fin2 W b E fs gs → ∀ i (h : i < fs.length) (h' : i < gs.length), FinR W b W.heap.size gs[i] fs[i]
  | f :: fs, g :: gs, k, 0, _, _ => k.1.all.read
  | f :: fs, g :: gs, k, i + 1, h, h' => fin2_read fs gs k.2 i (by simpa using h) (by simpa using h')
  | [], _, _, i, h, _ => by simp at h
  | _ :: _, [], k, _, _, _ => k.elim
end
end Go.Proofs.YtnncldnpkfjhbaaGreatDoor
