/-
  The reference's Lines and Split.
-/
import Derived.Test.YtnncldnpkfjhbaaGreatDoorRefAMg
import Derived.Test.YtnncldnpkfjhbaaGreatDoorMg18
import Derived.Test.YtnncldnpkfjhbaaGreatDoorMg20
namespace Go.Proofs.YtnncldnpkfjhbaaGreatDoor
set_option linter.unusedVariables false
open Go.RowKit Go.Lib

theorem info22 : (Tryz.prog.info? 22).map (fun i => (i.zero, i.size, i.bytes)) = some (some (.slice none 0 0), 1, 24) := by kernel_rfl
/-- a line, as it lies in its text -/
def lineV (lb lo cap : Nat) (x : Nat × Nat × Nat) : Value := .slice (some ⟨lb, lo + x.1, none⟩) x.2.1 (cap - x.1)
/-- a row of lines -/
def OwnL (w : World) (B : Nat) (v : Value) (lb lo cap : Nat) (xs : List (Nat × Nat × Nat)) : Prop := w.ownsRow B 22 1 v xs.length (xs.map (lineV lb lo cap))
theorem OwnL.shape {w : World} {B : Nat} {v : Value} {lb lo cap : Nat} {xs : List (Nat × Nat × Nat)} (h : OwnL w B v lb lo cap xs) : ∃ a c, v = .slice a xs.length c := by
  rcases h.2 with ⟨hv, h0⟩ | ⟨g, cap, cur, hv, _⟩
  · exact ⟨none, 0, by rw [hv, h0]⟩
  · exact ⟨_, cap, hv⟩
theorem OwnL.ownLe {w : World} {B : Nat} {v : Value} {lb lo cap : Nat} {xs : List (Nat × Nat × Nat)} (h : OwnL w B v lb lo cap xs) : ∀ k, v.ownBlock = some k → B ≤ k := fun k hk => (World.ownsRow.lt h k hk).1
theorem OwnL.cells {w : World} {B : Nat} {a : Option Addr} {n c : Nat} {lb lo cap : Nat} {xs : List (Nat × Nat × Nat)} (h : OwnL w B (.slice a n c) lb lo cap xs) : ∃ g, ∀ i (hi : i < xs.length), a = some ⟨g, 0, none⟩ ∧ g < w.heap.size ∧ w.cell? ⟨g, i, none⟩ = some (lineV lb lo cap xs[i]) := by
  rcases h.2 with ⟨hv, h0⟩ | ⟨g, cp, cur, hv, hb, hh, h1, h2, h3, h4⟩
  · exact ⟨0, fun i hi => by omega⟩
  · simp only [Value.slice.injEq] at hv
    refine ⟨g, fun i hi => ⟨hv.1, (Array.getElem?_eq_some_iff.1 hh).1, ?_⟩⟩
    rw [cell_of_row w g i cur 22 _ hh]
    have : (cur.toList.take (xs.length * 1))[i]? = some (lineV lb lo cap xs[i]) := by rw [h4]; simp [hi]
    rw [List.getElem?_take_of_lt (by omega)] at this
    simpa using this
/-- 'append(out, line)' -/
theorem appL {ops : Array Oper} {rest : List Oper} {o : Oper} {a : Act} {Q : Exit → Act → World → Prop} (hgd : o.guard = none) (s x : Operand)
    (ho : o.op = .call { callee := .builtin .append, args := #[s, x], argTypes := #[72, 72] })
    {wr : World} {B : Nat} {v : Value} {lb lo cap : Nat} {xs : List (Nat × Nat × Nat)} {y : Nat × Nat × Nat} {u : Value} (hown : OwnL wr B v lb lo cap xs) (hB : B ≤ wr.heap.size) (hu : u = lineV lb lo cap y)
    (hs : a.eval s = v) (hx : a.eval x = .slice (some ⟨wr.heap.size, 0, none⟩) 1 1) (hlen : xs.length ≤ 1000000)
    (h : ∀ o' w2, OwnL w2 B o' lb lo cap (xs ++ [y]) → (wr.alloc (.cells #[u] 22)).grownBy w2 v.ownBlock → wpList Tryz.prog ops Q rest (a.put o.dst o') w2) :
    wpList Tryz.prog ops Q (o :: rest) a (wr.alloc (.cells #[u] 22)) := by
  obtain ⟨i0, hi, hz0, hz1, hz2⟩ := info_parts info22
  refine wpList_append_own _ hgd s x 72 ho B 22 i0 _ 1 24 Tryz.underlying72 hi hz0 hz1 hz2 rfl (by decide) v xs.length (xs.map (lineV lb lo cap)) hs (World.ownsRow.alloc hown _) ⟨wr.heap.size, 0, none⟩ 1 1 [u] hx rfl (one_new _ _ _) (by subst hu; simp [Value.oneCell', lineV]) (by unfold maxLen; omega) (by omega) (by simp; omega) ?_
  intro o' w2 ho' hgr _
  refine h o' w2 ?_ hgr
  subst hu
  unfold OwnL
  rw [List.map_append, List.length_append]
  exact ho'

theorem no_lf {r : List Nat} (h : ∀ c ∈ r, c ≠ 10) : aheadN 10 r = r.length := by
  induction r with
  | nil => rfl
  | cons y r ih =>
    have h1 := h y (List.mem_cons_self ..)
    have e2 : aheadN 10 (y :: r) = aheadN 10 r + 1 := by simp [aheadN, h1]
    rw [e2, ih fun c hc => h c (List.mem_cons_of_mem _ hc)]
    rfl
theorem lines_last {r : List Nat} (k : Nat) (hr : r ≠ []) (h : ∀ c ∈ r, c ≠ 10) : linesP k r = [(k, r.length, r.length)] := by
  have hw : wholeN r = r.length := by unfold wholeN; rw [no_lf h, if_neg (by omega)]
  have ht : textN r = r.length := by unfold textN; rw [no_lf h, if_neg (by omega)]
  rw [linesP_cons k hr, hw, ht, List.drop_length, linesP_nil]
theorem lines_next (l : List Nat) (at' k : Nat) (ha : at' ≤ k) (hk : k < l.length) (h10 : l[k] = 10) (hno : ∀ j (h : j < l.length), at' ≤ j → j < k → l[j] ≠ 10) :
    ∃ t, linesP at' (l.drop at') = (at', k + 1 - at', t) :: linesP (k + 1) (l.drop (k + 1)) := by
  have hr : l.drop at' ≠ [] := by intro e; have := congrArg List.length e; simp at this; omega
  have ha' : aheadN 10 (l.drop at') = k - at' := by
    apply aheadN_at 10 (l.drop at') (k - at') (by simp; omega)
    · rw [List.getElem_drop]
      have : at' + (k - at') = k := by omega
      simp only [this, h10]
    · intro i hi h2
      rw [List.getElem_drop]
      exact hno _ (by simp at hi; omega) (by omega) (by omega)
  have hw : wholeN (l.drop at') = k + 1 - at' := by unfold wholeN; rw [ha', if_pos (by simp; omega)]; omega
  refine ⟨textN (l.drop at'), ?_⟩
  rw [linesP_cons at' hr, hw, List.drop_drop]
  have : at' + (k + 1 - at') = k + 1 := by omega
  rw [this]

set_option maxRecDepth 100000 in
set_option maxHeartbeats 2000000 in
theorem rlines_any (a : Option Addr) (lb lo cap : Nat) (l : List Nat) (w : World) (ha : l ≠ [] → a = some ⟨lb, lo, none⟩) (hlb : l ≠ [] → lb < w.heap.size) (hc : CellsL w lb lo l) (hlc : l.length ≤ cap) (hm : cap ≤ maxLen) (hl : l.length ≤ 100000) :
    Calls Tryz.prog 33 #[.slice a l.length cap] w fun e w' => ∃ o, e = .returned o ∧ OwnL w' w.heap.size o lb lo cap (linesP 0 l) ∧ Below w.heap.size w w' := by
  unfold maxLen at hm
  have HA := Lib.hid ha
  have HLB := Lib.hid hlb
  have HC := Lib.hid hc
  clear ha hlb hc
  go_enter Tryz.func33, Tryz.ntmps33
  go_wp2_with fail
  go_loopw [3, 4, 5] (fun out at' i wr => ∃ (k t : Nat) (D : List (Nat × Nat × Nat)) (oa : Option Addr) (oc : Nat), k ≤ l.length ∧ t ≤ k ∧ i = .int .i64 k ∧ at' = .int .i64 t ∧ out = .slice oa D.length oc ∧ D.length ≤ t ∧ OwnL wr w.heap.size out lb lo cap D ∧ Hid (linesP 0 l = D ++ linesP t (l.drop t) ∧ ∀ j (h : j < l.length), t ≤ j → j < k → l[j] ≠ 10) ∧ Below w.heap.size w wr) (fun _ _ i _ => l.length - (RowKit.intOf i).toNat)
  case atStart => exact ⟨0, 0, [], none, 0, Nat.zero_le _, Nat.le_refl _, rfl, rfl, rfl, Nat.le_refl _, World.ownsRow_nil _ _ _ _, Lib.hid ⟨by simp, fun j _ h1 h2 => by omega⟩, Below.refl _ _⟩
  case round =>
    obtain ⟨k, t, D, oa, oc, hk, htk, rfl, rfl, rfl, hDt, hown, hinv, hbel⟩ := hrel
    have hsz := hbel.size
    by_cases hkl : k < l.length
    · have hne : l ≠ [] := by intro e; subst e; simp at hkl
      obtain rfl := HA.out hne
      have hcell := (hbel.cell (p := ⟨lb, lo + k, none⟩) (HLB.out hne)).trans (HC.out k hkl)
      have hki : (k : Int) < (l.length : Int) := by omega
      have HOWN := Lib.hid hown
      have HBEL := Lib.hid hbel
      clear hown hbel
      by_cases h10 : l[k] = 10
      · obtain ⟨tt, hnx⟩ := lines_next l t k htk hkl h10 hinv.out.2
        have HNX : Hid (linesP 0 l = (D ++ [(t, k + 1 - t, tt)]) ++ linesP (k + 1) (l.drop (k + 1)) ∧ ∀ j (h : j < l.length), k + 1 ≤ j → j < k + 1 → l[j] ≠ 10) := Lib.hid ⟨by rw [hinv.out.1, hnx]; simp, fun j _ h1 h2 => by omega⟩
        rw [h10] at hcell
        clear hinv hnx h10 hne
        have htc : t < cap := by omega
        have htc2 : ¬ cap = t := by omega
        have hti : (t : Int) ≤ (k : Int) + 1 := by omega
        go_wp2_with (at_builtin; go_loud (refine appL rfl (.tmp 17) (.tmp 23) rfl HOWN.out hsz (y := (t, k + 1 - t, tt)) rfl rfl rfl (by omega) ?_); intro o4 w4 ho4 hg4)
        have HB4 := Lib.hid ((HBEL.out.alloc hsz (.cells #[lineV lb lo cap (t, k + 1 - t, tt)] 22)).grown hg4 (by simp; omega) (fun j e => OwnL.ownLe HOWN.out j e))
        obtain ⟨a5, c5, e5⟩ := ho4.shape
        have hDl : (D ++ [(t, k + 1 - t, tt)]).length ≤ k + 1 := by simp; omega
        have HO4 := Lib.hid ho4
        have HDL := Lib.hid hDl
        subst e5
        clear ho4 hg4 hDl
        go_roundw
        case rel => exact ⟨k + 1, k + 1, D ++ [(t, k + 1 - t, tt)], a5, c5, by omega, Nat.le_refl _, by go_num, by go_num, rfl, HDL.out, HO4.out, HNX, HB4.out⟩
        case measure => simp [RowKit.intOf]; omega
      · have g1 : ((l[k] : Int) == 10) = false := beq_false_of_ne (by omega)
        have HNX : Hid (linesP 0 l = D ++ linesP t (l.drop t) ∧ ∀ j (h : j < l.length), t ≤ j → j < k + 1 → l[j] ≠ 10) := Lib.hid ⟨hinv.out.1, fun j h h1 h2 => by
          rcases Nat.lt_or_ge j k with h3 | h3
          · exact hinv.out.2 j h h1 h3
          · obtain rfl : j = k := by omega
            exact h10⟩
        clear hinv h10 hne
        generalize l[k] = d at *
        go_wp2_with fail
        go_roundw
        case rel => exact ⟨k + 1, t, D, oa, oc, by omega, by omega, by go_num, rfl, rfl, hDt, HOWN.out, HNX, HBEL.out⟩
        case measure => simp [RowKit.intOf]; omega
    · obtain rfl : k = l.length := by omega
      by_cases htl : t < l.length
      · have hne : l ≠ [] := by intro e; subst e; simp at htl
        obtain rfl := HA.out hne
        have hdn : l.drop t ≠ [] := by intro e; have := congrArg List.length e; simp at this; omega
        have hlast := lines_last t hdn (fun c hc => by
          obtain ⟨j, hj, rfl⟩ := List.mem_iff_getElem.1 hc
          rw [List.getElem_drop]
          simp at hj
          exact hinv.out.2 _ (by omega) (by omega) (by omega))
        have HNX : Hid (linesP 0 l = D ++ [(t, l.length - t, l.length - t)]) := Lib.hid (by rw [hinv.out.1, hlast]; simp)
        have hti : (t : Int) < (l.length : Int) := by omega
        have htc : t < cap := by omega
        have htc2 : ¬ cap = t := by omega
        have HOWN := Lib.hid hown
        have HBEL := Lib.hid hbel
        clear hown hbel hinv hdn hlast hne
        go_wp2_with (at_builtin; go_loud (refine appL rfl (.tmp 31) (.tmp 35) rfl HOWN.out hsz (y := (t, l.length - t, l.length - t)) rfl rfl rfl (by omega) ?_); intro o4 w4 ho4 hg4)
        go_ret
        refine ⟨_, rfl, ?_, (HBEL.out.alloc hsz _).grown hg4 (by simp; omega) (fun j e => OwnL.ownLe HOWN.out j e)⟩
        rw [HNX.out]
        exact ho4
      · obtain rfl : t = l.length := by omega
        have HNX : Hid (linesP 0 l = D) := Lib.hid (by rw [hinv.out.1, List.drop_length, linesP_nil, List.append_nil])
        have HOWN := Lib.hid hown
        clear hown hinv
        go_wp2_with fail
        go_ret
        refine ⟨_, rfl, ?_, hbel⟩
        rw [HNX.out]
        exact HOWN.out

theorem line_bare {r : List Nat} (hr : r ≠ []) : bareN (r.take (wholeN r)) = textN r ∧ (textN r = 0 → endedB (r.take (wholeN r)) = true) := by
  by_cases h : aheadN 10 r < r.length
  · have hw : wholeN r = aheadN 10 r + 1 := by unfold wholeN; rw [if_pos h]
    have ht : textN r = trimN (r.take (aheadN 10 r)) := by unfold textN; rw [if_pos h]
    have e : r.take (aheadN 10 r + 1) = r.take (aheadN 10 r) ++ [10] := by
      rw [List.take_succ_eq_append_getElem h, aheadN_get 10 r h]
    rw [hw, e, ht]
    exact ⟨by simp [bareN], fun _ => by simp [endedB]⟩
  · have hw : wholeN r = r.length := by unfold wholeN; rw [if_neg h]
    have ht : textN r = r.length := by unfold textN; rw [if_neg h]
    have hpos := List.length_pos_iff.2 hr
    rw [hw, List.take_of_length_le (Nat.le_refl _), ht]
    refine ⟨?_, fun h0 => by omega⟩
    unfold bareN
    rw [if_neg]
    intro h2
    obtain ⟨y, d, rfl⟩ := snoc_of hr
    simp at h2
    subst h2
    exact h (by
      have : aheadN 10 (y ++ [10]) ≤ y.length := by
        clear h hw ht hpos hr
        induction y with
        | nil => simp [aheadN]
        | cons c y ih =>
          by_cases hc : c = 10
          · subst hc; simp [aheadN]
          · have e2 : aheadN 10 (c :: y ++ [10]) = aheadN 10 (y ++ [10]) + 1 := by simp [aheadN, hc]
            rw [e2]
            simp
            exact ih
      simp
      omega)
theorem lines_bare (n : Nat) : ∀ (k : Nat) (l : List Nat), l.length - k ≤ n → ∀ x ∈ linesP k (l.drop k), bareN (lineW l x) = x.2.2 ∧ (x.2.2 = 0 → endedB (lineW l x) = true) ∧ (lineW l x).length = x.2.1 ∧ 0 < x.2.1 ∧ x.1 + x.2.1 ≤ l.length := by
  induction n with
  | zero =>
    intro k l h x hx
    have : l.drop k = [] := List.drop_eq_nil_of_le (by omega)
    rw [this, linesP_nil] at hx
    cases hx
  | succ n ih =>
    intro k l h x hx
    by_cases hr : l.drop k = []
    · rw [hr, linesP_nil] at hx
      cases hx
    · rw [linesP_cons k hr] at hx
      have h1 := wholeN_pos hr
      have h2 := wholeN_le (l.drop k)
      rcases List.mem_cons.1 hx with rfl | hx
      · obtain ⟨e1, e2⟩ := line_bare hr
        simp at h2
        exact ⟨e1, e2, by simp [lineW]; omega, h1, by simp only; omega⟩
      · rw [List.drop_drop] at hx
        exact ih _ l (by omega) x hx
theorem lines_ok {l : List Nat} {x : Nat × Nat × Nat} (hx : x ∈ linesP 0 l) : bareN (lineW l x) = x.2.2 ∧ (x.2.2 = 0 → endedB (lineW l x) = true) ∧ (lineW l x).length = x.2.1 ∧ 0 < x.2.1 ∧ x.1 + x.2.1 ≤ l.length := by
  have := lines_bare l.length 0 l (by omega) x
  rw [List.drop_zero] at this
  exact this hx
theorem sumW_snoc (xs : List (Nat × Nat × Nat)) (k : Nat) (h : k < xs.length) : sumW (xs.take (k + 1)) = sumW (xs.take k) + xs[k].2.1 := by
  rw [List.take_succ_eq_append_getElem h, sumW_append]
  rfl
theorem sumW_take (xs : List (Nat × Nat × Nat)) (k : Nat) : sumW (xs.take k) ≤ sumW xs := sumW_prefix (List.take_prefix k xs)
theorem cells_line {W : World} {lb lo : Nat} {l : List Nat} (h : CellsL W lb lo l) (x : Nat × Nat × Nat) : CellsL W lb (lo + x.1) (lineW l x) := (h.drop x.1).take x.2.1

structure wholeLine (l : List Nat) (x : Nat × Nat × Nat) : Prop where
  b : bareN (lineW l x) = x.2.2
  e : x.2.2 = 0 → endedB (lineW l x) = true
  n : (lineW l x).length = x.2.1
set_option maxRecDepth 100000 in
set_option maxHeartbeats 2000000 in
theorem rsplit_any (a : Option Addr) (lb lo cap : Nat) (l : List Nat) (w : World) (ha : l ≠ [] → a = some ⟨lb, lo, none⟩) (hlb : l ≠ [] → lb < w.heap.size) (hc : CellsL w lb lo l) (hlc : l.length ≤ cap) (hm : cap ≤ maxLen) (hl : l.length ≤ 100000) :
    Calls Tryz.prog 34 #[.slice a l.length cap] w fun e w' => e = .returned (.int .i64 (splitS l : Nat)) ∧ Below w.heap.size w w' := by
  have HLN := Lib.hid (rlines_any a lb lo cap l w ha hlb hc hlc hm hl)
  have HLB := Lib.hid hlb
  have HC := Lib.hid hc
  clear ha hlb hc
  go_enter Tryz.func34, Tryz.ntmps34
  go_wp2_with fail
  refine HLN.out.mono ?_
  rintro e w1 ⟨vo, rfl, ho, hb1⟩
  obtain ⟨oa, oc, rfl⟩ := ho.shape
  obtain ⟨g, hcl⟩ := ho.cells
  have hsum := sumW_lines l.length 0 l (Nat.le_refl _)
  have hxb := (lines_in l.length 0 l (Nat.le_refl _)).1
  have HOK := Lib.hid (fun x (hx : x ∈ linesP 0 l) => lines_ok hx)
  have hSS : splitS l = splitL (linesP 0 l) := rfl
  have HSS := Lib.hid hSS
  generalize linesP 0 l = xs at *
  have HCL := Lib.hid hcl
  have HB1 := Lib.hid hb1
  have HSUM := Lib.hid hsum
  have hs1 := hb1.size
  clear ho hcl hb1 hsum hSS
  go_wp2_with fail
  go_loopw [4, 5] (fun at' i wr => ∃ k : Nat, k ≤ xs.length ∧ i = .int .i64 k ∧ at' = .int .i64 (sumW (xs.take k) : Nat) ∧ Hid (∀ x ∈ xs.take k, x.2.2 ≠ 0) ∧ w1 = wr) (fun _ i _ => xs.length - (RowKit.intOf i).toNat)
  case atStart => exact ⟨0, Nat.zero_le _, rfl, rfl, Lib.hid (by simp), rfl⟩
  case round =>
    obtain ⟨k, hk, rfl, rfl, hne, rfl⟩ := hrel
    have hst := sumW_take xs k
    by_cases hkl : k < xs.length
    · obtain ⟨rfl, hg, hcell⟩ := HCL.out k hkl
      obtain ⟨ok1, ok2, ok3, ok4, ok5⟩ := HOK.out _ (List.getElem_mem hkl)
      have hsn := sumW_snoc xs k hkl
      have hst2 := sumW_take xs (k + 1)
      have hlne : l ≠ [] := by intro e; subst e; simp at ok5; omega
      have hcw := cells_line (HC.out.kept HB1.out (fun h => HLB.out h)) xs[k]
      have hki : (k : Int) < (xs.length : Int) := by omega
      have hsp : ∀ (h : xs[k].2.2 = 0), splitS l = sumW (xs.take (k + 1)) := fun h => by
        rw [HSS.out]
        have e1 : xs = xs.take k ++ xs[k] :: xs.drop (k + 1) := by rw [← List.drop_eq_getElem_cons hkl, List.take_append_drop]
        conv => lhs; rw [e1]
        rw [splitL_stop hne.out h, List.take_succ_eq_append_getElem hkl]
      have hnx : ∀ (h : xs[k].2.2 ≠ 0), ∀ x ∈ xs.take (k + 1), x.2.2 ≠ 0 := fun h x hx => by
        rw [List.take_succ_eq_append_getElem hkl] at hx
        rcases List.mem_append.1 hx with h2 | h2
        · exact hne.out x h2
        · obtain rfl := List.mem_singleton.1 h2
          exact h
      have hwb : wholeLine l xs[k] := ⟨ok1, ok2, ok3⟩
      have HS1 := HSUM.out
      have HSP := Lib.hid hsp
      have HNX := Lib.hid hnx
      have HCW := Lib.hid hcw
      have HSN := Lib.hid hsn
      unfold lineV at hcell
      clear hsp hnx hcw hne ok1 ok2 ok3 hsn
      generalize xs[k] = x at *
      obtain ⟨s, c, m⟩ := x
      simp only at hcell ok4 ok5 hst2 HCW HSN HSP HNX
      obtain ⟨wh, hwh⟩ : ∃ wh, lineW l (s, c, m) = wh := ⟨_, rfl⟩
      obtain ⟨ok1, ok2, ok3⟩ := hwb
      rw [hwh] at ok1 ok2 ok3 HCW
      simp only at ok1 ok2 ok3
      subst ok3
      have hen := ended_any (some ⟨lb, lo + s, none⟩) lb (lo + s) (cap - s) wh w1 (fun _ => rfl) HCW.out (by omega)
      have hba := bare_any lb (lo + s) (cap - s) wh w1 (List.length_pos_iff.1 ok4) HCW.out (by omega) (by omega)
      rw [ok1] at hba
      have HEN := Lib.hid hen
      have HBA := Lib.hid hba
      have HO2 := Lib.hid ok2
      clear hen hba ok1 ok2 hwh
      by_cases hm0 : m = 0
      · have HSPL := Lib.hid (HSP.out hm0)
        rw [HO2.out hm0] at HEN
        subst hm0
        go_wp2_with (first | (go_at_call 36; refine HEN.out.mono ?_; rintro e w2 ⟨rfl, rfl⟩) | (go_at_call 35; refine HBA.out.mono ?_; rintro e w2 ⟨rfl, rfl⟩))
        go_ret
        exact ⟨ret_eq (by rw [HSPL.out, HSN.out]; go_num), HB1.out⟩
      · have gm : ((m : Int) == 0) = false := beq_false_of_ne (by omega)
        have HNX2 := Lib.hid (HNX.out hm0)
        cases hen : endedB wh
        · rw [hen] at HEN
          clear hen
          go_wp2_with (first | (go_at_call 36; refine HEN.out.mono ?_; rintro e w2 ⟨rfl, rfl⟩) | (go_at_call 35; refine HBA.out.mono ?_; rintro e w2 ⟨rfl, rfl⟩))
          go_roundw
          case rel => exact ⟨k + 1, by omega, by go_num, by rw [HSN.out]; go_num, HNX2, by first | rfl | trivial⟩
          case measure => simp [RowKit.intOf]; omega
        · rw [hen] at HEN
          clear hen
          go_wp2_with (first | (go_at_call 36; refine HEN.out.mono ?_; rintro e w2 ⟨rfl, rfl⟩) | (go_at_call 35; refine HBA.out.mono ?_; rintro e w2 ⟨rfl, rfl⟩))
          go_roundw
          case rel => exact ⟨k + 1, by omega, by go_num, by rw [HSN.out]; go_num, HNX2, by first | rfl | trivial⟩
          case measure => simp [RowKit.intOf]; omega
    · obtain rfl : k = xs.length := by omega
      have hne2 := hne.out
      rw [List.take_length] at hne2
      have HF : Hid (splitS l = l.length) := Lib.hid (by rw [HSS.out, splitL_all hne2, HSUM.out])
      clear hne hne2
      go_wp2_with fail
      go_ret
      exact ⟨ret_eq (by rw [HF.out]; rfl), HB1.out⟩
end Go.Proofs.YtnncldnpkfjhbaaGreatDoor
