/-
  Rows of numbers: Own, Kept, Plain.
-/
import Derived.Test.YtgdfobhhkfplbaaRCrash
namespace Go.Proofs.Ytgdfobhhkfplbaa
set_option linter.unusedVariables false
open Go.RowKit

theorem Try.info3 : (Try.prog.info? 3).map (fun i => (i.zero, i.size, i.bytes)) = some (some (.int .i64 0), 1, 8) := by kernel_rfl
/-- the values of a list of numbers, as bytes -/
def i64s (l : List Int) : List Value := l.map (fun (n : Int) => Value.int .i64 n)
@[simp] theorem i64s_length (l : List Int) : (i64s l).length = l.length := by simp [i64s]
theorem i64s_append (l m : List Int) : i64s (l ++ m) = i64s l ++ i64s m := by simp [i64s]
theorem i64s_get (l : List Int) (j : Nat) (h : j < l.length) : (i64s l)[j]? = some (.int .i64 (l[j] : Int)) := by simp [i64s, h]
theorem i64s_set (l : List Int) (j n : Nat) : i64s (l.set j n) = (i64s l).set j (.int .i64 n) := by simp [i64s, List.map_set]

/-- v is a row of bytes that the call itself has made (from block B on), and these are they. -/
def OwnI (w : World) (B : Nat) (v : Value) (l : List Int) : Prop := w.ownsRow B 3 1 v l.length (i64s l)

theorem OwnI.some {w : World} {B : Nat} {v : Value} {l : List Int} (h : OwnI w B v l) (hn : 0 < l.length) :
    ∃ g cap, v = .slice (some ⟨g, 0, none⟩) l.length cap ∧ B ≤ g ∧ g < w.heap.size := by
  rcases h.2 with ⟨_, h0⟩ | ⟨g, cap, cur, hv, hb, hh, _⟩
  · omega
  · exact ⟨g, cap, hv, hb, (Array.getElem?_eq_some_iff.1 hh).1⟩

theorem OwnI.cell {w : World} {B g n cap : Nat} {l : List Int} (h : OwnI w B (.slice (Option.some ⟨g, 0, none⟩) n cap) l) (hn : n = l.length) (j : Nat) (hj : j < l.length) : w.cell? ⟨g, j, none⟩ = Option.some (.int .i64 (l[j] : Int)) := by
  subst hn
  rw [World.ownsRow.cellAt h j (by simpa using hj), i64s_get _ _ hj]

theorem OwnI.free {w : World} {B g n cap : Nat} {l : List Int} (h : OwnI w B (.slice (Option.some ⟨g, 0, none⟩) n cap) l) (hn : n = l.length) (j : Nat) : w.frozen? ⟨g, j, none⟩ = false := by
  subst hn
  exact World.ownsRow.frozenAt h j

theorem OwnI.set {w : World} {B g n cap : Nat} {l : List Int} (h : OwnI w B (.slice (Option.some ⟨g, 0, none⟩) n cap) l) (hn : n = l.length) (j c : Nat) : OwnI (w.setCell ⟨g, j, none⟩ (.int .i64 (c : Int))) B (.slice (Option.some ⟨g, 0, none⟩) n cap) (l.set j c) := by
  subst hn
  unfold OwnI
  rw [List.length_set, i64s_set]
  exact (World.ownsRow.stored h j _).1

theorem OwnI.keep {w w' : World} {B : Nat} {v : Value} {l : List Int} (h : OwnI w B v l) {S : Nat} (hb : Below S w w') (hs : ∀ k, v.ownBlock = Option.some k → k < S) : OwnI w' B v l := by
  refine ⟨h.1, ?_⟩
  rcases h.2 with h2 | ⟨g, cap, cur, rfl, hg, hh, r⟩
  · exact .inl h2
  · exact .inr ⟨g, cap, cur, rfl, hg, by rw [hb.block g (hs g rfl)]; exact hh, r⟩

/-- v is a slice of bytes, wherever it lies, and these are they. -/
def RowI (w : World) (v : Value) (l : List Int) : Prop :=
  ∃ a len cap, v = .slice a len cap ∧ l.length = len ∧ len ≤ cap ∧ cap ≤ maxLen ∧ (∀ n ∈ l, n = n) ∧ (a = none → len = 0 ∧ cap = 0) ∧ ∀ x, a = some x → ∀ i, (h : i < l.length) → w.cell? (x.add i) = some (.int .i64 (l[i] : Int))

theorem rowI_nil (w : World) : RowI w (.slice none 0 0) [] := ⟨none, 0, 0, rfl, rfl, Nat.le_refl _, by decide, by simp, fun _ => ⟨rfl, rfl⟩, by simp⟩

theorem RowI.below {w w1 : World} {v : Value} {l : List Int} (h : RowI w v l) (hb : Below w.heap.size w w1) : RowI w1 v l := by
  obtain ⟨a, len, cap, e, hl, hc, hm, hw, hn, hcell⟩ := h
  refine ⟨a, len, cap, e, hl, hc, hm, hw, hn, fun x hx i hi => ?_⟩
  have h1 := hcell x hx i hi
  rw [hb.cell (World.block_lt_of_cell? w _ h1)]
  exact h1

theorem RowI.shape {w : World} {v : Value} {l : List Int} (h : RowI w v l) :
    (l = [] ∧ ∃ a cap, v = .slice a 0 cap ∧ cap ≤ maxLen) ∨
    ∃ b off cap, v = .slice (some ⟨b, off, none⟩) l.length cap ∧ 0 < l.length ∧ l.length ≤ cap ∧ cap ≤ maxLen ∧ ∀ i, (h : i < l.length) → w.cell? ⟨b, off + i, none⟩ = some (.int .i64 (l[i] : Int)) := by
  obtain ⟨a, len, cap, e, hl, hc, hm, hw, hn, hcell⟩ := h
  by_cases h0 : l.length = 0
  · left
    exact ⟨List.eq_nil_of_length_eq_zero h0, a, cap, by rw [e, ← hl, h0], hm⟩
  · right
    cases a with
    | none => have := hn rfl; omega
    | some x =>
      obtain ⟨b, off, spot⟩ := x
      have hc0 := hcell _ rfl 0 (by omega)
      have hspot : spot = none := by simpa [Addr.add] using World.cell?_spot hc0
      subst hspot
      refine ⟨b, off, cap, by rw [e, ← hl], by omega, by omega, hm, fun i hi => ?_⟩
      have := hcell _ rfl i hi
      rwa [Addr.add_lit] at this

/-- 'x == y' of two bytes -/
theorem eqI_any (x y : Int) (w : World) : Calls Try.prog 45 #[.int .i64 x, .int .i64 y] w fun e w' => e = .returned (.bool (x == y)) ∧ w' = w := by
  go_enter Try.func45, Try.ntmps45
  go_wp2_with fail
  go_ret
  exact ⟨rfl, rfl⟩

theorem take_sameI {la lb : List Int} {k : Nat} (h : la.length = lb.length) (hk : k < la.length) (ht : la.take k = lb.take k) : (la.take (k + 1) = lb.take (k + 1)) ↔ la[k] = lb[k]'(by omega) := by
  rw [List.take_succ_eq_append_getElem hk, List.take_succ_eq_append_getElem (show k < lb.length by omega), ht, List.append_cancel_left_eq]
  simp

theorem sameI_any {va vb : Value} {la lb : List Int} {w : World} (ha : RowI w va la) (hb : RowI w vb lb) :
    Calls Try.prog 44 #[va, vb, .func (.func 45) #[] #[]] w fun e w' => e = .returned (.bool (decide (la = lb))) ∧ Still w w' := by
  obtain ⟨aa, len, capa, rfl, hla, hca, hma, -⟩ := id ha
  obtain ⟨ab, lenb, capb, rfl, hlb, hcb, hmb, -⟩ := id hb
  by_cases hlen : len = lenb
  · subst hlen
    have hml : len ≤ maxLen := by omega
    unfold maxLen at hml
    rcases ha.shape with ⟨rfl, _⟩ | ⟨ba, oa, ca, e1, h1, h2, h3, cella⟩
    · obtain rfl : len = 0 := by simpa using hla.symm
      obtain rfl : lb = [] := List.eq_nil_of_length_eq_zero hlb
      go_enter Try.func44, Try.ntmps44
      go_wp2_with fail
      refine wp_loop_rounds 1 ?_
      rw [rounds_succ]
      go_wp2_with fail
      go_ret
      exact ⟨rfl, Still.refl _⟩
    · rcases hb.shape with ⟨rfl, _⟩ | ⟨bb, ob, cb, e2, k1, k2, k3, cellb⟩
      · simp at hlb; omega
      · simp at e1 e2
        obtain ⟨rfl, rfl, rfl⟩ := e1
        obtain ⟨rfl, -, rfl⟩ := e2
        have Hlb := Lib.hid hlb
        have Cella := Lib.hid cella
        have Cellb := Lib.hid cellb
        clear ha hb cella cellb hlb hla
        go_enter Try.func44, Try.ntmps44
        go_wp2_with fail
        go_loopw [7] (fun i wr => ∃ k : Nat, k ≤ la.length ∧ i = .int .i64 k ∧ Hid (la.take k = lb.take k) ∧ Still w wr) (fun i _ => la.length - (intOf i).toNat)
        case atStart => exact ⟨0, Nat.zero_le _, rfl, Lib.hid rfl, Still.refl _⟩
        case round =>
          obtain ⟨k, hk, rfl, ht, hst⟩ := hrel
          by_cases hka : k < la.length
          · have hkb : k < lb.length := by rw [Hlb.out]; exact hka
            have c1 : wr.cell? ⟨ba, oa + k, none⟩ = some (.int .i64 (la[k] : Int)) := (hst.cell _).trans (Cella.out k hka)
            have c2 : wr.cell? ⟨bb, ob + k, none⟩ = some (.int .i64 (lb[k] : Int)) := (hst.cell _).trans (Cellb.out k hkb)
            by_cases he : la[k] = lb[k]
            · have Ht := Lib.hid ((take_sameI Hlb.out.symm hka ht.out).2 he)
              have hb1 : (la[k] : Int) == (lb[k] : Int) := by simp [he]
              clear he
              go_wp2_with fail
              go_quiet ((go_at_call 45; exact Calls.quiet_of_same (eqI_any _ _ _)))
              go_wp2_with fail
              go_roundw
              case rel => exact ⟨k + 1, by omega, by go_num, Ht, hst.drewN _⟩
              case measure => simp [intOf]; omega
            · have hne : Hid (¬ la = lb) := by
                intro h
                subst h
                exact he rfl
              have hb1 : ((la[k] : Int) == (lb[k] : Int)) = false := by simp; omega
              clear he
              go_wp2_with fail
              go_quiet ((go_at_call 45; exact Calls.quiet_of_same (eqI_any _ _ _)))
              go_wp2_with fail
              go_ret
              exact ⟨ret_eq (by simp [hne.out]), hst.drewN _⟩
          · obtain rfl : k = la.length := by omega
            have heq : Hid (la = lb) := by
              have := ht.out
              rwa [List.take_of_length_le (Nat.le_refl _), List.take_of_length_le (by rw [Hlb.out]; exact Nat.le_refl _)] at this
            go_wp2_with fail
            go_ret
            exact ⟨ret_eq (by simp [heq.out]), hst⟩
  · have hne : ¬ la = lb := by
      intro h
      subst h
      omega
    have Hne := Lib.hid hne
    clear hne
    have hd : ((len : Int) == (lenb : Int)) = false := by simp; omega
    go_enter Try.func44, Try.ntmps44
    go_wp2_with fail
    go_ret
    exact ⟨ret_eq (by simp [Hne.out]), Still.refl _⟩

theorem plainI_any {va vb : Value} {la lb : List Int} {w : World} (ha : RowI w va la) (hb : RowI w vb lb) :
    Calls Try.prog 39 #[va, vb] w fun e w' => e = .returned (.bool (decide (la = lb))) ∧ Still w w' := by
  go_enter Try.func39, Try.ntmps39
  go_wp2_with fail
  refine (sameI_any ha hb).mono ?_
  rintro e w1 ⟨rfl, hst⟩
  go_wp2_with fail
  go_ret
  exact ⟨rfl, hst⟩
theorem ownsRow_wholeI {w : World} {B g n cap : Nat} {xs : List Value} (h : w.ownsRow B 3 1 (.slice (some ⟨g, 0, none⟩) n cap) n xs) :
    ∃ ys, ys.length = cap ∧ ys.take n = xs ∧ n ≤ cap ∧ cap ≤ maxLen ∧ B ≤ g ∧ g < w.heap.size ∧ w.ownsRow B 3 1 (.slice (some ⟨g, 0, none⟩) cap cap) cap ys := by
  rcases h.2 with ⟨h', _⟩ | ⟨g', cap', cur, h', hb, hg, hn, hm, hs, ht⟩
  · simp at h'
  · simp only [Value.slice.injEq, Option.some.injEq, Addr.mk.injEq, and_true, true_and] at h'
    obtain ⟨rfl, rfl⟩ := h'
    have hl : cur.toList.length = cap := by simpa using hs
    refine ⟨cur.toList, hl, by simpa using ht, hn, hm, hb, (Array.getElem?_eq_some_iff.1 hg).1, by simpa using hl, .inr ⟨g, cap, cur, rfl, hb, hg, Nat.le_refl _, hm, hs, ?_⟩⟩
    rw [List.take_of_length_le (by omega)]

/-- a copy of its own, with what stands in the room behind it -/
def OwnG (w : World) (B : Nat) (v : Value) (l more : List Int) : Prop :=
  ∃ g, v = .slice (some ⟨g, 0, none⟩) l.length (l.length + more.length) ∧ OwnI w B (.slice (some ⟨g, 0, none⟩) (l.length + more.length) (l.length + more.length)) (l ++ more) ∧ B ≤ g ∧ g < w.heap.size ∧ l.length + more.length ≤ maxLen

/-- behind k rounds of Own's loop -/
def FilledI (w : World) (B g c n : Nat) (l : List Int) : Prop :=
  ∃ ys, ys.length = c ∧ ys.take n = i64s l ∧ w.ownsRow B 3 1 (.slice (some ⟨g, 0, none⟩) c c) c ys

theorem FilledI.step {w : World} {B g c n : Nat} {l : List Int} {f : Int} (h : FilledI w B g c n l) (hn : n < c) (hl : l.length = n) : FilledI (w.setCell ⟨g, n, none⟩ (.int .i64 (f : Int))) B g c (n + 1) (l ++ [f]) := by
  obtain ⟨ys, hy, ht, ho⟩ := h
  refine ⟨ys.set n (.int .i64 (f : Int)), by simpa using hy, ?_, (ho.stored n _).1⟩
  rw [List.take_set, List.take_succ_eq_append_getElem (by omega), ht, i64s_append]
  rw [List.set_append_right _ _ (by simp; omega)]
  simp [i64s, hl]

theorem FilledI.free {w : World} {B g c n : Nat} {l : List Int} (h : FilledI w B g c n l) (j : Nat) : w.frozen? ⟨g, j, none⟩ = false := by
  obtain ⟨ys, hy, ht, ho⟩ := h
  exact ho.frozenAt j
theorem FilledI.cell {w : World} {B g c n : Nat} {l : List Int} (h : FilledI w B g c n l) (j : Nat) (hj : j < c) : ∃ u, w.cell? ⟨g, j, none⟩ = some u := by
  obtain ⟨ys, hy, ht, ho⟩ := h
  exact ⟨ys[j]'(by omega), by rw [ho.cellAt j (by omega)]; simp [hy, hj]⟩
theorem FilledI.done {w : World} {B g c : Nat} {l : List Int} (h : FilledI w B g c c l) (hc : c = l.length) : OwnI w B (.slice (some ⟨g, 0, none⟩) c c) l := by
  obtain ⟨ys, hy, ht, ho⟩ := h
  rw [List.take_of_length_le (by omega)] at ht
  subst hc
  subst ht
  exact ho

set_option maxHeartbeats 400000 in
theorem ownI_any (v : Value) (l : List Int) (w : World) (f : Int) (hr : RowI w v l) (hs : l.length ≤ 17592186043904) :
    Calls Try.prog 17 #[v, .int .i64 f] w fun e w' => ∃ o, e = .returned o ∧ OwnG w' w.heap.size o l [f, f, f] ∧ Below w.heap.size w w' := by
  obtain ⟨i0, hi, hz0, hz1, hz2⟩ := info_parts Try.info3
  obtain ⟨a, len, cap, rfl, hl, hc, hm, hw, hn, hcell⟩ := hr
  have hsl : len ≤ 17592186043904 := by omega
  have Hn := Lib.hid hn
  have Hl := Lib.hid hl
  have Hc := Lib.hid hcell
  clear hn hcell hl hs hw
  go_enter Try.func17, Try.ntmps17
  go_wp2_with (first
    | (at_make; go_loud (refine wpList_make_own _ rfl _ _ 31 rfl w.heap.size 3 i0 (.int .i64 0) 1 Try.underlying31 hi hz0 hz1 _ _ _ (len + 3) rfl rfl (by omega) (by rw [hz2]; omega) (by simp [maxLen]; omega) (Nat.le_refl _) ?_)))
  intro w1 hown1 hgr1
  have hb1 : Below w.heap.size w w1 := (Below.refl _ _).grown hgr1 (Nat.le_refl _) (by intro k hk; cases hk)
  have hcell1 : ∀ ad, a = some ad → ∀ j u, (i64s l)[j]? = some u → w1.cell? (ad.add j) = some u := by
    intro ad had j u hj
    have hjl : j < l.length := by have := (List.getElem?_eq_some_iff.1 hj).1; simpa using this
    rw [i64s_get l j hjl] at hj
    cases hj
    have hx := Hc.out ad had j hjl
    rw [hb1.cell (World.block_lt_of_cell? w _ hx)]
    exact hx
  have one : ∀ u ∈ i64s l, u.oneCell' = true := by
    intro u hu
    obtain ⟨_, _, rfl⟩ := List.mem_map.1 hu
    rfl
  have Hcell1 := Lib.hid hcell1
  clear hcell1
  go_wp2_with (at_builtin; go_loud (refine wpList_append_fits_any _ rfl (.tmp 12) (.tmp 13) 31 rfl w.heap.size 3 i0 1 Try.underlying31 hi hz1 w.heap.size 0 (len + 3) [] rfl hown1 a len cap (i64s l) rfl (by rw [i64s_length, Hl.out]; simp) Hn.out Hcell1.out one (by omega) ?_))
  intro w2 hown2 hgr2
  have hb2 : Below w.heap.size w w2 := hb1.grown hgr2 hb1.size (by intro k hk; cases hk; exact Nat.le_refl _)
  obtain ⟨ys, hys, htake, hle, hml, hBg, hgs, hwhole⟩ := ownsRow_wholeI hown2
  have Hys := Lib.hid hys
  have Htake := Lib.hid htake
  clear hown2 hown1 hgr1 hgr2 hys htake hml
  go_wp2_with fail
  have hF : FilledI w2 w.heap.size w.heap.size (len + 3) len l := ⟨ys, Hys.out, Htake.out, hwhole⟩
  have HF := Lib.hid hF
  clear hF hwhole
  go_loopw [7] (fun i wr => ∃ k : Nat, k ≤ 3 ∧ i = .int .i64 ((len : Int) + k) ∧ FilledI wr w.heap.size w.heap.size (len + 3) (len + k) (l ++ List.replicate k f) ∧ Below w.heap.size w wr) (fun i _ => (((len : Int) + 3) - intOf i).toNat)
  case atStart => exact ⟨0, by omega, by simp, by simpa using HF.out, hb2⟩
  case round =>
    obtain ⟨k, hk, rfl, hfill, hbel⟩ := hrel
    by_cases hk3 : k < 3
    · have hfr := hfill.free (len + k)
      obtain ⟨u, hu⟩ := hfill.cell (len + k) (by omega)
      have hnext := hfill.step (f := f) (by omega) (by simp [Hl.out])
      have Hnext := Lib.hid hnext
      clear hnext hfill
      have htn : ((len : Int) + k).toNat = len + k := by omega
      go_wp2_with fail
      go_roundw
      case rel => exact ⟨k + 1, by omega, by go_num, by have := Hnext.out; rwa [List.append_assoc, ← List.replicate_succ'] at this, hbel.setCell (Nat.le_refl _) _⟩
      case measure => simp [intOf]; omega
    · obtain rfl : k = 3 := by omega
      have Hfill := Lib.hid hfill
      clear hfill
      go_wp2_with fail
      go_ret
      have hd := FilledI.done Hfill.out (by simp [Hl.out])
      refine ⟨_, rfl, ⟨w.heap.size, ?_, ?_, Nat.le_refl _, ?_, ?_⟩, hbel⟩
      · rw [Hl.out]; rfl
      · rw [Hl.out]; exact hd
      · obtain ⟨g', c', e, _, hg⟩ := hd.some (by simp)
        simp only [Value.slice.injEq, Option.some.injEq, Addr.mk.injEq] at e
        rw [e.1.1]
        exact hg
      · rw [Hl.out]; simp [maxLen]; omega

theorem OwnG.row {w : World} {B : Nat} {v : Value} {l more : List Int} (h : OwnG w B v l more) : RowI w v l := by
  obtain ⟨g, rfl, ho, hB, hg, hm⟩ := h
  refine ⟨_, _, _, rfl, rfl, by omega, hm, fun _ _ => rfl, by simp, ?_⟩
  intro x hx i hi
  obtain rfl := Option.some.inj hx
  rw [Addr.add_lit, Nat.zero_add]
  have := ho.cell (by simp) i (by simp; omega)
  rw [this]
  simp [hi]

theorem OwnG.below {w w' : World} {B : Nat} {v : Value} {l more : List Int} (h : OwnG w B v l more) (hb : Below w.heap.size w w') : OwnG w' B v l more := by
  obtain ⟨g, rfl, ho, hB, hg, hm⟩ := h
  refine ⟨g, rfl, ho.keep hb (by intro k hk; simp [Value.ownBlock] at hk; omega), hB, by have := hb.size; omega, hm⟩

set_option maxHeartbeats 400000 in
theorem keptI_any {va vb : Value} {l : List Int} {w : World} {B : Nat} {f : Int} (ha : OwnG w B va l [f, f, f]) (hb : RowI w vb l) (hs : l.length ≤ 17592186043904) :
    Calls Try.prog 20 #[va, vb, .int .i64 f] w fun e w' => e = .returned (.bool true) ∧ Still w w' := by
  have hra := ha.row
  obtain ⟨g, rfl, ho, hB, hg, hm⟩ := ha
  obtain ⟨a, len, cap, rfl, hl, hc, hm', -⟩ := id hb
  subst hl
  simp only [List.length_cons, List.length_nil, Nat.zero_add, Nat.reduceAdd] at ho hm hra
  have HB := Lib.hid hb
  have HA := Lib.hid hra
  have HO := Lib.hid ho
  clear hb hra ho hm hm'
  go_enter Try.func20, Try.ntmps20
  go_wp2_with fail
  refine (plainI_any HA.out HB.out).mono ?_
  rintro e w1 ⟨rfl, hst⟩
  simp only [decide_true]
  go_wp2_with fail
  go_loopw [8] (fun i wr => ∃ k : Nat, k ≤ 3 ∧ i = .int .i64 ((l.length : Int) + k) ∧ Still w wr) (fun i _ => (((l.length : Int) + 3) - intOf i).toNat)
  case atStart => exact ⟨0, by omega, by simp, hst⟩
  case round =>
    obtain ⟨k, hk, rfl, hst'⟩ := hrel
    by_cases hk3 : k < 3
    · have htn : ((l.length : Int) + k).toNat = l.length + k := by omega
      have hc : wr.cell? ⟨g, l.length + k, none⟩ = some (.int .i64 (f : Int)) := by
        rw [hst'.cell, HO.out.cell (by simp) (l.length + k) (by simp; omega)]
        match k, hk3 with
        | 0, _ => simp
        | 1, _ => simp
        | 2, _ => simp
      go_wp2_with fail
      go_roundw
      case rel => exact ⟨k + 1, by omega, by go_num, hst'⟩
      case measure => simp [intOf]; omega
    · obtain rfl : k = 3 := by omega
      go_wp2_with fail
      go_ret
      exact ⟨rfl, hst'⟩

end Go.Proofs.Ytgdfobhhkfplbaa
