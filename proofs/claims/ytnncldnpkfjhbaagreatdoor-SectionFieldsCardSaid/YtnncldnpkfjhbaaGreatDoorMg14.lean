/-
  Several texts of one proof, each in a section of its own: FieldsW, SpnP, Take.
-/
import Derived.Test.YtnncldnpkfjhbaaGreatDoorMg13
import Derived.Deep.RegionHeld3
import Derived.Deep.AppendLies
import Derived.Test.YtnncldnpkfjhbaaGreatDoorMg5
import Derived.Test.YtnncldnpkfjhbaaGreatDoorMg10
import Derived.Test.YtnncldnpkfjhbaaGreatDoorMemMg
import Derived.OrdersHeld
namespace Go.Proofs.YtnncldnpkfjhbaaGreatDoor
section
set_option linter.unusedVariables false
open Go.RowKit Go.Lib
attribute [local go_sem] Oper.semAt_some

theorem info28 : (Tryz.prog.info? 57).map (fun i => (i.zero, i.size, i.bytes)) = some (some (.agg #[.string ⟨#[]⟩, .string ⟨#[]⟩]), 2, 32) := by kernel_rfl

theorem OwnT.base {w : World} {B B' : Nat} {v : Value} {l : List Tk} (h : OwnT w B v l) (hB : B' ≤ B) : OwnT w B' v l := by
  refine ⟨h.1, ?_⟩
  rcases h.2 with h2 | ⟨b, cap, cur, rfl, hb, r⟩
  · exact .inl h2
  · exact .inr ⟨b, cap, cur, rfl, by omega, r⟩
theorem OwnT.below {w w' : World} {B E : Nat} {v : Value} {l : List Tk} (h : OwnT w B v l) (hb : Below E w w') (hE : w.heap.size ≤ E) : OwnT w' B v l := by
  refine ⟨h.1, ?_⟩
  rcases h.2 with h2 | ⟨b, cap, cur, rfl, hB, hh, r⟩
  · exact .inl h2
  · exact .inr ⟨b, cap, cur, rfl, hB, (hb.block b (by have := (Array.getElem?_eq_some_iff.1 hh).1; omega)).trans hh, r⟩
theorem OwnT.ownLe {w : World} {B : Nat} {v : Value} {l : List Tk} (h : OwnT w B v l) : ∀ k, v.ownBlock = some k → B ≤ k := fun k hk => (World.ownsRow.lt h k hk).1
/-- a freeze of a row of bytes -/
theorem OwnT.keepC {w w' : World} {B E : Nat} {v : Value} {l : List Tk} (h : OwnT w B v l) (hk : ∀ k, B ≤ k → k < w.heap.size → w'.heap[k]? = w.heap[k]?) : OwnT w' B v l := by
  refine ⟨h.1, ?_⟩
  rcases h.2 with h2 | ⟨b, cap, cur, rfl, hB, hh, r⟩
  · exact .inl h2
  · exact .inr ⟨b, cap, cur, rfl, hB, (hk b hB (Array.getElem?_eq_some_iff.1 hh).1).trans hh, r⟩

def FieldsOut (n : Nat) (l : List Nat) (w : World) (e : Ending) (w' : World) : Prop := ∃ vo, e = .returned vo ∧ OwnT w' n vo (toldS l) ∧ Below n w w'

theorem toldS_snoc (l : List Nat) (k : Nat) (h : k < (fieldsS l).length) : ((fieldsS l).take (k + 1)).map tkOf = ((fieldsS l).take k).map tkOf ++ [tkOf (fieldsS l)[k]] := by
  rw [List.take_succ_eq_append_getElem h, List.map_append]
  rfl
theorem tksV_one (x : Tk) : tksV [x] = [.string x.1, .string x.2] := by simp [tksV, tkV]

set_option maxRecDepth 100000 in
set_option maxHeartbeats 4000000 in
theorem fields_any (v : Value) (l : List Nat) (w : World) (hr : RowB w v l) (hl : l.length ≤ 100000) :
    Calls Tryz.prog 28 #[v] w (FieldsOut w.heap.size l w) := by
  obtain ⟨i0, hi0, hz0, hz1, hz2⟩ := info_parts info28
  have HI := Lib.hid hi0
  have HB := Lib.hid (fieldsS_bts hr.lt)
  have HLN := Lib.hid (fieldsS_len l)
  have HLE := Lib.hid (fieldsS_le hl)
  have HC := Lib.hid (flds_any v l w hr hl)
  clear hr hi0
  go_enter Tryz.func28, Tryz.ntmps28
  go_wp2_with fail
  refine HC.out.mono ?_
  rintro e w1 ⟨vf, gs, E, rfl, hrow, hfin, hb1⟩
  have hlen := fin2_len _ _ hfin
  have hrd := fin2_read _ _ hfin
  obtain ⟨n, hn⟩ : ∃ n, w.heap.size = n := ⟨_, rfl⟩
  obtain ⟨M, hM⟩ : ∃ M, w1.heap.size = M := ⟨_, rfl⟩
  have hnM : n ≤ M := by rw [← hn, ← hM]; exact hb1.size
  rw [hn] at hb1 ⊢
  rw [hM] at hrd
  rw [hn] at hrow hrd hfin
  obtain ⟨fa, fc, rfl⟩ : ∃ fa fc, vf = .slice fa gs.length fc := by
    rcases hrow.2 with ⟨e, h0⟩ | ⟨g, cap, cur, e, _⟩
    · exact ⟨_, _, by rw [e, h0]⟩
    · exact ⟨_, _, e⟩
  have hcell : ∀ k (h : k < gs.length) (W : World), KeepC M w1 W → ∃ fb, fa = some ⟨fb, 0, none⟩ ∧ W.cell? ⟨fb, k, none⟩ = some (.pointer (some ⟨gs[k], 0, none⟩)) := by
    intro k h W hk
    rcases hrow.2 with ⟨e, h0⟩ | ⟨g, cap, cur, e, hb, hh, h1, h2, h3, h4⟩
    · omega
    · simp only [Value.slice.injEq] at e
      obtain ⟨rfl, -, -⟩ := e
      have hg := (Array.getElem?_eq_some_iff.1 hh).1
      obtain ⟨fz', hh'⟩ := hk.1 g (by omega) _ _ _ hh
      refine ⟨g, rfl, ?_⟩
      rw [cell_of_row W g k cur 79 fz' hh']
      have : (cur.toList.take (gs.length * 1))[k]? = some (.pointer (some ⟨gs[k], 0, none⟩)) := by rw [h4]; simp [ptrs, h]
      rw [List.getElem?_take_of_lt (by omega)] at this
      simpa using this
  have HCELL := Lib.hid hcell
  have HRD := Lib.hid hrd
  have HLEN := Lib.hid hlen
  have HB1 := Lib.hid hb1
  have HM := Lib.hid hM
  have HN := Lib.hid hn
  clear hrow hfin hcell hrd hlen hb1 hM hn HC
  go_wp2_with fail
  go_loopw [3, 9] (fun out i wr => ∃ (k : Nat) (oa : Option Addr) (oc : Nat), k ≤ gs.length ∧ i = .int .i64 k ∧ out = .slice oa k oc ∧ OwnT wr M out (((fieldsS l).take k).map tkOf) ∧ Below n w wr ∧ KeepC M w1 wr) (fun _ i _ => gs.length - (RowKit.intOf i).toNat)
  case atStart => exact ⟨0, none, 0, Nat.zero_le _, rfl, rfl, World.ownsRow_nil _ _ _ _, HB1.out, KeepC.refl _ _⟩
  case round =>
    obtain ⟨k, oa, oc, hk, rfl, rfl, hown, hbel, hkc⟩ := hrel
    by_cases hkl : k < gs.length
    · have hkf : k < (fieldsS l).length := by rw [HLEN.out]; exact hkl
      obtain ⟨fb, rfl, hpc⟩ := HCELL.out k hkl wr hkc
      have hfr := (HRD.out k hkf hkl).keep hkc
      have hbt := HB.out _ (List.getElem_mem hkf)
      have hle := (HLE.out _ (List.getElem_mem hkf)).1
      have hsn := toldS_snoc l k hkf
      have hlnk : (((fieldsS l).take k).map tkOf).length = k := by simp; omega
      have hkn : k + 1 ≤ 100000 := by have := HLN.out; omega
      obtain ⟨g, hg⟩ : ∃ g, gs[k] = g := ⟨_, rfl⟩
      obtain ⟨⟨nm, T, R⟩, hf⟩ : ∃ f, (fieldsS l)[k] = f := ⟨_, rfl⟩
      rw [hg] at hpc hfr
      rw [hf] at hfr hbt hle hsn
      have HSN := Lib.hid hsn
      obtain ⟨pre, hpre⟩ : ∃ pre, ((fieldsS l).take k).map tkOf = pre := ⟨_, rfl⟩
      rw [hpre] at hown hlnk hsn
      have HPRE := Lib.hid hpre
      have hMw : M ≤ wr.heap.size := by have := hkc.2; have := HM.out; omega
      have hname : wr.cell? ⟨g, 0, none⟩ = some (.string nm) := by
        obtain ⟨_, a, v, r, fz, h1, _⟩ := hfr
        exact cell_of_row _ _ 0 _ _ _ h1
      have hgM : g < M := hfr.1.2
      have HFR : Hid (FinR wr.drew (n + 3) M g ⟨nm, T, R⟩) := Lib.hid hfr
      have HLT : Hid (∀ c ∈ T, c < 256) := Lib.hid hbt.1
      have HSZ : Hid ((strT T).size ≤ 9223372036854775807) := Lib.hid (by simp only at hle; simp [strT, ByteArray.size]; omega)
      have HOWN := Lib.hid hown
      have HBEL := Lib.hid hbel
      have HKC := Lib.hid hkc
      have HLK := Lib.hid hlnk
      have hn3 : n + 3 ≤ wr.drew.heap.size := by have := HFR.out.1; show n + 3 ≤ wr.heap.size; omega
      clear hsn hg hf hpre hown hbel hkc hfr hbt hle hlnk
      go_wp2_with fail
      go_region_held3 (fun w' => w'.cell? ⟨g, 0, none⟩ = some (.string nm))
        (first | with_reducible exact kb | with_reducible exact hname | go_keep)
        (first
          | (go_at_call 44; refine (str_any g (n + 3) M ⟨nm, T, R⟩ _ HFR.out hn3 hMw HLT.out).mono ?_; rintro e w2 ⟨rfl, hb2, hk2, ho2⟩; have hown2 : OwnT w2 M (.slice oa k oc) pre := OwnT.keepC (E := M) HOWN.out ho2; have hs2 : wr.heap.size ≤ w2.heap.size := hk2.2; have HO2 := Lib.hid hown2; clear hown2 ho2; have kb : w2.cell? ⟨g, 0, none⟩ = some (.string nm) := (by obtain ⟨_, a, v, r, fz, h1, _⟩ := HFR.out.keep hk2; exact cell_of_row _ _ 0 _ _ _ h1); have hM2 : M ≤ w2.heap.size := Nat.le_trans hMw hk2.2; have HB2 := Lib.hid hb2; have HK2 := Lib.hid hk2; clear hb2 hk2)
          | (go_at_call 43; refine (cut_any (strT T) _ HSZ.out).mono ?_; rintro e w3 ⟨rfl, hb3⟩; have kb : w3.cell? ⟨g, 0, none⟩ = some (.string nm) := (hb3.cell (p := ⟨g, 0, none⟩) (by show g < _; omega)).trans kb; have hs3 := hb3.size; have HB3 := Lib.hid hb3; clear hb3)
          | (refine step_append_lies _ (by rfl) _ _ _ (by rfl) M 57 i0 _ 2 32 Tryz.underlying41 HI.out hz0 hz1 hz2 rfl (by decide) (.slice oa k oc) k (tksV pre) (by rfl) (World.ownsRow.alloc (show w3.ownsRow M 57 2 (.slice oa k oc) k (tksV pre) from by have h := OwnT.below HO2.out HB3.out (Nat.le_refl _); unfold OwnT at h; rw [HLK.out] at h; exact h) _) ⟨w3.heap.size, 0, none⟩ 1 1 [.string nm, .string (cutT T)] (by rfl) (by rfl) (World.news_of_block (cs := #[.string nm, .string (cutT T)]) (t := 57) (fr := (0, 0)) (heap_alloc_new w3 _)) (by simp [Value.oneCell']) (by omega) (by unfold maxLen; omega) (by omega) (by simp; omega) (w3.heap.size + 1) (by simp) ?_; intro gg cap w4 hown4 hgrow hat hlt; have kb : w4.cell? ⟨g, 0, none⟩ = some (.string nm) := (World.cell?_of_block (hgrow.block g (by simp; omega) (fun e => by have := OwnT.ownLe HO2.out _ e.symm; omega))).trans ((((Below.refl w3.heap.size w3).alloc (Nat.le_refl _) (.cells #[.string nm, .string (cutT T)] 57)).cell (p := ⟨g, 0, none⟩) (by show g < _; omega)).trans kb); have HO4 := Lib.hid hown4; have HG4 := Lib.hid hgrow; clear hown4 hgrow hat hlt))
      have HB4 : Hid (Below n w w4) := Lib.hid (by
        have h1 := HB3.out
        have h2 := (HBEL.out.drew.trans (HB2.out.mono (by omega)))
        have h3 := h2.trans (h1.mono (by have := h2.size; omega))
        exact (h3.alloc (by have := h3.size; omega) _).grown HG4.out (by simp; omega) (fun k e => by have := OwnT.ownLe HO2.out _ e; omega))
      have HK4 : Hid (KeepC M w1 w4) := Lib.hid (by
        have h1 := (HKC.out.trans HK2.out).trans (KeepC.below (HB3.out.mono hM2))
        exact h1.trans (KeepC.below (((Below.refl M w3).alloc (by omega) _).grown HG4.out (by simp; omega) (fun k e => OwnT.ownLe HO2.out _ e))))
      go_wp2_with fail
      go_roundw
      case rel =>
        refine ⟨k + 1, _, _, by omega, by go_num, rfl, ?_, HB4.out, HK4.out⟩
        rw [HSN.out, HPRE.out]
        unfold OwnT
        rw [tksV_append, tksV_one, List.length_append, HLK.out]
        exact HO4.out
      case measure => simp [RowKit.intOf]; omega
    · obtain rfl : k = gs.length := by omega
      have ht : ((fieldsS l).take gs.length).map tkOf = toldS l := by rw [List.take_of_length_le (by rw [HLEN.out]; exact Nat.le_refl _)]; rfl
      rw [ht] at hown
      have HOWN := Lib.hid hown
      clear hown ht
      go_wp2_with fail
      go_ret
      exact ⟨_, rfl, HOWN.out.base (by rw [HN.out]; exact hnM), by rw [HN.out]; exact hbel⟩
end
section
set_option linter.unusedVariables false
open Go.RowKit Go.Lib Go.Shelf

/-- where a piece ends without the line's end right ahead of a place -/
def woE (l : List Nat) (g t : Nat) : Nat := if g < t ∧ l[t - 1]? = some 10 then (if g < t - 1 ∧ l[t - 2]? = some 13 then t - 2 else t - 1) else t
theorem woE_le (l : List Nat) (g t : Nat) : woE l g t ≤ t := by unfold woE; split <;> (try split) <;> omega
theorem woE_ge (l : List Nat) (g t : Nat) (h : g ≤ t) : g ≤ woE l g t := by unfold woE; split <;> (try split) <;> omega
/-- what a line is to a boundary: none, one between, or the last -/
def markS (l bd : List Nat) (x : Nat × Nat × Nat) : Option Bool :=
  if ([45, 45] ++ bd) <+: lineT l x then
    (if [45, 45] <+: (lineT l x).drop (2 + bd.length) then some true else if (((lineT l x).drop (2 + bd.length)).all isBl) = true then some false else none)
  else none
def closeS (l : List Nat) (s : List (Nat × Nat) × Option Nat) (t : Nat) : List (Nat × Nat) := match s.2 with | some g => s.1 ++ [(g, woE l g t)] | none => s.1
def runSp (l bd : List Nat) (t : Nat) : List (Nat × Nat × Nat) → List (Nat × Nat) × Option Nat → List (Nat × Nat)
  | [], s => match s.2 with | some g => s.1 ++ [(g, t)] | none => s.1
  | x :: xs, s => match markS l bd x with
    | none => runSp l bd t xs s
    | some b => if b = true ∨ (closeS l s x.1).length = 30 then closeS l s x.1 else runSp l bd t xs (closeS l s x.1, some (x.1 + x.2.1))
def spansS (l bd : List Nat) (f t : Nat) : List (Nat × Nat) := runSp l bd t (linesP f ((l.take t).drop f)) ([], none)

theorem isub (a : Nat) (h : 1 ≤ a) : ((a : Int) - 1) = ((a - 1 : Nat) : Int) := by omega
set_option maxHeartbeats 2000000 in
set_option maxRecDepth 100000 in
theorem woe_any (a : Option Addr) (lb lo cap g t : Nat) (l : List Nat) (w : World) (ha : l ≠ [] → a = some ⟨lb, lo, none⟩) (hc : CellsL w lb lo l) (hl : l.length ≤ cap) (hll : l.length ≤ 1000000) (ht : t ≤ l.length) :
    Calls Tryz.prog 54 #[.slice a l.length cap, .int .i64 (g : Nat), .int .i64 (t : Nat)] w fun e w' => e = .returned (.int .i64 (woE l g t : Nat)) ∧ w = w' := by
  obtain ⟨R, hR⟩ : ∃ R, woE l g t = R := ⟨_, rfl⟩
  rw [hR]
  by_cases h1 : g < t
  · have hln : l ≠ [] := by intro e; subst e; simp at ht; omega
    obtain rfl := ha hln
    obtain ⟨m, rfl⟩ : ∃ m, t = m + 1 := ⟨t - 1, by omega⟩
    have hm : m < l.length := by omega
    have c1 := hc m hm
    have hg1 : (g : Int) < (m : Int) + 1 := by omega
    have hwm : IntKind.i64.wrap ((m : Int) + 1 - 1) = (m : Int) := by rw [show (m : Int) + 1 - 1 = (m : Int) by omega]; exact IntWalk.i64_in _ (by omega)
    have hms : (m : Int) + 1 - 1 = (m : Int) := by omega
    have hml : (m : Int) < (l.length : Int) := by omega
    have hmc : (m : Int) < (cap : Int) := by omega
    have hg? : l[m]? = some l[m] := List.getElem?_eq_getElem hm
    unfold woE at hR
    simp only [Nat.add_sub_cancel] at hR
    rw [hg?] at hR
    obtain ⟨x, hx⟩ : ∃ x, l[m] = x := ⟨_, rfl⟩
    rw [hx] at hR c1
    by_cases h2 : x = 10
    · subst h2
      by_cases h3 : g < m
      · obtain ⟨k, rfl⟩ : ∃ k, m = k + 1 := ⟨m - 1, by omega⟩
        have hk : k < l.length := by omega
        have c2 := hc k hk
        have hg2 : (g : Int) < (k : Int) + 1 := by omega
        have hks : (k : Int) + 1 - 1 = (k : Int) := by omega
        have hwk : IntKind.i64.wrap (k : Int) = (k : Int) := IntWalk.i64_in _ (by omega)
        have hkl : (k : Int) < (l.length : Int) := by omega
        have hk? : l[k]? = some l[k] := List.getElem?_eq_getElem hk
        rw [show k + 1 + 1 - 2 = k by omega, hk?] at hR
        obtain ⟨y, hy⟩ : ∃ y, l[k] = y := ⟨_, rfl⟩
        rw [hy] at hR c2
        push_cast at *
        by_cases h4 : y = 13
        · subst h4
          have HF : Hid (k = R) := Lib.hid (by rw [← hR, if_pos ⟨by omega, rfl⟩, if_pos ⟨by omega, rfl⟩])
          clear hR hx hy hg? hk? hc ha h1 h3
          go_enter Tryz.func54, Tryz.ntmps54
          go_wp2_with fail
          go_ret
          exact ⟨by rw [← HF.out]; go_num, rfl⟩
        · have h4z : ((y : Int) == 13) = false := beq_false_of_ne (by omega)
          have h4n : ¬ (y : Int) = 13 := by omega
          have HF : Hid (k + 1 = R) := Lib.hid (by rw [← hR, if_pos ⟨by omega, rfl⟩, if_neg (fun h => h4 (by simpa using h.2))])
          clear hR hx hy hg? hk? hc ha h1 h3 h4
          go_enter Tryz.func54, Tryz.ntmps54
          go_wp2_with fail
          go_ret
          exact ⟨by rw [← HF.out]; go_num, rfl⟩
      · have h3z : ¬ (g : Int) < (m : Int) := by omega
        have HF : Hid (m = R) := Lib.hid (by rw [← hR, if_pos ⟨by omega, rfl⟩, if_neg (fun h => h3 h.1)])
        clear hR hx hg? hc ha h1 h3
        go_enter Tryz.func54, Tryz.ntmps54
        go_wp2_with fail
        go_ret
        exact ⟨by rw [← HF.out]; rfl, rfl⟩
    · have h2z : ((x : Int) == 10) = false := beq_false_of_ne (by omega)
      have h2n : ¬ (x : Int) = 10 := by omega
      have HF : Hid (m + 1 = R) := Lib.hid (by rw [← hR, if_neg (fun h => h2 (by simpa using h.2))])
      clear hR hx hg? hc ha h1 h2
      go_enter Tryz.func54, Tryz.ntmps54
      go_wp2_with fail
      go_ret
      exact ⟨by rw [← HF.out]; go_num, rfl⟩
  · have h1z : ¬ (g : Int) < (t : Int) := by omega
    have HF : Hid (t = R) := Lib.hid (by rw [← hR]; unfold woE; rw [if_neg (fun h => h1 h.1)])
    clear hR hc ha h1
    go_enter Tryz.func54, Tryz.ntmps54
    go_wp2_with fail
    go_ret
    exact ⟨by rw [← HF.out]; rfl, rfl⟩

set_option maxHeartbeats 2000000 in
set_option maxRecDepth 100000 in
/-- where the line behind the one at a place begins -/
theorem bhd_any (a : Option Addr) (lb lo cap k t : Nat) (l : List Nat) (w : World) (ha : l ≠ [] → a = some ⟨lb, lo, none⟩) (hc : CellsL w lb lo l) (hl : l.length ≤ cap) (hm : cap ≤ maxLen) (hll : l.length ≤ 1000000) (hlt : ∀ n ∈ l, n < 256) (hk : k < t) (ht : t ≤ l.length) :
    Calls Tryz.prog 59 #[.slice a l.length cap, .int .i64 (k : Nat), .int .i64 (t : Nat)] w fun e w' => e = .returned (.int .i64 (k + wholeN ((l.take t).drop k) : Nat)) ∧ w = w' := by
  have hln : l ≠ [] := by intro e; subst e; simp at ht; omega
  obtain rfl := ha hln
  obtain ⟨r, hr⟩ : ∃ r, (l.take t).drop k = r := ⟨_, rfl⟩
  have hrl : r.length = t - k := by rw [← hr, List.length_drop, List.length_take]; omega
  have hrc := (hc.take t).drop k
  rw [hr] at hrc
  have hrb : ∀ n ∈ r, n < 256 := fun n hn => hlt n (by rw [← hr] at hn; exact List.mem_of_mem_take (List.mem_of_mem_drop hn))
  have hrow := hrc.row (cap := cap - k) (by omega) (by unfold maxLen at *; omega) hrb
  have hix := index_any lb (lo + k) (cap - k) 10 r w (by decide) hrow
  rw [hrl] at hix
  rw [hr]
  obtain ⟨R, hR⟩ : ∃ R, k + wholeN r = R := ⟨_, rfl⟩
  rw [hR]
  have ha10 := aheadN_le 10 r
  have hkz : (k : Int) ≤ (t : Int) := by omega
  have htc : (t : Int) ≤ (cap : Int) := by omega
  have hkc : (k : Int) < (cap : Int) := by omega
  have hkcn : ¬ cap = k := by omega
  have htl : (t : Int) ≤ 1000000 := by omega
  unfold wholeN at hR
  unfold idxI at hix
  clear hc ha hr hrc hrb hrow
  by_cases hjl : aheadN 10 r < r.length
  · rw [if_pos hjl] at hR
    rw [if_pos (by omega)] at hix
    obtain ⟨j, hj⟩ : ∃ j, aheadN 10 r = j := ⟨_, rfl⟩
    rw [hj] at hR hix hjl
    have HIX := Lib.hid hix
    have HF : Hid (k + j + 1 = R) := Lib.hid (by omega)
    have hj0 : ¬ (j : Int) < 0 := by omega
    have hw1 : IntKind.i64.wrap ((k : Int) + (j : Int)) = (k : Int) + (j : Int) := IntWalk.i64_in _ (by omega)
    have hw2 : IntKind.i64.wrap ((k : Int) + (j : Int) + 1) = (k : Int) + (j : Int) + 1 := IntWalk.i64_in _ (by omega)
    clear hix hR hrl ha10 hjl hj
    go_enter Tryz.func59, Tryz.ntmps59
    go_wp2_with (go_at_call 65; refine HIX.out.mono ?_; rintro e w' ⟨rfl, hw'⟩; subst w')
    go_ret
    exact ⟨by rw [← HF.out]; go_num, rfl⟩
  · rw [if_neg hjl] at hR
    rw [if_neg (by omega)] at hix
    have HIX := Lib.hid hix
    have HF : Hid (t = R) := Lib.hid (by omega)
    clear hix hR hrl ha10 hjl
    go_enter Tryz.func59, Tryz.ntmps59
    go_wp2_with (go_at_call 65; refine HIX.out.mono ?_; rintro e w' ⟨rfl, hw'⟩; subst w')
    go_ret
    exact ⟨by rw [← HF.out]; rfl, rfl⟩
end
section
set_option linter.unusedVariables false

section
variable {P : Program} {ops : Array Oper} {Q : Exit → Act → World → Prop} {md : Region.Mode} {S : World → Prop} {T : Nat → Bool}

/-- whatever order is picked, with S behind each operation but those that T names -/
def AnyBut (P : Program) (md : Region.Mode) (ops : Array Oper) (Q : Exit → Act → World → Prop) (S : World → Prop) (T : Nat → Bool) : Nat → Array Bool → Act → World → Prop
  | 0, listed, a, w => Region.ready md ops listed = [] ∧ Q .normal a w
  | fuel + 1, listed, a, w =>
    (Region.ready md ops listed = [] → Q .normal a w) ∧
    ∀ i ∈ Region.ready md ops listed, wpOp P ops Q i (fun a' w' => (T i = false → S w → S w') ∧ AnyBut P md ops Q S T fuel (listed.setIfInBounds i true) a' w') a w

theorem AnyBut.any : ∀ (fuel : Nat) (listed : Array Bool) (a : Act) (w : World), AnyBut P md ops Q S T fuel listed a w → wpAny P md ops Q fuel listed a w
  | 0, _, _, _, h => h
  | fuel + 1, _, _, _, h => ⟨h.1, fun i hi => wpOp_mono (fun a' w' h' => AnyBut.any fuel _ a' w' h'.2) (h.2 i hi)⟩

theorem AnyBut.first {S' : World → Prop} {i : Nat} {oi : Oper} {v : Value} (hi : ops[i]? = some oi) (hsel : ∀ (j : Nat) (o : Oper) cs b, ops[j]? = some o → o.op ≠ .select cs b)
    (hQ : ∀ c a w, Q (.panic c) (a.put oi.dst v) w → Q (.panic c) a w) (hT : ∀ j oj, ops[j]? = some oj → (∀ e ∈ oj.after, Region.binds md e = true → e.on ≠ i) → ∀ w w', S' w → (T j = false → S w → S w') → S' w') :
    ∀ (fuel : Nat) (listed : Array Bool) (a : Act) (w : World),
      (∀ j oj, ops[j]? = some oj → j ≠ i → listed.getD j true = false → (∀ e ∈ oj.after, Region.binds md e = true → e.on ≠ i) → oi.apart ops oj = true) →
      i ∈ Region.ready md ops listed → YieldsIf P ops S' oi v a → S' w →
      AnyBut P md ops Q S T fuel (listed.setIfInBounds i true) (a.put oi.dst v) w → AnyBut P md ops Q S T (fuel + 1) listed a w := by
  intro fuel
  induction fuel with
  | zero =>
    intro listed a w _ hr hy hS H
    refine ⟨fun h => (by rw [h] at hr; cases hr), fun j hj => ?_⟩
    by_cases hji : j = i
    · rw [hji]; exact hy.wpOp hi hS ⟨fun _ h => h, H⟩
    · have := ready_mono hj hji
      rw [H.1] at this
      cases this
  | succ fuel ih =>
    intro listed a w hfree hr hy hS H
    refine ⟨fun h => (by rw [h] at hr; cases hr), fun j hj => ?_⟩
    by_cases hji : j = i
    · rw [hji]; exact hy.wpOp hi hS ⟨fun _ h => h, H⟩
    have hun := mem_ready.1 hj
    have hri := mem_ready.1 hr
    obtain ⟨hj0, oj, hoj, hall⟩ := hun
    have hno : ∀ e ∈ oj.after, Region.binds md e = true → e.on ≠ i := by
      intro e he hb heq
      have h1 := hall e he hb
      rw [heq] at h1
      have h0 := hri.1
      rcases Nat.lt_or_ge i listed.size with h' | h'
      · simp [h'] at h0 h1; rw [h0] at h1; cases h1
      · simp [Array.getElem?_eq_none h'] at h1
    have hap := hfree j oj hoj hji hj0 hno
    have hstep := wpOp_putIf hoj hap (fun cs b => hsel i oi cs b hi) (fun cs b => hsel j oj cs b hoj) hQ hy (H.2 j (ready_mono hj hji))
    refine wpOp_mono (fun a' w' hk => ?_) hstep
    obtain ⟨hy', hs', hrest⟩ := hk
    refine ⟨hs', ih (listed.setIfInBounds j true) a' w' ?_ (ready_mono hr (Ne.symm hji)) hy' (hT j oj hoj hno w w' hS hs') ?_⟩
    · intro k ok hk hki hunk hnok
      refine hfree k ok hk hki ?_ hnok
      by_cases hjk : j = k
      · rw [← hjk]; exact hj0
      · rw [getD_set_ne true hjk] at hunk; exact hunk
    · rw [Array.setIfInBounds_comm _ _ hji]
      exact hrest

/-- the check that those of T wait for i -/
def waits (md : Region.Mode) (ops : Array Oper) (T : Nat → Bool) (i : Nat) : Bool :=
  (List.range ops.size).all fun j => !T j || ((ops[j]?).map fun o => o.after.any fun e => Region.binds md e && e.on == i).getD false
theorem waits_spec {i : Nat} (h : waits md ops T i = true) : ∀ j oj, ops[j]? = some oj → T j = true → ∃ e ∈ oj.after, Region.binds md e = true ∧ e.on = i := by
  intro j oj hj hT
  have hlt : j < ops.size := (Array.getElem?_eq_some_iff.1 hj).1
  have h1 := (List.all_eq_true.1 h) j (List.mem_range.2 hlt)
  rw [hT, hj] at h1
  simp only [Bool.not_true, Bool.false_or, Option.map_some, Option.getD_some] at h1
  obtain ⟨k, hk, hp⟩ := Array.any_eq_true.1 h1
  rw [Bool.and_eq_true] at hp
  exact ⟨oj.after[k], Array.getElem_mem hk, hp.1, by simpa using hp.2⟩

theorem AnyBut.take {i : Nat} {oi : Oper} {v : Value} {fuel : Nat} {listed : Array Bool} {a : Act} {w : World} (hi : ops[i]? = some oi)
    (hs : Region.noSelect ops = true) (hf : Region.free md ops listed i = true) (hr : (Region.ready md ops listed).contains i = true) (hw : waits md ops T i = true)
    (hQ : ∀ c a w, Q (.panic c) (a.put oi.dst v) w → Q (.panic c) a w) (hy : YieldsIf P ops S oi v a) (hS : S w)
    (h : AnyBut P md ops Q S T fuel (listed.setIfInBounds i true) (a.put oi.dst v) w) : AnyBut P md ops Q S T (fuel + 1) listed a w :=
  AnyBut.first (S' := S) hi (Region.noSelect_spec hs) hQ (fun j oj hj hno w w' h1 h2 => by
    cases hc : T j with
    | false => exact h2 hc h1
    | true =>
      obtain ⟨e, he, hb, heq⟩ := waits_spec hw j oj hj hc
      exact absurd heq (hno e he hb)) fuel listed a w (Region.free_spec hi hf) (by simpa using hr) hy hS h

/-- what yields in whatever world -/
theorem AnyBut.take0 {i : Nat} {oi : Oper} {v : Value} {fuel : Nat} {listed : Array Bool} {a : Act} {w : World} (hi : ops[i]? = some oi)
    (hs : Region.noSelect ops = true) (hf : Region.free md ops listed i = true) (hr : (Region.ready md ops listed).contains i = true)
    (hQ : ∀ c a w, Q (.panic c) (a.put oi.dst v) w → Q (.panic c) a w) (hy : Yields P ops oi v a)
    (h : AnyBut P md ops Q S T fuel (listed.setIfInBounds i true) (a.put oi.dst v) w) : AnyBut P md ops Q S T (fuel + 1) listed a w :=
  AnyBut.first (S' := fun _ => True) hi (Region.noSelect_spec hs) hQ (fun _ _ _ _ _ _ _ _ => trivial) fuel listed a w (Region.free_spec hi hf) (by simpa using hr) hy.yieldsIf trivial h

def ButReady (P : Program) (md : Region.Mode) (ops : Array Oper) (Q : Exit → Act → World → Prop) (S : World → Prop) (T : Nat → Bool) (fuel : Nat) (listed : Array Bool) (a : Act) (w : World) (rs : List Nat) : Prop :=
  ∀ i ∈ rs, wpOp P ops Q i (fun a' w' => (T i = false → S w → S w') ∧ AnyBut P md ops Q S T fuel (listed.setIfInBounds i true) a' w') a w
theorem ButReady.nil {fuel : Nat} {listed : Array Bool} {a : Act} {w : World} : ButReady P md ops Q S T fuel listed a w [] := fun _ h => by cases h
theorem ButReady.cons {fuel : Nat} {listed : Array Bool} {a : Act} {w : World} {i : Nat} {o : Oper} {rs : List Nat} (ho : ops[i]? = some o)
    (h : ∀ K' : Act → World → Prop, (∀ a' w', (T i = false → S w → S w') → AnyBut P md ops Q S T fuel (listed.setIfInBounds i true) a' w' → K' a' w') → if Region.wanted o (yielded ops a.tmps) = true then Oper.wp P o a w K' Q else K' (a.put o.dst undef) w)
    (hs : ButReady P md ops Q S T fuel listed a w rs) : ButReady P md ops Q S T fuel listed a w (i :: rs) := fun j hj => by
  rcases List.mem_cons.1 hj with e | hj
  · rw [e]; exact wpOp_step ho (fun K' hK => h K' (fun a' w' h1 h2 => hK a' w' ⟨h1, h2⟩))
  · exact hs j hj
theorem AnyBut.ready {rs : List Nat} {fuel : Nat} {listed : Array Bool} {a : Act} {w : World} (hr : Region.ready md ops listed = rs) (hne : rs ≠ [])
    (h : ButReady P md ops Q S T fuel listed a w rs) : AnyBut P md ops Q S T (fuel + 1) listed a w :=
  ⟨fun h0 => absurd (hr ▸ h0) hne, hr ▸ h⟩
theorem AnyBut.done {listed : Array Bool} {a : Act} {w : World} (hr : Region.ready md ops listed = []) (h : Q .normal a w) :
    ∀ fuel, AnyBut P md ops Q S T fuel listed a w
  | 0 => ⟨hr, h⟩
  | _ + 1 => ⟨fun _ => h, by rw [hr]; simp⟩
theorem AnyBut.enter {id : Nat} {a : Act} {w : World} (hm : P.follows .mixedOrders = true) (S : World → Prop) (T : Nat → Bool)
    (h : AnyBut P .any ops Q S T ops.size (Array.replicate ops.size false) a w.drew) : (Code.region id ops true).wp P Q a w :=
  wp_region_any hm (AnyBut.any _ _ _ _ h)
end
end
end Go.Proofs.YtnncldnpkfjhbaaGreatDoor
