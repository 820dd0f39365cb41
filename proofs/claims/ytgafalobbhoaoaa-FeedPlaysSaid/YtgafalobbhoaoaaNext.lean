/-
  The contracts of Clone, begin, Put and Next.
-/
import Derived.Test.YtgafalobbhoaoaaEnd
import Derived.Deep.DeepCutAuto
namespace Go.Proofs.Ytgafalobbhoaoaa
set_option linter.unusedVariables false
open Go.RowKit

set_option maxHeartbeats 400000 in
theorem clone_any (v : Value) (l : List Nat) (w : World) (hr : RowB w v l) (hs : l.length ≤ 140737488351232) : Calls Try.prog 21 #[v] w fun e w' => ∃ o, e = .returned o ∧ OwnB w' w.heap.size o l ∧ Below w.heap.size w w' := by
  obtain ⟨i0, hi, hz0, hz1, hz2⟩ := info_parts Try.info5
  obtain ⟨a, len, cap, rfl, hl, hc, hm, hw, hn, hcell⟩ := hr
  cases a with
  | none =>
    obtain ⟨rfl, rfl⟩ := hn rfl
    obtain rfl : l = [] := List.eq_nil_of_length_eq_zero hl
    have he := Lib.run_eql_slice_nil (P := Try.prog)
    go_enter Try.func21, Try.ntmps21
    go_wp2_with fail
    go_ret
    exact ⟨_, rfl, World.ownsRow_nil _ _ _ _, Below.refl _ _⟩
  | some x =>
    have he := fun (w : World) => Lib.run_eql_slice_nil (P := Try.prog) w 27 5 (some x) len cap 0 0 Try.underlying27
    have hown0 := World.ownsRow_lit (base := w.heap.size) (e := 5) (size := 1) w #[] 0 (Nat.le_refl _) (by decide) rfl
    have hnews : ∀ j u, (u8s l)[j]? = some u → (w.alloc (.cells #[] 5)).cell? (x.add j) = some u := by
      intro j u hj
      have hjl : j < l.length := by have := (List.getElem?_eq_some_iff.1 hj).1; simpa using this
      rw [u8s_get l j hjl] at hj
      cases hj
      have hx := hcell x rfl j hjl
      rw [Below.cell ((Below.refl w.heap.size w).alloc (Nat.le_refl _) _) (World.block_lt_of_cell? w _ hx)]
      exact hx
    have one : ∀ u ∈ u8s l, u.oneCell' = true := by
      intro u hu
      obtain ⟨_, _, rfl⟩ := List.mem_map.1 hu
      rfl
    have Hcell := Lib.hid hcell
    have Hl := Lib.hid hl
    have Hnews := Lib.hid hnews
    have hsl : len ≤ 140737488351232 := by omega
    clear hcell hl hnews hs
    go_enter Try.func21, Try.ntmps21
    go_wp2_with (at_builtin; go_loud (refine wpList_append_own _ rfl (.tmp 5) (.tmp 6) 27 rfl (w.heap.size) 5 i0 (.int .u8 0) 1 1 Try.underlying27 hi hz0 hz1 hz2 rfl (by decide) _ _ _ rfl hown0 x len cap (u8s l) rfl (by rw [u8s_length, Hl.out]; simp) Hnews.out one (by simp [maxLen]; omega) (by simp; omega) (by simp) ?_))
    intro o w1 ho hgr _
    go_wp2_with fail
    go_ret
    refine ⟨_, rfl, ?_, ?_⟩
    · unfold OwnB
      rw [Hl.out]
      simpa using ho
    · exact ((Below.refl _ _).alloc (Nat.le_refl _) _).grown hgr (by simp) (by intro k hk; simp [Value.ownBlock] at hk; omega)


set_option maxRecDepth 100000 in
set_option maxHeartbeats 1000000 in
theorem begin_any (p : Nat) (f r h : Value) (seg len lits left a : Int) (w : World) (hf : FeedB w p f r h seg len lits left a) :
    Calls Try.prog 22 #[.pointer (some ⟨p, 0, none⟩)] w fun e w' => e = .returned (.tuple #[]) ∧ FeedB w' p (lineV p) r (.slice none 0 0) 0 0 0 0 0 ∧ w'.heap.size = w.heap.size ∧ Below p w w' ∧ ∀ B, Kept p B w w' := by
  obtain ⟨c0, c1, c2, c3, c4, c5, c6, c7, x0, x1, x2, x3, x4, x5, x6, x7⟩ := hf.at
  have HF := Lib.hid hf
  clear hf
  go_enter Try.func22, Try.ntmps22
  go_wp2_with fail
  go_end0
  exact ⟨rfl, (((((((HF.out.set0 (lineV p)).set2 _).set3 0).set4 0).set5 0).set6 0).set7 0), by simp, ((((((((Below.refl _ _).setCell (p := ⟨p, 0, none⟩) (Nat.le_refl _) _).setCell (p := ⟨p, 2, none⟩) (Nat.le_refl _) _).setCell (p := ⟨p, 3, none⟩) (Nat.le_refl _) _).setCell (p := ⟨p, 4, none⟩) (Nat.le_refl _) _).setCell (p := ⟨p, 5, none⟩) (Nat.le_refl _) _).setCell (p := ⟨p, 6, none⟩) (Nat.le_refl _) _).setCell (p := ⟨p, 7, none⟩) (Nat.le_refl _) _), fun B => (Kept.refl p B w).set.set.set.set.set.set.set⟩

theorem ownB_kept {w w' : World} {p B S : Nat} {v : Value} {l : List Nat} (h : OwnB w B v l) (hk : Kept p S w w') (hs : ∀ k, v.ownBlock = some k → k < S) (hp : p < B) : OwnB w' B v l := by
  refine ⟨h.1, ?_⟩
  rcases h.2 with h2 | ⟨g, cap, cur, rfl, hg, hh, r⟩
  · exact .inl h2
  · exact .inr ⟨g, cap, cur, rfl, hg, by rw [hk g (hs g rfl) (by omega)]; exact hh, r⟩
theorem ownB_base {w : World} {B B' : Nat} {v : Value} {l : List Nat} (h : OwnB w B v l) (hB : B' ≤ B) : OwnB w B' v l := by
  refine ⟨h.1, ?_⟩
  rcases h.2 with h2 | ⟨g, cap, cur, rfl, hg, hh, r⟩
  · exact .inl h2
  · exact .inr ⟨g, cap, cur, rfl, by omega, hh, r⟩
theorem ownB_lt {w : World} {B : Nat} {v : Value} {l : List Nat} (h : OwnB w B v l) : ∀ k, v.ownBlock = some k → k < w.heap.size := fun k hk => (World.ownsRow.lt h k hk).2

set_option maxRecDepth 100000 in
set_option maxHeartbeats 1000000 in
theorem put_any (p : Nat) (f r h v : Value) (seg len lits left a : Int) (R l : List Nat) (B : Nat) (w : World) (hf : FeedB w p f r h seg len lits left a) (hr : OwnB w B r R) (hv : RowB w v l) (hpB : p < B) (hB : B ≤ w.heap.size) (hl : R.length + l.length ≤ 100000) :
    Calls Try.prog 9 #[.pointer (some ⟨p, 0, none⟩), v] w fun e w' => ∃ r', e = .returned (.tuple #[]) ∧ FeedB w' p f r' h seg len lits left a ∧ OwnB w' B r' (R ++ l) ∧ w.heap.size ≤ w'.heap.size ∧ Below p w w' := by
  obtain ⟨c0, c1, c2, c3, c4, c5, c6, c7, x0, x1, x2, x3, x4, x5, x6, x7⟩ := hf.at
  have HF := Lib.hid hf
  clear hf
  go_enter Try.func9, Try.ntmps9
  go_wp2_with (at_builtin; go_loud (refine appl rfl (.tmp 10) (.tmp 11) rfl hr (Below.refl B w) hB hv rfl rfl (by omega) ?_); intro o' w2 ho hb2; obtain ⟨oa, oc, rfl⟩ := ho.shape; simp only [List.length_append] at ho; have HF2 := Lib.hid (HF.out.keep hb2 hpB); obtain ⟨d0, d1, d2, d3, d4, d5, d6, d7, e0, e1, e2, e3, e4, e5, e6, e7⟩ := HF2.out.at; have HO2 := Lib.hid ho; have HB2 := Lib.hid hb2; have hs2 := hb2.size; clear ho hb2)
  go_end0
  exact ⟨_, rfl, HF2.out.set1 _, HO2.out.other hpB, by simp; omega, (HB2.out.mono (show p ≤ B by omega)).setCell (p := ⟨p, 1, none⟩) (Nat.le_refl _) _⟩

/-- the bytes that awake puts -/
def T9 : List Nat := [97, 32, 78, 79, 79, 80, 13, 10, 98]
def T8 : List Nat := [97, 32, 78, 79, 79, 80, 13, 10]
def aheadT (k : Nat) : Int := if k = 0 then 0 else ((T9.getD (k - 1) 0 : Nat) : Int)
theorem t9_on (k : Nat) (h : k < 7) : ((aheadT k == 13) && (((T9.getD k 0 : Nat) : Int) == 10)) = false := by
  have : ∀ k : Fin 7, ((aheadT k == 13) && (((T9.getD k 0 : Nat) : Int) == 10)) = false := by decide
  exact this ⟨k, h⟩
theorem t9_take (k : Nat) (h : k < 9) : T9.take (k + 1) = T9.take k ++ [T9.getD k 0] := by
  have : ∀ k : Fin 9, T9.take (k + 1) = T9.take k ++ [T9.getD k 0] := by decide
  exact this ⟨k, h⟩
theorem t9_lt (k : Nat) : ∀ n ∈ T9.take k, n < 256 := by
  have : ∀ n ∈ T9, n < 256 := by decide
  exact fun n hn => this n (List.mem_of_mem_take hn)
theorem t9_sign : NoSign ((T9.take 7 ++ [10]).take ((T9.take 7 ++ [10]).length - 2)) := by
  show NoSign [97, 32, 78, 79, 79, 80]
  have : ∀ i : Fin 6, (((([97, 32, 78, 79, 79, 80] : List Nat)[i] : Nat) : Int) == 123) = false := by decide
  exact fun i h => this ⟨i, h⟩

theorem run_nn (w : World) : Sem.run Try.prog (binOp BinOp.eql 47 Value.nilFunc Value.nilFunc) w = .ok (.bool true) w := by kernel_rfl
theorem run_fn (p : Nat) (w : World) : Sem.run Try.prog (binOp BinOp.eql 47 (.func (.func 20) #[.pointer (some ⟨p, 0, none⟩)] #[]) Value.nilFunc) w = .ok (.bool false) w := by kernel_rfl

set_option maxRecDepth 100000 in
set_option maxHeartbeats 4000000 in
/-- a whole line is there -/
theorem next_line (p gr cap : Nat) (B : Nat) (w : World) (hf : FeedB w p .nilFunc (.slice (some ⟨gr, 0, none⟩) 9 cap) (.slice none 0 0) 0 0 0 0 0) (hr : OwnB w B (.slice (some ⟨gr, 0, none⟩) 9 cap) T9) (hc : 9 ≤ cap) (hpB : p < B) (hgr : B ≤ gr) (hgs : gr < w.heap.size) :
    Calls Try.prog 14 #[.pointer (some ⟨p, 0, none⟩)] w fun e w' => ∃ o, e = .returned (.tuple #[o, .int .i64 1]) ∧ OwnB w' w.heap.size o [97, 32, 78, 79, 79, 80] ∧ FeedB w' p (lineV p) (.slice (some ⟨gr, 8, none⟩) 1 (cap - 8)) (.slice none 0 0) 0 0 0 0 0 ∧ w'.cell? ⟨gr, 8, none⟩ = some (.int .u8 98) ∧ gr < w'.heap.size ∧ Below p w w' := by
  obtain ⟨c0, c1, c2, c3, c4, c5, c6, c7, x0, x1, x2, x3, x4, x5, x6, x7⟩ := hf.at
  have HF := Lib.hid (hf.set0 (lineV p))
  have HR := Lib.hid hr
  clear hf hr
  have hnn := run_nn
  go_enter Try.func14, Try.ntmps14
  go_wp2_with fail
  have hpw := HF.out.lt
  simp only [World.size_setCell] at hpw
  go_loopw [25] (fun i wr => ∃ k : Nat, k ≤ 7 ∧ i = .int .i64 k ∧ ∃ h', FeedB wr p (lineV p) (.slice (some ⟨gr, 0, none⟩) 9 cap) h' 0 k 0 0 (aheadT k) ∧ OwnB wr w.heap.size h' (T9.take k) ∧ w.heap.size ≤ wr.heap.size ∧ Below p w wr ∧ Kept p w.heap.size w wr) (fun i _ => 9 - (intOf i).toNat)
  case atStart => exact ⟨0, by omega, rfl, .slice none 0 0, HF.out, World.ownsRow_nil _ _ _ _, by simp, (Below.refl _ _).setCell (p := ⟨p, 0, none⟩) (Nat.le_refl _) _, (Kept.refl _ _ _).set⟩
  case round =>
    obtain ⟨k, hk, rfl, h', hfk, hok, hsz, hbk, hkk⟩ := hrel
    obtain ⟨d0, d1, d2, d3, d4, d5, d6, d7, y0, y1, y2, y3, y4, y5, y6, y7⟩ := hfk.at
    have hcell : wr.cell? ⟨gr, k, none⟩ = some (.int .u8 ((T9.getD k 0 : Nat) : Int)) := by
      rw [hkk.cell hgs (by omega), HR.out.cell rfl k (by show k < 9; omega)]
      rw [List.getD_eq_getElem?_getD, List.getElem?_eq_getElem (show k < T9.length by show k < 9; omega)]; rfl
    have HFK := Lib.hid hfk
    have HBK := Lib.hid (And.intro hbk hkk)
    clear hfk hbk hkk
    unfold lineV at d0
    by_cases hk7 : k < 7
    · have HON := t9_on k hk7
      have HT := Lib.hid (t9_take k (by omega))
      go_wp2_with fail
      refine (line_on p (lineV p) _ h' k (aheadT k) (T9.take k) (T9.getD k 0) w.heap.size wr HFK.out hok hpw hsz (by omega) (by simp; omega) HON).mono ?_
      rintro e w2 ⟨h2, rfl, hf2, ho2, hs2, hb2, hk2⟩
      go_wp2_with fail
      go_roundw
      case rel => exact ⟨k + 1, by omega, by go_num, h2, by exact_mod_cast hf2, by rw [HT.out]; exact ho2, by omega, HBK.out.1.trans (hb2.mono (by omega)), HBK.out.2.trans hk2⟩
      case measure => simp [intOf]; omega
    · obtain rfl : k = 7 := by omega
      have hcell7 : wr.cell? ⟨gr, 7, none⟩ = some (.int .u8 10) := hcell
      have HF7 : Hid (FeedB wr p (lineV p) (.slice (some ⟨gr, 0, none⟩) 9 cap) h' 0 7 0 0 13) := HFK
      clear hcell HFK
      have hc8 : ¬ cap = 8 := by omega
      go_wp2_with fail
      refine (line_end p (lineV p) _ h' 7 (T9.take 7) w.heap.size wr HF7.out hok (t9_lt 7) hpw hsz (by omega) (by decide) t9_sign).mono ?_
      rintro e w2 ⟨h2, rfl, hf2, ho2, hs2, hb2, hk2⟩
      obtain ⟨g2, cap2, rfl, hg2, hg2s⟩ := ho2.some (by decide)
      have HF8 : Hid (FeedB w2 p (lineV p) (.slice (some ⟨gr, 0, none⟩) 9 cap) (.slice (some ⟨g2, 0, none⟩) 8 cap2) 0 8 0 0 10) := Lib.hid hf2
      have HO8 : Hid (OwnB w2 w.heap.size (.slice (some ⟨g2, 0, none⟩) 8 cap2) T8) := Lib.hid ho2
      have HB8 := Lib.hid (And.intro (HBK.out.1.trans (hb2.mono (by omega))) (HBK.out.2.trans hk2))
      clear hf2 ho2 hb2 hk2 HF7 HBK hok d0 d1 d2 d3 d4 d5 d6 d7 y0 y1 y2 y3 y4 y5 y6 y7 hcell7
      obtain ⟨d0, d1, d2, d3, d4, d5, d6, d7, y0, y1, y2, y3, y4, y5, y6, y7⟩ := HF8.out.at
      go_wp2_with fail
      have F9 := HF8.out.set1 (.slice (some ⟨gr, 8, none⟩) 1 (cap - 8))
      have O9 : OwnB (w2.setCell ⟨p, 1, none⟩ (.slice (some ⟨gr, 8, none⟩) 1 (cap - 8))) w.heap.size (.slice (some ⟨g2, 0, none⟩) 8 cap2) T8 := HO8.out.other hpw
      have B9 : Below p w (w2.setCell ⟨p, 1, none⟩ (.slice (some ⟨gr, 8, none⟩) 1 (cap - 8))) := HB8.out.1.setCell (p := ⟨p, 1, none⟩) (Nat.le_refl _) _
      have K9 : Kept p w.heap.size w (w2.setCell ⟨p, 1, none⟩ (.slice (some ⟨gr, 8, none⟩) 1 (cap - 8))) := HB8.out.2.set
      have z9 : (w2.setCell ⟨p, 1, none⟩ (.slice (some ⟨gr, 8, none⟩) 1 (cap - 8))).heap.size = w2.heap.size := by simp
      clear d0 d1 d2 d3 d4 d5 d6 d7 y0 y1 y2 y3 y4 y5 y6 y7 HF8 HO8 HB8
      generalize w2.setCell ⟨p, 1, none⟩ (.slice (some ⟨gr, 8, none⟩) 1 (cap - 8)) = W9 at *
      have hz9 : w.heap.size ≤ W9.heap.size := by omega
      have hg9 : g2 < W9.heap.size := by omega
      clear z9
      have e2 := F9.at.c2
      have HF9 := Lib.hid F9
      have hcap2 : 8 ≤ cap2 := by obtain ⟨_, _, _, e, h1, h2, _⟩ := O9.row (by decide); simp only [Value.slice.injEq] at e; omega
      have hci : (6 : Int) ≤ (cap2 : Int) := by omega
      have hc6 : 6 ≤ cap2 := by omega
      have hw6 : IntKind.i64.wrap 6 = 6 := IntWalk.i64_in _ (by decide)
      have hwi : IntKind.i64.wrap ((8 : Int) - 2) = 6 := IntWalk.i64_in _ (by decide)
      have HO9 := Lib.hid (ownB_part O9 (by decide) 6 (by decide))
      have HB9 := Lib.hid (And.intro B9 K9)
      clear F9 O9 B9 K9
      go_cut [7] (fun o wx => OwnB wx W9.heap.size o (T8.take 6) ∧ Below W9.heap.size W9 wx)
      case first =>
        go_region_held3 (fun w' => w'.cell? ⟨p, 2, none⟩ = some (.slice (some ⟨g2, 0, none⟩) 8 cap2)) (first | with_reducible exact kb | with_reducible exact e2 | go_keep)
          ((go_at_call 21; refine (clone_any _ (T8.take 6) _ (HO9.out.below (Below.refl _ _).drew) (by decide)).mono ?_; rintro e w3 ⟨o, rfl, ho, hb⟩; have hb3 : Below W9.heap.size W9 w3 := (Below.refl _ _).drew.trans hb; have kb : w3.cell? ⟨p, 2, none⟩ = some (.slice (some ⟨g2, 0, none⟩) 8 cap2) := (hb3.cell (p := ⟨p, 2, none⟩) (by show p < _; omega)).trans e2; have HH : Hid (OwnB w3 W9.heap.size o (T8.take 6) ∧ Below W9.heap.size W9 w3) := Lib.hid (And.intro ho hb3); clear hb hb3 ho))
        go_wp2_with fail
        go_meet
        exact ⟨HH.out.1, HH.out.2⟩
      case rest =>
        obtain ⟨ho, hb⟩ := hcut
        obtain ⟨oa, oc, rfl⟩ := ho.shape
        go_wp2_with fail
        refine (begin_any p _ _ _ _ _ _ _ _ _ (HF9.out.keep hb (by omega))).mono ?_
        rintro e w4 ⟨rfl, hf4, hz4, hb4, hk4⟩
        have hoL := ownB_lt ho
        have HO4 := Lib.hid (ownB_base (ownB_kept ho (hk4 wc.heap.size) hoL (by omega)) hz9)
        have HC8 : Hid (w4.cell? ⟨gr, 8, none⟩ = some (.int .u8 98)) := Lib.hid (by
          have h1 := HR.out.cell rfl 8 (by decide)
          have hbs := hb.size
          rw [(hk4 wc.heap.size).cell (by omega) (by omega), hb.cell (p := ⟨gr, 8, none⟩) (by show gr < _; omega), HB9.out.2.cell hgs (by omega), h1]
          rfl)
        have HF4 := Lib.hid hf4
        have HB4 := Lib.hid ((HB9.out.1.trans (hb.mono (by omega))).trans hb4)
        have hbs := hb.size
        clear ho hb hf4 hb4 hk4
        go_wp2_with fail
        exact bodyPost_ret (v := .tuple #[.slice oa (T8.take 6).length oc, .int .i64 1]) (by simp [results, Try.results14, go_sem]) rfl ⟨_, rfl, HO4.out, HF4.out, HC8.out, by omega, HB4.out⟩
end Go.Proofs.Ytgafalobbhoaoaa
