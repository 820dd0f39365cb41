/-
  The contracts of Open at a folder of one message, and of awake.
-/
import Derived.Test.YtligplnmgoailaaViewHeld
namespace Go.Proofs.Ytligplnmgoailaa
set_option linter.unusedVariables false
open Go.RowKit

/-- a sight's row -/
def SgRow (w : World) (q : Nat) (a b c d e : Value) : Prop := w.heap[q]? = some (.cells #[a, b, c, d, e] 29 (0, 0))
theorem SgRow.cells {w : World} {q : Nat} {a b c d e : Value} (r : SgRow w q a b c d e) : w.cell? ⟨q, 0, none⟩ = some a ∧ w.cell? ⟨q, 1, none⟩ = some b ∧ w.cell? ⟨q, 2, none⟩ = some c ∧ w.cell? ⟨q, 3, none⟩ = some d ∧ w.cell? ⟨q, 4, none⟩ = some e := by
  have h : ∀ j, w.cell? ⟨q, j, none⟩ = #[a, b, c, d, e][j]? := fun j => cell_of_row _ _ j _ 29 (0, 0) r
  exact ⟨h 0, h 1, h 2, h 3, h 4⟩
theorem SgRow.froz {w : World} {q : Nat} {a b c d e : Value} (r : SgRow w q a b c d e) (j : Nat) : w.frozen? ⟨q, j, none⟩ = false := frozen_of_row _ _ _ _ _ r
theorem SgRow.below {w w' : World} {q S : Nat} {a b c d e : Value} (r : SgRow w q a b c d e) (hb : Below S w w') (hq : q < S) : SgRow w' q a b c d e := by
  unfold SgRow; rw [hb.block _ hq]; exact r
theorem SgRow.lt {w : World} {q : Nat} {a b c d e : Value} (r : SgRow w q a b c d e) : q < w.heap.size := (Array.getElem?_eq_some_iff.1 r).1
theorem SgRow.other {w : World} {q p j : Nat} {a b c d e v : Value} (r : SgRow w q a b c d e) (h : q ≠ p) : SgRow (w.setCell ⟨p, j, none⟩ v) q a b c d e := by
  unfold SgRow World.setCell
  simp only [Array.getElem?_modify]
  rw [if_neg (by simpa using fun e => h e.symm)]
  exact r
theorem SgRow.set3 {w : World} {q : Nat} {a b c d e : Value} (r : SgRow w q a b c d e) (x : Value) : SgRow (w.setCell ⟨q, 3, none⟩ x) q a b c x e := heap_setCell_same w q 3 _ _ _ r
theorem SgRow.set4 {w : World} {q : Nat} {a b c d e : Value} (r : SgRow w q a b c d e) (x : Value) : SgRow (w.setCell ⟨q, 4, none⟩ x) q a b c d x := heap_setCell_same w q 4 _ _ _ r
theorem SgRow.set0 {w : World} {q : Nat} {a b c d e : Value} (r : SgRow w q a b c d e) (x : Value) : SgRow (w.setCell ⟨q, 0, none⟩ x) q x b c d e := heap_setCell_same w q 0 _ _ _ r
theorem SgRow.set1 {w : World} {q : Nat} {a b c d e : Value} (r : SgRow w q a b c d e) (x : Value) : SgRow (w.setCell ⟨q, 1, none⟩ x) q a x c d e := heap_setCell_same w q 1 _ _ _ r
theorem SgRow.set2 {w : World} {q : Nat} {a b c d e : Value} (r : SgRow w q a b c d e) (x : Value) : SgRow (w.setCell ⟨q, 2, none⟩ x) q a b x d e := heap_setCell_same w q 2 _ _ _ r

theorem ownN_nil (w : World) (B : Nat) : OwnN w B (.slice none 0 0) [] := owns_nil _ _ _ _
theorem Try.info46 : (Try.prog.info? 46).map (fun i => (i.zero, i.size, i.bytes)) = some (some (.slice none 0 0), 1, 24) := by kernel_rfl
theorem appN0 {ops : Array Oper} {rest : List Oper} {o : Oper} {a : Act} {Q : Exit → Act → World → Prop} (hgd : o.guard = none) (s x : Operand)
    (ho : o.op = .call { callee := .builtin .append, args := #[s, x], argTypes := #[26, 26] }) {wr : World} {z : Int} {g : Nat}
    (hs : a.eval s = .slice none 0 0) (hx : a.eval x = .slice (some ⟨g, 0, none⟩) 1 1) (hg : g = wr.heap.size)
    (h : ∀ o' w2, OwnN w2 wr.heap.size o' [z] → Below wr.heap.size wr w2 → wpList Try.prog ops Q rest (a.put o.dst o') w2) :
    wpList Try.prog ops Q (o :: rest) a (wr.alloc (.cells #[.int .u32 z] 22)) := by
  subst hg
  exact appN hgd s x ho (ownN_nil wr wr.heap.size) (Below.refl _ _) (Nat.le_refl _) hs hx (by decide) h
/-- 'append(nil, x)' of no flags -/
theorem appF {ops : Array Oper} {rest : List Oper} {o : Oper} {a : Act} {Q : Exit → Act → World → Prop} (hgd : o.guard = none) (s x : Operand)
    (ho : o.op = .call { callee := .builtin .append, args := #[s, x], argTypes := #[27, 27] }) {wr : World}
    {g : Nat} (hs : a.eval s = .slice none 0 0) (hx : a.eval x = .slice (some ⟨g, 0, none⟩) 1 1) (hg : g = wr.heap.size)
    (h : ∀ oa oc w2, Below wr.heap.size wr w2 → wpList Try.prog ops Q rest (a.put o.dst (.slice oa 1 oc)) w2) :
    wpList Try.prog ops Q (o :: rest) a (wr.alloc (.cells #[.slice none 0 0] 46)) := by
  subst hg
  obtain ⟨i0, hi, hz0, hz1, hz2⟩ := info_parts Try.info46
  refine wpList_append_own _ hgd s x 27 ho wr.heap.size 46 i0 _ 1 24 Try.underlying27 hi hz0 hz1 hz2 rfl (by decide) (.slice none 0 0) 0 [] hs (owns_nil _ _ _ _) ⟨wr.heap.size, 0, none⟩ 1 1 [.slice none 0 0] hx rfl (row_new wr #[.slice none 0 0] 46 (0, 0)) (by simp [Value.oneCell']) (by simp [maxLen]) (by omega) (by simp) ?_
  intro o' w2 ho' hgr _
  obtain ⟨oa, oc, rfl, _⟩ := owns_shape ho'
  exact h oa oc w2 (((Below.refl _ _).alloc (Nat.le_refl _) _).grown hgr (by simp) (by simp [Value.ownBlock]))

theorem owns_other {w : World} {B e size n p j : Nat} {v x : Value} {xs : List Value} (h : w.ownsRow B e size v n xs) (hp : ∀ k, v.ownBlock = some k → k ≠ p) : (w.setCell ⟨p, j, none⟩ x).ownsRow B e size v n xs := by
  refine ⟨h.1, ?_⟩
  rcases h.2 with h2 | ⟨g, cap, cur, rfl, hg, hh, r⟩
  · exact .inl h2
  · refine .inr ⟨g, cap, cur, rfl, hg, ?_, r⟩
    unfold World.setCell
    simp only [Array.getElem?_modify]
    rw [if_neg (by have := hp g rfl; simpa using fun e => this e.symm)]
    exact hh
theorem owns_base {w : World} {B B' e size n : Nat} {v : Value} {xs : List Value} (h : w.ownsRow B e size v n xs) (hB : B' ≤ B) : w.ownsRow B' e size v n xs := by
  refine ⟨h.1, ?_⟩
  rcases h.2 with h2 | ⟨g, cap, cur, rfl, hg, hh, r⟩
  · exact .inl h2
  · exact .inr ⟨g, cap, cur, rfl, by omega, hh, r⟩

theorem three_rows (w : World) (a b c : Obj) : (((w.alloc a).alloc b).alloc c).heap[w.heap.size + 1]? = some b ∧ (((w.alloc a).alloc b).alloc c).heap[w.heap.size + 2]? = some c := by
  refine ⟨(((Below.refl ((w.alloc a).alloc b).heap.size _).alloc (Nat.le_refl _) c).block (w.heap.size + 1) (by simp)).trans (two_row w a b), ?_⟩
  have := two_row (w.alloc a) b c
  rwa [World.size_alloc] at this

set_option maxRecDepth 8000 in
set_option maxHeartbeats 2000000 in
theorem open_one (L : Nat) (w : World) (hr : w.heap[L]? = some (.cells hv 49 (0, 0))) : Calls Try.prog 9 #[.agg (fv L), .bool true] w fun e w' => ∃ u fa fc, e = .returned (.agg (sightV ⟨#[97]⟩ 2 true u (.slice fa 1 fc))) ∧ OwnN w' w.heap.size u [3] ∧ Below w.heap.size w w' := by
  have hL : L < w.heap.size := (Array.getElem?_eq_some_iff.1 hr).1
  have HRow : Hid (∀ W, Below w.heap.size w W → W.heap[L]? = some (.cells hv 49 (0, 0))) := Lib.hid fun W hb => (hb.block L hL).trans hr
  clear hr
  go_enter Try.func9, Try.ntmps9
  unfold fv
  go_wp2_with fail
  have hb0 := (((Below.refl w.heap.size w).alloc (Nat.le_refl _) (.cells (fv L) 25)).alloc (by simp) (.cells #[.string ⟨#[]⟩, .int .u32 0, .bool false, .slice none 0 0, .slice none 0 0] 29)).alloc (by simp; omega) (.cells #[.string ⟨#[97]⟩, .int .u32 2, .bool true, .slice none 0 0, .slice none 0 0] 29)
  refine (see_one L _ (HRow.out _ hb0)).mono ?_
  rintro e w1 ⟨o, rfl, ho, hb1⟩
  have hR1 : SgRow w1 (w.heap.size + 1) (.string ⟨#[]⟩) (.int .u32 0) (.bool false) (.slice none 0 0) (.slice none 0 0) := SgRow.below (three_rows w _ _ _).1 hb1 (by simp)
  have hS1 : SgRow w1 (w.heap.size + 1 + 1) (.string ⟨#[97]⟩) (.int .u32 2) (.bool true) (.slice none 0 0) (.slice none 0 0) := SgRow.below (three_rows w _ _ _).2 hb1 (by simp)
  have hs1 := hb1.size
  simp only [World.size_alloc] at hs1
  have HB1 : Hid (Below w.heap.size w w1) := Lib.hid (hb0.trans (hb1.mono (by simp; omega)))
  obtain ⟨g, cap, cur, rfl, hg, hh, hn, hm, hx⟩ := ho.2.resolve_left (by rintro ⟨_, h⟩; cases h)
  have hgl : g < w1.heap.size := (Array.getElem?_eq_some_iff.1 hh).1
  have c : ∀ j, j < 9 → w1.cell? ⟨g, j, none⟩ = hv.toList[j]? := fun j hj => World.ownsRow.cellAt ho j (by omega)
  have c0 : w1.cell? ⟨g, 0, none⟩ = some (.int .u32 3) := c 0 (by decide)
  have c1 : w1.cell? ⟨g, 1, none⟩ = some (.int .u32 0) := c 1 (by decide)
  have c2 : w1.cell? ⟨g, 2, none⟩ = some (.slice none 0 0) := c 2 (by decide)
  have c3 : w1.cell? ⟨g, 3, none⟩ = some (.string ⟨#[]⟩) := c 3 (by decide)
  have c4 : w1.cell? ⟨g, 4, none⟩ = some (.int .i64 0) := c 4 (by decide)
  have c5 : w1.cell? ⟨g, 5, none⟩ = some (.bool false) := c 5 (by decide)
  have c6 : w1.cell? ⟨g, 6, none⟩ = some (.slice none 0 0) := c 6 (by decide)
  have c7 : w1.cell? ⟨g, 7, none⟩ = some (.bool false) := c 7 (by decide)
  have c8 : w1.cell? ⟨g, 8, none⟩ = some (.int .i64 0) := c 8 (by decide)
  have HR1 := Lib.hid hR1
  have HS1 := Lib.hid hS1
  obtain ⟨d0, d1, d2, d3, d4⟩ := hS1.cells
  have f3 := hS1.froz 3
  clear c ho hb1 hR1 hS1 hh hx hb0
  generalize hS : w.heap.size + 1 + 1 = S at *
  generalize hR : w.heap.size + 1 = R at *
  have n0 : S ≠ R := by omega
  have n00 : R ≠ S := by omega
  have n1 : S ≠ w1.heap.size := by omega
  have n3 : S < w1.heap.size := by omega
  have n4 : R < w1.heap.size := by omega
  have n5 : w.heap.size < R := by omega
  have n6 : w.heap.size < S := by omega
  clear hS hR
  have n2 : g ≠ w1.heap.size := by omega
  go_wp2_with fail
  refine wp_loop_rounds 2 ?_
  rw [rounds_succ]
  go_wp2_with (first
    | (at_builtin
       refine appN0 rfl (.tmp 22) (.tmp 25) rfl rfl rfl (by simp) ?_
       intro o' w2 ho' hb2
       have hb12 : Below w1.heap.size w1 w2 := ((Below.refl _ _).alloc (Nat.le_refl _) _).trans (hb2.mono (by simp))
       have HO2 := Lib.hid ho'
       obtain ⟨oa, oc, rfl, _, _, _, hox⟩ := owns_shape ho'
       have hT2 : w2.heap[w1.heap.size]? = some (.cells hv 49 (0, 0)) := (hb2.block w1.heap.size (by simp)).trans (heap_alloc_new w1 _)
       have t2 : w2.cell? ⟨w1.heap.size, 2, none⟩ = some (.slice none 0 0) := cell_of_row _ _ 2 _ _ _ hT2
       have HS2 := Lib.hid (HS1.out.below hb12 n3)
       have HR2 := Lib.hid (HR1.out.below hb12 n4)
       have HB2 := Lib.hid (HB1.out.trans (hb12.mono (by omega)))
       have hs2 := hb2.size
       simp only [World.size_alloc] at hs2
       clear c0 c1 c2 c3 c4 c5 c6 c7 c8 d0 d1 d2 d3 d4 f3 ho' hb2 hb12 hT2
       obtain ⟨d0, d1, d2, d3, d4⟩ := HS2.out.cells
       have f3 := HS2.out.froz 3
       have f4 := HS2.out.froz 4
       clear d0 d1 d2)
    | (at_builtin
       refine appF rfl (.tmp 29) (.tmp 32) rfl rfl rfl (by simp) ?_
       intro fa fc w3 hb3
       have HS3 := Lib.hid ((HS2.out.set3 (.slice oa 1 oc)).below hb3 (by simp; exact HS2.out.lt))
       have HR3 := Lib.hid ((HR2.out.other (p := S) (j := 3) (v := .slice oa 1 oc) n00).below hb3 (by simp; exact HR2.out.lt))
       have HO3 : Hid (OwnN w3 w.heap.size (.slice oa 1 oc) [3]) := Lib.hid (owns_base (owns_keep (owns_other (p := S) (j := 3) (x := .slice oa 1 oc) HO2.out (fun k hk => by have := owns_le HO2.out k hk; simp at this; omega)) hb3 (fun k hk => by have := owns_lt HO2.out k hk; simp; exact this)) (by simp; omega))
       have HN3 : Hid (∀ k, (Value.slice oa 1 oc).ownBlock = some k → k ≠ S ∧ k ≠ R) := Lib.hid (fun k hk => by have := owns_le HO2.out k hk; simp at this; omega)
       have HB3 := Lib.hid ((HB2.out.setCell (p := ⟨S, 3, none⟩) (Nat.le_of_lt n6) (.slice oa 1 oc)).trans (hb3.mono (by simp; omega)))
       have hs3 := hb3.size
       simp only [World.size_setCell] at hs3
       clear d3 d4 f3 f4 t2 hb3
       obtain ⟨d0, d1, d2, d3, d4⟩ := HS3.out.cells
       obtain ⟨e0, e1, e2, e3, e4⟩ := HR3.out.cells
       have f4 := HS3.out.froz 4
       have k0 := HR3.out.froz 0
       have k1 := HR3.out.froz 1
       have k2 := HR3.out.froz 2
       have k3 := HR3.out.froz 3
       have k4 := HR3.out.froz 4))
  rw [rounds_succ]
  go_wp2_with fail
  have hrow := ((((((HR3.out.other (p := S) (j := 4) (v := .slice fa 1 fc) n00).set0 (.string ⟨#[97]⟩)).set1 (.int .u32 2)).set2 (.bool true)).set3 (.slice oa 1 oc)).set4 (.slice fa 1 fc))
  refine bodyPost_ret (v := .agg (sightV ⟨#[97]⟩ 2 true (.slice oa 1 oc) (.slice fa 1 fc))) (results_cell_row rfl _ _ R 29 _ (0, 0) _ rfl hrow Try.underlying29 rfl (by kernel_rfl)) rfl ⟨_, fa, fc, rfl, ?_, ?_⟩
  · exact owns_other (owns_other (owns_other (owns_other (owns_other (owns_other HO3.out (fun k hk => (HN3.out k hk).1)) (fun k hk => (HN3.out k hk).2)) (fun k hk => (HN3.out k hk).2)) (fun k hk => (HN3.out k hk).2)) (fun k hk => (HN3.out k hk).2)) (fun k hk => (HN3.out k hk).2)
  · exact (((((HB3.out.setCell (p := ⟨S, 4, none⟩) (Nat.le_of_lt n6) _).setCell (p := ⟨R, 0, none⟩) (Nat.le_of_lt n5) _).setCell (p := ⟨R, 1, none⟩) (Nat.le_of_lt n5) _).setCell (p := ⟨R, 2, none⟩) (Nat.le_of_lt n5) _).setCell (p := ⟨R, 3, none⟩) (Nat.le_of_lt n5) _).setCell (p := ⟨R, 4, none⟩) (Nat.le_of_lt n5) _
end Go.Proofs.Ytligplnmgoailaa
