/-
  (*strings.Replacer).build at the four texts: the walk.
-/
import Derived.Test.YtghibofnfjnfcaaGreatDoorRepB
namespace Go.Proofs.YtghibofnfjnfcaaGreatDoor
set_option linter.unusedVariables false
open Go.RowKit

theorem owns_shapeZ {w : World} {B : Nat} {v : Value} {T : List ByteArray} {x : ByteArray} (h : OwnS w B v (T ++ [x])) : ∃ g c cur, v = .slice (some ⟨g, 0, none⟩) (T.length + 1) c ∧ B ≤ g ∧ w.heap[g]? = some (.cells cur 9 (0, 0)) := by
  rcases h.2 with ⟨_, h0⟩ | ⟨g, c, cur, hv, hb, hh, _⟩
  · simp at h0
  · exact ⟨g, c, cur, by rw [hv]; simp, hb, hh⟩
/-- what is known behind the append of a round -/
theorem rnd {w w2 w5 : World} {B : Nat} {q s own o5 : Value} {T : List ByteArray} {x : ByteArray} {A C : Obj} {n : Nat} (hTn : T.length + 1 = n) (hB : BsR w2 B q s own) (hb2 : Below w.heap.size w w2) (hn : own.ownBlock ≠ some B)
    (ho : OwnS w5 w.heap.size o5 (T ++ [x])) (hb : Below w.heap.size ((w2.alloc A).alloc C) w5) (hg : ((w2.alloc A).alloc C).grownBy w5 own.ownBlock) :
    ∃ t c, o5 = .slice (some ⟨t, 0, none⟩) n c ∧ BsR w5 B q s own ∧ Below w.heap.size w w5 ∧ t ≠ B ∧ t < w5.heap.size ∧ w.heap.size ≤ t := by
  subst hTn
  have hs2 := hb2.size
  have h1 : BsR w5 B q s own := (hB.below (((Below.refl w2.heap.size w2).alloc (Nat.le_refl _) A).alloc (by simp) C) hB.lt).grown hg hn
  obtain ⟨t, c, cur, rfl, ht, hl⟩ := owns_shapeZ ho
  refine ⟨t, c, rfl, h1, ((hb2.alloc hs2 A).alloc (by simp; omega) C).trans hb, ?_, (Array.getElem?_eq_some_iff.1 hl).1, ht⟩
  intro e
  subst e
  unfold BsR at h1
  rw [hl] at h1
  simp at h1
/-- the new list stored, the bytes made, stored -/
theorem rnd2 {w w5 : World} {B t n c : Nat} {q s own : Value} {T : List ByteArray} (hB : BsR w5 B q s own) (hb : Below w.heap.size w w5) (htB : t ≠ B) (htl : t < w5.heap.size) (hBw : w.heap.size ≤ B) (ho : OwnS w5 w.heap.size (.slice (some ⟨t, 0, none⟩) n c) T) (x : ByteArray) (hx : x.size = 2) :
    ∃ cq w7, (convert 9 27 (.string x)).run Tryz.prog (w5.setCell ⟨B, 256, none⟩ (.slice (some ⟨t, 0, none⟩) n c)) = .ok (.slice (some ⟨w5.heap.size, 0, none⟩) 2 cq) w7 ∧ BsR w7 B q s (.slice (some ⟨t, 0, none⟩) n c) ∧ Below w.heap.size w w7 ∧ OwnS w7 w.heap.size (.slice (some ⟨t, 0, none⟩) n c) T ∧ CellB w7 w5.heap.size (x.data.toList.map UInt8.toNat) ∧ w5.heap.size < w7.heap.size ∧ Below w5.heap.size (w5.setCell ⟨B, 256, none⟩ (.slice (some ⟨t, 0, none⟩) n c)) w7 := by
  have hsz : (w5.setCell ⟨B, 256, none⟩ (.slice (some ⟨t, 0, none⟩) n c)).heap.size = w5.heap.size := by simp [World.setCell]
  obtain ⟨cq, w7, h1, h2, h3, h4⟩ := run_txt2 x hx (w5.setCell ⟨B, 256, none⟩ (.slice (some ⟨t, 0, none⟩) n c))
  rw [hsz] at h1 h2 h3 h4
  exact ⟨cq, w7, h1, (hB.setT _).below h2 hB.lt, (below_setZ hb hBw _).trans (h2.mono hb.size), owns_keepZ (owns_setZ ho (by simp [Value.ownBlock]; exact htB)) h2 (by intro k hk; simp only [Value.ownBlock, Option.some.injEq] at hk; omega), h4, h3, h2⟩
theorem CellB.other {w : World} {g B j : Nat} {l : List Nat} (h : CellB w g l) (hn : g ≠ B) (v : Value) : CellB (w.setCell ⟨B, j, none⟩ v) g l := fun i hi => (World.cell?_setCell_other _ _ _ _ (fun e => hn (by have := congrArg Addr.block e; simpa using this.symm))).trans (h i hi)

/-- the algorithm for the four texts -/
def Built (S : Nat) (w : World) (B : Nat) : Prop := ∃ q cq s cs t ct, BsR w B (.slice (some ⟨q, 0, none⟩) 2 cq) (.slice (some ⟨s, 0, none⟩) 2 cs) (.slice (some ⟨t, 0, none⟩) 2 ct) ∧ CellB w q [92, 34] ∧ CellB w s [92, 92] ∧
  w.cell? ⟨t, 0, none⟩ = some (.string ⟨#[34]⟩) ∧ w.cell? ⟨t, 1, none⟩ = some (.string ⟨#[92]⟩) ∧ S ≤ B ∧ S ≤ q ∧ S ≤ s ∧ S ≤ t

set_option maxRecDepth 100000 in
set_option maxHeartbeats 8000000 in
theorem build_any (P h c : Nat) (d s m : Int) (r : Value) (w : World) (hR : R5 w P d s m r (.slice (some ⟨h, 0, none⟩) 4 c)) (hc : ∀ j (k : j < oldnew.length), w.cell? ⟨h, j, none⟩ = some (.string oldnew[j])) :
    Calls Tryz.prog 50 #[.pointer (some ⟨P, 0, none⟩)] w fun e w' => ∃ B, e = .returned (.iface 101 (.pointer (some ⟨B, 0, none⟩))) ∧ Built w.heap.size w' B ∧ Below w.heap.size w w' := by
  obtain ⟨p0, p1, p2, p3, p4⟩ := hR.cells
  have c0 : w.cell? ⟨h, 0, none⟩ = some (.string ⟨#[92]⟩) := hc 0 (by decide)
  have c1 : w.cell? ⟨h, 1, none⟩ = some (.string ⟨#[92, 92]⟩) := hc 1 (by decide)
  have c2 : w.cell? ⟨h, 2, none⟩ = some (.string ⟨#[34]⟩) := hc 2 (by decide)
  have c3 : w.cell? ⟨h, 3, none⟩ = some (.string ⟨#[92, 34]⟩) := hc 3 (by decide)
  have HC := Lib.hid hc
  have HR := Lib.hid hR
  clear hR hc
  go_enter Tryz.func50, Tryz.ntmps50
  go_wp2_with fail
  refine wp_loop_rounds 3 ?_
  rw [rounds_succ]
  go_wp2_with fail
  rw [rounds_succ]
  go_wp2_with fail
  rw [rounds_succ]
  obtain ⟨i0, hi, hz0, hz1, hz2⟩ := info_parts Tryz.info9
  have HI := Lib.hid hi
  clear hi
  go_wp2_with (first
    | (at_make
       refine wpList_make_own _ rfl _ _ 65 rfl w.heap.size 9 i0 (.string ⟨#[]⟩) 1 Tryz.underlying65 HI.out hz0 hz1 .i64 .i64 2 2 rfl rfl rfl (by rw [hz2]; decide) (by decide) (Nat.le_refl _) ?_
       intro w1 ho1 hg1
       have HO1 := Lib.hid ho1
       have HB1 : Hid (Below w.heap.size w w1) := Lib.hid ((Below.refl _ _).grown hg1 (Nat.le_refl _) (by simp))
       clear ho1 hg1)
    | (refine build_bs rfl (.tmp 94) rfl rfl ⟨_, _, _, rfl⟩ ?_)
    | (refine alloc_bs rfl rfl ?_)
    | (refine store_bs rfl (.tmp 11) (.tmp 95) rfl rfl rfl (rcells_len _ _ _) (rcells_len _ _ _) (rcells_one rfl rfl rfl) ?_))
  have hB : Hid (BsR (w1.alloc (.cells (rcells (.slice none 0 0) (.slice none 0 0) (.slice (some ⟨w.heap.size, 0, none⟩) 0 2)).toArray 100)) w1.heap.size (.slice none 0 0) (.slice none 0 0) (.slice (some ⟨w.heap.size, 0, none⟩) 0 2)) := Lib.hid (heap_alloc_new w1 _)
  have hal := (Below.refl w1.heap.size w1).alloc (Nat.le_refl _) (.cells (rcells (.slice none 0 0) (.slice none 0 0) (.slice (some ⟨w.heap.size, 0, none⟩) 0 2)).toArray 100)
  have HO2 : Hid (OwnS _ w.heap.size (.slice (some ⟨w.heap.size, 0, none⟩) 0 2) []) := Lib.hid (owns_keepZ HO1.out hal (owns_ltZ HO1.out))
  have HB2 := Lib.hid (HB1.out.trans (hal.mono HB1.out.size))
  have hws : w.heap.size < w1.heap.size := owns_ltZ HO1.out _ rfl
  have hw2 : w1.heap.size < (w1.alloc (.cells (rcells (.slice none 0 0) (.slice none 0 0) (.slice (some ⟨w.heap.size, 0, none⟩) 0 2)).toArray 100)).heap.size := by simp
  have hhw : h < w.heap.size := World.block_lt_of_cell? w _ c0
  clear hal HO1 HB1 p0 p1 p2 p3 p4
  generalize w1.alloc (.cells (rcells (.slice none 0 0) (.slice none 0 0) (.slice (some ⟨w.heap.size, 0, none⟩) 0 2)).toArray 100) = w2 at *
  generalize w1.heap.size = B at *
  have x0 := (HB2.out.cell (p := ⟨h, 0, none⟩) hhw).trans c0
  have x1 := (HB2.out.cell (p := ⟨h, 1, none⟩) hhw).trans c1
  have x2 := (HB2.out.cell (p := ⟨h, 2, none⟩) hhw).trans c2
  have x3 := (HB2.out.cell (p := ⟨h, 3, none⟩) hhw).trans c3
  have b34 := hB.out.q
  have b256 := hB.out.t
  have hnil := fun W => Lib.run_eql_slice_nil (P := Tryz.prog) W 27 5 none 0 0 0 0 Tryz.underlying27
  have e34 : (⟨#[34]⟩ : ByteArray)[0].toNat = 34 := rfl
  have e92 : (⟨#[92]⟩ : ByteArray)[0].toNat = 92 := rfl
  have hc34 := run_34
  have hc92 := run_92
  refine wp_loop_rounds 3 ?_
  rw [rounds_succ]
  have hs2 := HB2.out.size
  go_wp2_with (at_builtin
               refine wpList_runZ (v := .slice (some ⟨w.heap.size, 0, none⟩) 0 2) rfl (.tmp 119) (.tmp 123) 65 rfl rfl rfl (run_appS 65 (s := .slice (some ⟨w.heap.size, 0, none⟩) 0 2) (S := []) (T := [⟨#[34]⟩]) (B := w.heap.size) (g := w2.heap.size + 1) (World.ownsRow.alloc (World.ownsRow.alloc HO2.out _) _) (by simp; omega) rfl (lit_cells _ _ _) (by decide)) ?_
               rintro o5 w5 ⟨ho5, hb5, hg5⟩
               obtain ⟨t5, ct5, rfl, hbs5, hbw5, htB5, htl5, hwt5⟩ := rnd (T := []) (n := 1) rfl hB.out HB2.out (by simp [Value.ownBlock]; omega) ho5 hb5 hg5
               have HO5 := Lib.hid ho5
               have HBS5 := Lib.hid hbs5
               have HBW5 := Lib.hid hbw5
               have q256 := hbs5.t
               have f256 := hbs5.froz 256
               clear ho5 hb5 hg5 hbs5 hbw5)
  obtain ⟨cq, w7, hrun7, hbs7, hbw7, ho7, hcb7, hl7, hb57⟩ := rnd2 HBS5.out HBW5.out htB5 htl5 (by omega) HO5.out ⟨#[92, 34]⟩ rfl
  have hBl := HBS5.out.lt
  have q34 := hbs7.q
  have f34 := hbs7.froz 34
  have HBS8 : Hid (BsR (w7.setCell ⟨B, 34, none⟩ (.slice (some ⟨w5.heap.size, 0, none⟩) 2 cq)) B (.slice (some ⟨w5.heap.size, 0, none⟩) 2 cq) (.slice none 0 0) (.slice (some ⟨t5, 0, none⟩) 1 ct5)) := Lib.hid (hbs7.setQ _)
  have HBW8 : Hid (Below w.heap.size w (w7.setCell ⟨B, 34, none⟩ (.slice (some ⟨w5.heap.size, 0, none⟩) 2 cq))) := Lib.hid (below_setZ hbw7 (by omega) _)
  have HO8 : Hid (OwnS (w7.setCell ⟨B, 34, none⟩ (.slice (some ⟨w5.heap.size, 0, none⟩) 2 cq)) w.heap.size (.slice (some ⟨t5, 0, none⟩) 1 ct5) [⟨#[34]⟩]) := Lib.hid (owns_setZ ho7 (by simp [Value.ownBlock]; exact htB5))
  have HCB8 : Hid (CellB (w7.setCell ⟨B, 34, none⟩ (.slice (some ⟨w5.heap.size, 0, none⟩) 2 cq)) w5.heap.size [92, 34]) := Lib.hid (CellB.other hcb7 (by omega) _)
  have hs8 : w5.heap.size < (w7.setCell ⟨B, 34, none⟩ (.slice (some ⟨w5.heap.size, 0, none⟩) 2 cq)).heap.size := by simpa [World.setCell] using hl7
  have hws5 : w.heap.size ≤ w5.heap.size := HBW5.out.size
  clear hbs7 hbw7 ho7 hcb7 hl7 hb57
  rw [hrun7]
  simp only [Result.andThen]
  rw [Oper.upon_value]
  go_wp2_with fail
  clear hrun7 q34 f34 q256 f256 b34 b256 HBS5 HBW5 HO5
  generalize w7.setCell ⟨B, 34, none⟩ (.slice (some ⟨w5.heap.size, 0, none⟩) 2 cq) = w8 at *
  generalize w5.heap.size = q5 at *
  rw [rounds_succ]
  have b92 := HBS8.out.s
  have b256 := HBS8.out.t
  have hhw8 : h < w8.heap.size := by have := HBW8.out.size; omega
  have y0 := (HBW8.out.cell (p := ⟨h, 0, none⟩) hhw).trans c0
  have y1 := (HBW8.out.cell (p := ⟨h, 1, none⟩) hhw).trans c1
  have hs8w := HBW8.out.size
  have hB8 := HBS8.out.lt
  go_wp2_with (at_builtin
               refine wpList_runZ (v := .slice (some ⟨t5, 0, none⟩) 1 ct5) rfl (.tmp 119) (.tmp 123) 65 rfl rfl rfl (run_appS 65 (s := .slice (some ⟨t5, 0, none⟩) 1 ct5) (S := [⟨#[34]⟩]) (T := [⟨#[92]⟩]) (B := w.heap.size) (g := w8.heap.size + 1) (World.ownsRow.alloc (World.ownsRow.alloc HO8.out _) _) (by simp; omega) rfl (lit_cells _ _ _) (by decide)) ?_
               rintro o9 w9 ⟨ho9, hb9, hg9⟩
               obtain ⟨t9, ct9, rfl, hbs9, hbw9, htB9, htl9, hwt9⟩ := rnd (T := [⟨#[34]⟩]) (n := 2) rfl HBS8.out HBW8.out (by simp [Value.ownBlock]; exact htB5) ho9 hb9 hg9
               have hcb9 : CellB w9 q5 [92, 34] := by
                 intro j hj
                 have h1 := HCB8.out j hj
                 rw [← h1]
                 have hne : ¬ q5 = t5 := by
                   intro e
                   subst e
                   have h2 := HCB8.out 0 (by decide)
                   have h3 := World.ownsRow.cellAt HO8.out 0 (by decide)
                   rw [h2] at h3
                   simp [bsV] at h3
                 exact World.cell?_of_block ((hg9.block q5 (by simp; omega) (by simp [Value.ownBlock]; exact hne)).trans ((((Below.refl w8.heap.size w8).alloc (Nat.le_refl _) (.cells #[.int .u8 92] 5)).alloc (by simp) (.cells #[.string ⟨#[92]⟩] 9)).block q5 hs8))
               have HO9 := Lib.hid ho9
               have HBS9 := Lib.hid hbs9
               have HBW9 := Lib.hid hbw9
               have HCB9 := Lib.hid hcb9
               have q256 := hbs9.t
               have f256 := hbs9.froz 256
               clear ho9 hb9 hg9 hbs9 hbw9 hcb9)
  obtain ⟨cs, wa, hruna, hbsa, hbwa, hoa, hcba, hla, hb9a⟩ := rnd2 HBS9.out HBW9.out htB9 htl9 (by omega) HO9.out ⟨#[92, 92]⟩ rfl
  have hBl9 := HBS9.out.lt
  have hq9 : q5 < w9.heap.size := World.block_lt_of_cell? w9 _ (HCB9.out 0 (by decide))
  have hqB : q5 ≠ B := by
    intro e
    subst e
    have h2 := HCB9.out 0 (by decide)
    have h3 := HBS9.out.no 0 (by decide) (by decide) (by decide)
    rw [h2] at h3
    simp at h3
  have q92 := hbsa.s
  have f92 := hbsa.froz 92
  have HBS : Hid (BsR (wa.setCell ⟨B, 92, none⟩ (.slice (some ⟨w9.heap.size, 0, none⟩) 2 cs)) B (.slice (some ⟨q5, 0, none⟩) 2 cq) (.slice (some ⟨w9.heap.size, 0, none⟩) 2 cs) (.slice (some ⟨t9, 0, none⟩) 2 ct9)) := Lib.hid (hbsa.setS _)
  have HBWX : Hid (Below w.heap.size w (wa.setCell ⟨B, 92, none⟩ (.slice (some ⟨w9.heap.size, 0, none⟩) 2 cs))) := Lib.hid (below_setZ hbwa (by omega) _)
  have HOX : Hid (OwnS (wa.setCell ⟨B, 92, none⟩ (.slice (some ⟨w9.heap.size, 0, none⟩) 2 cs)) w.heap.size (.slice (some ⟨t9, 0, none⟩) 2 ct9) [⟨#[34]⟩, ⟨#[92]⟩]) := Lib.hid (owns_setZ hoa (by simp [Value.ownBlock]; exact htB9))
  have HCS : Hid (CellB (wa.setCell ⟨B, 92, none⟩ (.slice (some ⟨w9.heap.size, 0, none⟩) 2 cs)) w9.heap.size [92, 92]) := Lib.hid (CellB.other hcba (by omega) _)
  have HCQ : Hid (CellB (wa.setCell ⟨B, 92, none⟩ (.slice (some ⟨w9.heap.size, 0, none⟩) 2 cs)) q5 [92, 34]) := Lib.hid (CellB.other (CellB.below (CellB.other HCB9.out hqB _) hb9a hq9) hqB _)
  have hws9 := HBW9.out.size
  clear hbsa hbwa hoa hcba hla hb9a
  rw [hruna]
  simp only [Result.andThen]
  rw [Oper.upon_value]
  go_wp2_with fail
  clear hruna q92 f92 q256 f256 b92 b256 HBS9 HBW9 HO9 HCB9
  generalize wa.setCell ⟨B, 92, none⟩ (.slice (some ⟨w9.heap.size, 0, none⟩) 2 cs) = wx at *
  rw [rounds_succ]
  go_wp2_with fail
  refine bodyPost_ret (v := .iface 101 (.pointer (some ⟨B, 0, none⟩))) (by simp [results, Tryz.results50, go_sem]) rfl ⟨B, rfl, ⟨q5, cq, w9.heap.size, cs, t9, ct9, HBS.out, HCQ.out, HCS.out, ?_, ?_, by omega, by omega, by omega, by omega⟩, HBWX.out⟩
  · exact World.ownsRow.cellAt HOX.out 0 (by decide)
  · exact World.ownsRow.cellAt HOX.out 1 (by decide)
end Go.Proofs.YtghibofnfjnfcaaGreatDoor
