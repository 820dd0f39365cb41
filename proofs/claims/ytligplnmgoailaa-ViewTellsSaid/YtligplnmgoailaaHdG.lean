/-
  CopyFolder.
-/
import Derived.Test.YtligplnmgoailaaHdF
namespace Go.Proofs.Ytligplnmgoailaa
set_option linter.unusedVariables false
open Go.RowKit
attribute [local go_sem] Oper.semAt_some

theorem HeldsIn.setOther {w : World} {v : Value} {L : List HeldD} (h : HeldsIn w v L) {p j : Nat} {u : Value} (hv : v.ownBlock ≠ some p) (hf : ∀ x ∈ L, x.fv.ownBlock ≠ some p ∧ x.bv.ownBlock ≠ some p) : HeldsIn (w.setCell ⟨p, j, none⟩ u) v L :=
  ⟨h.row.setOther hv, fun x hx => ⟨⟨(h.ok x hx).rf.1.setOther (hf x hx).1, (h.ok x hx).rf.2⟩, ⟨(h.ok x hx).rb.1.setOther (hf x hx).2, (h.ok x hx).rb.2⟩⟩⟩
theorem stored6 {w : World} {q : Nat} {z0 z1 z2 z3 z4 z5 : Value} (r : Rw w q #[z0, z1, z2, z3, z4, z5] 25) (a0 a1 a2 a3 a4 a5 : Value) : Rw ((((((w.setCell ⟨q, 0, none⟩ a0).setCell ⟨q, 1, none⟩ a1).setCell ⟨q, 2, none⟩ a2).setCell ⟨q, 3, none⟩ a3).setCell ⟨q, 4, none⟩ a4).setCell ⟨q, 5, none⟩ a5) q #[a0, a1, a2, a3, a4, a5] 25 := by
  have r0 : Rw (w.setCell ⟨q, 0, none⟩ a0) q #[a0, z1, z2, z3, z4, z5] 25 := r.set 0 a0
  have r1 : Rw ((w.setCell ⟨q, 0, none⟩ a0).setCell ⟨q, 1, none⟩ a1) q #[a0, a1, z2, z3, z4, z5] 25 := r0.set 1 a1
  have r2 : Rw (((w.setCell ⟨q, 0, none⟩ a0).setCell ⟨q, 1, none⟩ a1).setCell ⟨q, 2, none⟩ a2) q #[a0, a1, a2, z3, z4, z5] 25 := r1.set 2 a2
  have r3 : Rw ((((w.setCell ⟨q, 0, none⟩ a0).setCell ⟨q, 1, none⟩ a1).setCell ⟨q, 2, none⟩ a2).setCell ⟨q, 3, none⟩ a3) q #[a0, a1, a2, a3, z4, z5] 25 := r2.set 3 a3
  have r4 : Rw (((((w.setCell ⟨q, 0, none⟩ a0).setCell ⟨q, 1, none⟩ a1).setCell ⟨q, 2, none⟩ a2).setCell ⟨q, 3, none⟩ a3).setCell ⟨q, 4, none⟩ a4) q #[a0, a1, a2, a3, a4, z5] 25 := r3.set 4 a4
  have r5 : Rw ((((((w.setCell ⟨q, 0, none⟩ a0).setCell ⟨q, 1, none⟩ a1).setCell ⟨q, 2, none⟩ a2).setCell ⟨q, 3, none⟩ a3).setCell ⟨q, 4, none⟩ a4).setCell ⟨q, 5, none⟩ a5) q #[a0, a1, a2, a3, a4, a5] 25 := r4.set 5 a5
  exact r5
theorem stored6_helds {w : World} {q : Nat} {v : Value} {L : List HeldD} (h : HeldsIn w v L) (hv : v.ownBlock ≠ some q) (hf : ∀ x ∈ L, x.fv.ownBlock ≠ some q ∧ x.bv.ownBlock ≠ some q) (a0 a1 a2 a3 a4 a5 : Value) : HeldsIn ((((((w.setCell ⟨q, 0, none⟩ a0).setCell ⟨q, 1, none⟩ a1).setCell ⟨q, 2, none⟩ a2).setCell ⟨q, 3, none⟩ a3).setCell ⟨q, 4, none⟩ a4).setCell ⟨q, 5, none⟩ a5) v L := ((((((h.setOther hv hf (j := 0) (u := a0)).setOther hv hf (j := 1) (u := a1)).setOther hv hf (j := 2) (u := a2)).setOther hv hf (j := 3) (u := a3)).setOther hv hf (j := 4) (u := a4)).setOther hv hf (j := 5) (u := a5))
theorem stored6_below {w : World} {B q : Nat} (hq : B ≤ q) (a0 a1 a2 a3 a4 a5 : Value) : Below B w ((((((w.setCell ⟨q, 0, none⟩ a0).setCell ⟨q, 1, none⟩ a1).setCell ⟨q, 2, none⟩ a2).setCell ⟨q, 3, none⟩ a3).setCell ⟨q, 4, none⟩ a4).setCell ⟨q, 5, none⟩ a5) := (below_set (below_set (below_set (below_set (below_set (below_set (Below.refl _ _) hq (j := 0) a0) hq (j := 1) a1) hq (j := 2) a2) hq (j := 3) a3) hq (j := 4) a4) hq (j := 5) a5)
/-- what CopyFolder answers -/
def CopyPost (L : List HeldD) (w w' : World) (v : Value) : Prop := ∃ M, HeldsIn w' v M ∧ M.map keyD = L.map keyD ∧ Below w.heap.size w w'
set_option maxRecDepth 100000 in
set_option maxHeartbeats 8000000 in
theorem copyFolder_any (nm : ByteArray) (va nx up : Int) (gone : Bool) (lv : Value) (L : List HeldD) (w : World) (hL : HeldsIn w lv L) (hn : L.length ≤ 1000) :
    Calls Try.prog 7 #[.agg (foldA nm va nx up gone lv)] w fun e w' => ∃ lv', e = .returned (.agg (foldA nm va nx up gone lv')) ∧ CopyPost L w w' lv' := by
  have HL := Lib.hid hL
  obtain ⟨lb, off, la, lc, rfl, -, -, -, hla, hcell⟩ := hL.row.shape
  have HLA := Lib.hid hla
  have HC := Lib.hid hcell
  clear hL hla hcell
  unfold foldA
  go_enter Try.func7, Try.ntmps7
  go_wp2_with fail
  have HBX : Hid (Rw ((w.alloc (.cells #[.string nm, .int .u32 va, .int .u32 nx, .int .u32 up, .bool gone, .slice la L.length lc] 25)).alloc (.cells #[.string ⟨#[]⟩, .int .u32 0, .int .u32 0, .int .u32 0, .bool false, .slice none 0 0] 25)) w.heap.size #[.string nm, .int .u32 va, .int .u32 nx, .int .u32 up, .bool gone, .slice la L.length lc] 25) := Lib.hid ((Below.heap_alloc _ _ _ (by simp)).trans (heap_alloc_new w _))
  have HBZ : Hid (Rw ((w.alloc (.cells #[.string nm, .int .u32 va, .int .u32 nx, .int .u32 up, .bool gone, .slice la L.length lc] 25)).alloc (.cells #[.string ⟨#[]⟩, .int .u32 0, .int .u32 0, .int .u32 0, .bool false, .slice none 0 0] 25)) (w.heap.size + 1) #[.string ⟨#[]⟩, .int .u32 0, .int .u32 0, .int .u32 0, .bool false, .slice none 0 0] 25) := Lib.hid (two_row w _ _)
  have HBW : Hid (Below w.heap.size w ((w.alloc (.cells #[.string nm, .int .u32 va, .int .u32 nx, .int .u32 up, .bool gone, .slice la L.length lc] 25)).alloc (.cells #[.string ⟨#[]⟩, .int .u32 0, .int .u32 0, .int .u32 0, .bool false, .slice none 0 0] 25))) := Lib.hid (((Below.refl _ _).alloc (Nat.le_refl _) _).alloc (by simp) _)
  have hwz : ((w.alloc (.cells #[.string nm, .int .u32 va, .int .u32 nx, .int .u32 up, .bool gone, .slice la L.length lc] 25)).alloc (.cells #[.string ⟨#[]⟩, .int .u32 0, .int .u32 0, .int .u32 0, .bool false, .slice none 0 0] 25)).heap.size = w.heap.size + 2 := by simp
  generalize ((w.alloc (.cells #[.string nm, .int .u32 va, .int .u32 nx, .int .u32 up, .bool gone, .slice la L.length lc] 25)).alloc (.cells #[.string ⟨#[]⟩, .int .u32 0, .int .u32 0, .int .u32 0, .bool false, .slice none 0 0] 25)) = wb at *
  go_loopw [3, 4] (fun ov iv wr => ∃ (i : Nat) (M : List HeldD), iv = .int .i64 i ∧ i ≤ L.length ∧ M.length ≤ i ∧ OwnL wr (w.heap.size + 2) ov M ∧ (∀ h ∈ M, OwnFrom (w.heap.size + 2) h) ∧ Hid (M.map keyD = (L.take i).map keyD) ∧ Below (w.heap.size + 2) wb wr) (fun _ iv _ => L.length - (RowKit.intOf iv).toNat)
  case atStart => exact ⟨0, [], rfl, Nat.zero_le _, Nat.le_refl _, ownL_nil wb _, (fun _ h => nomatch h), Lib.hid (by simp), Below.refl _ _⟩
  case round =>
    obtain ⟨i, M, rfl, hi, hM, hown, hfrom, hkey, hb⟩ := hrel
    have HFR := Lib.hid hfrom
    have HO := Lib.hid hown
    have HB1 := Lib.hid hb
    have HB : Hid (Below w.heap.size w wr) := Lib.hid (HBW.out.trans (hb.mono (by omega)))
    have b5 := (HBX.out.below hb (by omega)).cell 5 (.slice la L.length lc) rfl
    clear hown hb hfrom
    by_cases hlt : i < L.length
    · have hii : (i : Int) < (L.length : Int) := by omega
      have hpos : 0 < (heldsC L).length := by rw [heldsC_len]; omega
      obtain ⟨rfl, hlb⟩ := HLA.out hpos
      have hd := HL.out.ok L[i] (List.getElem_mem hlt)
      have hsn : L.take (i + 1) = L.take i ++ [L[i]] := List.take_succ_eq_append_getElem hlt
      have hcell : ∀ j (hj : j < 9) (u : Value), (heldA L[i])[j]? = some u → wr.cell? ⟨lb, off + i * 9 + j, none⟩ = some u := fun j hj u hu => by
        have h1 := heldsC_at L i j hlt hj
        rw [hu] at h1
        obtain ⟨h2, h3⟩ := List.getElem?_eq_some_iff.1 h1
        rw [Nat.add_assoc, HB.out.cell (p := ⟨lb, off + (i * 9 + j), none⟩) hlb, HC.out (i * 9 + j) h2, h3]
      generalize L[i] = d at *
      obtain ⟨uid, up, fv, F, date, size, has, bv, B, dg, used⟩ := d
      obtain ⟨fa, fc, hfv, -⟩ := id hd.rf.1
      obtain ⟨ba, bc, hbv, -⟩ := id hd.rb.1
      simp only at hfv hbv
      subst hfv hbv
      have a0 : wr.cell? ⟨lb, off + i * 9, none⟩ = some (.int .u32 uid) := hcell 0 (by decide) _ rfl
      have a1 : wr.cell? ⟨lb, off + i * 9 + 1, none⟩ = some (.int .u32 up) := hcell 1 (by decide) _ rfl
      have a2 : wr.cell? ⟨lb, off + i * 9 + 2, none⟩ = some (.slice fa F.length fc) := hcell 2 (by decide) _ rfl
      have a3 : wr.cell? ⟨lb, off + i * 9 + 3, none⟩ = some (.string date) := hcell 3 (by decide) _ rfl
      have a4 : wr.cell? ⟨lb, off + i * 9 + 4, none⟩ = some (.int .i64 size) := hcell 4 (by decide) _ rfl
      have a5 : wr.cell? ⟨lb, off + i * 9 + 5, none⟩ = some (.bool has) := hcell 5 (by decide) _ rfl
      have a6 : wr.cell? ⟨lb, off + i * 9 + 6, none⟩ = some (.slice ba B.length bc) := hcell 6 (by decide) _ rfl
      have a7 : wr.cell? ⟨lb, off + i * 9 + 7, none⟩ = some (.bool dg) := hcell 7 (by decide) _ rfl
      have a8 : wr.cell? ⟨lb, off + i * 9 + 8, none⟩ = some (.int .i64 used) := hcell 8 (by decide) _ rfl
      have HSN := Lib.hid hsn
      have HD : Hid (HeldOk wr ⟨uid, up, .slice fa F.length fc, F, date, size, has, .slice ba B.length bc, B, dg, used⟩) := Lib.hid ⟨⟨(hd.rf.1.below ((Below.refl _ _).trans ⟨HB.out.os, HB.out.tape, HB.out.output, HB.out.size, HB.out.block⟩)), hd.rf.2⟩, ⟨hd.rb.1.below ⟨HB.out.os, HB.out.tape, HB.out.output, HB.out.size, HB.out.block⟩, hd.rb.2⟩⟩
      clear hcell hd hsn hpos
      go_wp2_with fail
      refine (copyHeld_any ⟨uid, up, .slice fa F.length fc, F, date, size, has, .slice ba B.length bc, B, dg, used⟩ wr HD.out).mono ?_
      rintro e w2 ⟨cs, rfl, ⟨uid', up', fv', F', date', size', has', bv', B', gone', used'⟩, rfl, hal, hok, hof, hb2⟩
      obtain ⟨fa', fc', hfv', -⟩ := id hok.rf.1
      obtain ⟨ba', bc', hbv', -⟩ := id hok.rb.1
      simp only at hfv' hbv'
      subst hfv' hbv'
      have HO2 := Lib.hid (HO.out.below hb2)
      have HOK2 := Lib.hid hok
      have HB2 : Hid (Below w.heap.size w w2) := Lib.hid (HB.out.trans (hb2.mono HB.out.size))
      have HAP : Hid (∀ g, u3.ownBlock = some g → (0 < F'.length → (Value.slice fa' F'.length fc').ownBlock ≠ some g) ∧ (0 < B'.length → (Value.slice ba' B'.length bc').ownBlock ≠ some g)) := Lib.hid (fun g hg => by
        have h1 := owns_lt HO.out.row g hg
        exact ⟨fun _ e => by have := hof.1 g e; omega, fun _ e => by have := hof.2 g e; omega⟩)
      have HK := Lib.hid hal.key
      have HFR3 : Hid (∀ h ∈ M ++ [(⟨uid', up', .slice fa' F'.length fc', F', date', size', has', .slice ba' B'.length bc', B', gone', used'⟩ : HeldD)], OwnFrom (w.heap.size + 2) h) := Lib.hid (fun h hh => by
        have hz := HB1.out.size
        rcases List.mem_append.1 hh with hh | hh
        · exact HFR.out h hh
        · obtain rfl := List.mem_singleton.1 hh
          exact ⟨fun k hk => by have := hof.1 k hk; omega, fun k hk => by have := hof.2 k hk; omega⟩)
      have HB3' : Hid (Below (w.heap.size + 2) wb w2) := Lib.hid (HB1.out.trans (hb2.mono (by have := HB1.out.size; omega)))
      have hsz : w.heap.size + 2 ≤ w2.heap.size := by have := HB3'.out.size; omega
      clear a0 a1 a2 a3 a4 a5 a6 a7 a8 b5
      have hMn : M.length ≤ 1000000 := by omega
      clear hal hok hof hb2
      unfold heldA
      go_wp2_with (at_builtin
                   refine appL (d := ⟨uid', up', .slice fa' F'.length fc', F', date', size', has', .slice ba' B'.length bc', B', gone', used'⟩) rfl (.tmp 12) (.tmp 19) rfl rfl rfl (by simp) rfl HO2.out HOK2.out HAP.out hsz hMn ?_
                   intro v3 w3 ho3 hb3
                   have HO3 := Lib.hid ho3
                   have HB3 := Lib.hid (HB3'.out.trans hb3)
                   clear ho3 hb3)
      go_roundw
      case rel => exact ⟨i + 1, M ++ [_], by go_num, hlt, by simp; omega, HO3.out, HFR3.out, Lib.hid (by
        rw [HSN.out, List.map_append, hkey.out]
        simp only [List.map_append, List.map_cons, List.map_nil]
        rw [HK.out]), HB3.out⟩
      case measure => simp [RowKit.intOf]; omega
    · have hii : ¬ (i : Int) < (L.length : Int) := by omega
      obtain rfl : i = L.length := by omega
      obtain ⟨oa, oc, hov, -⟩ := owns_shape HO.out.row
      subst hov
      have hz := HB1.out.size
      have RX := HBX.out.below HB1.out (by omega)
      have RZ := Lib.hid (HBZ.out.below HB1.out (by omega))
      have R1 := Lib.hid (RX.set 5 (.slice oa M.length oc))
      have RZ1 := Lib.hid (RZ.out.other (q := w.heap.size) (j := 5) (v := .slice oa M.length oc) (by omega))
      have z5 := RX.froz 5
      have d0 := R1.out.cell 0 (.string nm) rfl
      have d1 := R1.out.cell 1 (.int .u32 va) rfl
      have d2 := R1.out.cell 2 (.int .u32 nx) rfl
      have d3 := R1.out.cell 3 (.int .u32 up) rfl
      have d4 := R1.out.cell 4 (.bool gone) rfl
      have d5 := R1.out.cell 5 (.slice oa M.length oc) rfl
      have e0 := RZ1.out.cell 0 _ rfl
      have e1 := RZ1.out.cell 1 _ rfl
      have e2 := RZ1.out.cell 2 _ rfl
      have e3 := RZ1.out.cell 3 _ rfl
      have e4 := RZ1.out.cell 4 _ rfl
      have e5 := RZ1.out.cell 5 _ rfl
      have g0 := RZ1.out.froz
      have HKY : Hid (M.map keyD = L.map keyD) := Lib.hid (by rw [hkey.out, List.take_length])
      clear hkey RX
      go_wp2_with fail
      have hw1 : ∀ p, p < w.heap.size + 2 → (Value.slice oa M.length oc).ownBlock ≠ some p ∧ ∀ x ∈ M, x.fv.ownBlock ≠ some p ∧ x.bv.ownBlock ≠ some p := fun p hp => ⟨fun e => by have := owns_le HO.out.row p e; omega, fun x hx => ⟨fun e => by have := (HFR.out x hx).1 p e; omega, fun e => by have := (HFR.out x hx).2 p e; omega⟩⟩
      have hh1 := HO.out.helds.setOther (p := w.heap.size) (j := 5) (u := .slice oa M.length oc) (hw1 _ (by omega)).1 (hw1 _ (by omega)).2
      have hh6 := stored6_helds hh1 (hw1 (w.heap.size + 1) (by omega)).1 (hw1 (w.heap.size + 1) (by omega)).2 (.string nm) (.int .u32 va) (.int .u32 nx) (.int .u32 up) (.bool gone) (.slice oa M.length oc)
      have r6 := stored6 RZ1.out (.string nm) (.int .u32 va) (.int .u32 nx) (.int .u32 up) (.bool gone) (.slice oa M.length oc)
      have hb6 := (below_set HB.out (Nat.le_refl w.heap.size) (j := 5) (.slice oa M.length oc)).trans (stored6_below (w := wr.setCell ⟨w.heap.size, 5, none⟩ (.slice oa M.length oc)) (Nat.le_succ w.heap.size) (.string nm) (.int .u32 va) (.int .u32 nx) (.int .u32 up) (.bool gone) (.slice oa M.length oc))
      have hfin : CopyPost L w _ (.slice oa M.length oc) := ⟨M, hh6, HKY.out, hb6⟩
      clear hh1 hh6 hb6
      exact bodyPost_ret (v := .agg #[.string nm, .int .u32 va, .int .u32 nx, .int .u32 up, .bool gone, .slice oa M.length oc]) (results_cell_row rfl _ _ (w.heap.size + 1) 25 #[.string nm, .int .u32 va, .int .u32 nx, .int .u32 up, .bool gone, .slice oa M.length oc] (0, 0) _ rfl r6 Try.underlying25 rfl (by kernel_rfl)) rfl ⟨_, rfl, hfin⟩
end Go.Proofs.Ytligplnmgoailaa
