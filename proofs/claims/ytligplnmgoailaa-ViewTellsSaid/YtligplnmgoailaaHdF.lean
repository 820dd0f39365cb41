/-
  The reference's See; CopyFolder.
-/
import Derived.Test.YtligplnmgoailaaHdE
import Derived.Test.YtligplnmgoailaaViewOpen
namespace Go.Proofs.Ytligplnmgoailaa
set_option linter.unusedVariables false
open Go.RowKit
attribute [local go_sem] Oper.semAt_some

set_option maxRecDepth 100000 in
set_option maxHeartbeats 8000000 in
theorem rsee_any (nm : ByteArray) (va nx up : Int) (gone : Bool) (lv : Value) (L : List HeldD) (w : World) (hL : HeldsIn w lv L) (hn : L.length ≤ 1000) :
    Calls Try.prog 24 #[.agg (foldA nm va nx up gone lv)] w fun e w' => ∃ v, e = .returned v ∧ SeePost L w w' v := by
  have HL := Lib.hid hL
  obtain ⟨lb, off, la, lc, rfl, -, -, -, hla, hcell⟩ := hL.row.shape
  have HLA := Lib.hid hla
  have HC := Lib.hid hcell
  clear hL hla hcell
  unfold foldA
  go_enter Try.func24, Try.ntmps24
  go_wp2_with fail
  have HBX : Hid (Rw (w.alloc (.cells #[.string nm, .int .u32 va, .int .u32 nx, .int .u32 up, .bool gone, .slice la L.length lc] 25)) w.heap.size #[.string nm, .int .u32 va, .int .u32 nx, .int .u32 up, .bool gone, .slice la L.length lc] 25) := Lib.hid (heap_alloc_new w _)
  have HBW : Hid (Below w.heap.size w (w.alloc (.cells #[.string nm, .int .u32 va, .int .u32 nx, .int .u32 up, .bool gone, .slice la L.length lc] 25))) := Lib.hid ((Below.refl _ _).alloc (Nat.le_refl _) _)
  have hwz : (w.alloc (.cells #[.string nm, .int .u32 va, .int .u32 nx, .int .u32 up, .bool gone, .slice la L.length lc] 25)).heap.size = w.heap.size + 1 := by simp
  generalize w.alloc (.cells #[.string nm, .int .u32 va, .int .u32 nx, .int .u32 up, .bool gone, .slice la L.length lc] 25) = wb at *
  go_loopw [3, 4] (fun ov iv wr => ∃ (i : Nat) (M : List HeldD), iv = .int .i64 i ∧ i ≤ L.length ∧ M.length ≤ i ∧ OwnL wr (w.heap.size + 1) ov M ∧ (∀ h ∈ M, OwnFrom w.heap.size h) ∧ Hid (M.map keyD = (seenL (L.take i)).map keyD) ∧ Below (w.heap.size + 1) wb wr) (fun _ iv _ => L.length - (RowKit.intOf iv).toNat)
  case atStart => exact ⟨0, [], rfl, Nat.zero_le _, Nat.le_refl _, ownL_nil wb _, (fun _ h => nomatch h), Lib.hid (by simp [seenL]), Below.refl _ _⟩
  case round =>
    obtain ⟨i, M, rfl, hi, hM, hown, hfrom, hkey, hb⟩ := hrel
    have HFR := Lib.hid hfrom
    have HO := Lib.hid hown
    have HB1 := Lib.hid hb
    have HB : Hid (Below w.heap.size w wr) := Lib.hid (HBW.out.trans (hb.mono (by omega)))
    have b5 := (HBX.out.below hb (by omega)).cell 5 (.slice la L.length lc) rfl
    clear hown hb hfrom
    by_cases hlt : i < L.length
    · have hii : (i : Int) < (L.length : Int) := by omega
      have hpos : 0 < (heldsC L).length := by rw [heldsC_len]; omega
      obtain ⟨rfl, hlb⟩ := HLA.out hpos
      have hd := HL.out.ok L[i] (List.getElem_mem hlt)
      have hsn := seenL_snoc (L.take i) L[i]
      rw [← List.take_succ_eq_append_getElem hlt] at hsn
      have hcell : ∀ j (hj : j < 9) (u : Value), (heldA L[i])[j]? = some u → wr.cell? ⟨lb, off + i * 9 + j, none⟩ = some u := fun j hj u hu => by
        have h1 := heldsC_at L i j hlt hj
        rw [hu] at h1
        obtain ⟨h2, h3⟩ := List.getElem?_eq_some_iff.1 h1
        rw [Nat.add_assoc, HB.out.cell (p := ⟨lb, off + (i * 9 + j), none⟩) hlb, HC.out (i * 9 + j) h2, h3]
      generalize L[i] = d at *
      obtain ⟨uid, up, fv, F, date, size, has, bv, B, dg, used⟩ := d
      obtain ⟨fa, fc, hfv, -⟩ := id hd.rf.1
      obtain ⟨ba, bc, hbv, -⟩ := id hd.rb.1
      simp only at hfv hbv
      subst hfv hbv
      have a0 : wr.cell? ⟨lb, off + i * 9, none⟩ = some (.int .u32 uid) := hcell 0 (by decide) _ rfl
      have a1 : wr.cell? ⟨lb, off + i * 9 + 1, none⟩ = some (.int .u32 up) := hcell 1 (by decide) _ rfl
      have a2 : wr.cell? ⟨lb, off + i * 9 + 2, none⟩ = some (.slice fa F.length fc) := hcell 2 (by decide) _ rfl
      have a3 : wr.cell? ⟨lb, off + i * 9 + 3, none⟩ = some (.string date) := hcell 3 (by decide) _ rfl
      have a4 : wr.cell? ⟨lb, off + i * 9 + 4, none⟩ = some (.int .i64 size) := hcell 4 (by decide) _ rfl
      have a5 : wr.cell? ⟨lb, off + i * 9 + 5, none⟩ = some (.bool has) := hcell 5 (by decide) _ rfl
      have a6 : wr.cell? ⟨lb, off + i * 9 + 6, none⟩ = some (.slice ba B.length bc) := hcell 6 (by decide) _ rfl
      have a7 : wr.cell? ⟨lb, off + i * 9 + 7, none⟩ = some (.bool dg) := hcell 7 (by decide) _ rfl
      have a8 : wr.cell? ⟨lb, off + i * 9 + 8, none⟩ = some (.int .i64 used) := hcell 8 (by decide) _ rfl
      have HSN := Lib.hid hsn
      have HD : Hid (HeldOk wr ⟨uid, up, .slice fa F.length fc, F, date, size, has, .slice ba B.length bc, B, dg, used⟩) := Lib.hid ⟨⟨(hd.rf.1.below ((Below.refl _ _).trans ⟨HB.out.os, HB.out.tape, HB.out.output, HB.out.size, HB.out.block⟩)), hd.rf.2⟩, ⟨hd.rb.1.below ⟨HB.out.os, HB.out.tape, HB.out.output, HB.out.size, HB.out.block⟩, hd.rb.2⟩⟩
      clear hcell hd hsn hpos
      cases dg with
      | true =>
        go_wp2_with fail
        go_roundw
        case rel => exact ⟨i + 1, M, by go_num, hlt, by omega, HO.out, HFR.out, Lib.hid (by rw [HSN.out]; exact hkey.out), HB1.out⟩
        case measure => simp [RowKit.intOf]; omega
      | false =>
        go_wp2_with fail
        refine (copyHeld_any ⟨uid, up, .slice fa F.length fc, F, date, size, has, .slice ba B.length bc, B, false, used⟩ wr HD.out).mono ?_
        rintro e w2 ⟨cs, rfl, ⟨uid', up', fv', F', date', size', has', bv', B', gone', used'⟩, rfl, hal, hok, hof, hb2⟩
        obtain ⟨fa', fc', hfv', -⟩ := id hok.rf.1
        obtain ⟨ba', bc', hbv', -⟩ := id hok.rb.1
        simp only at hfv' hbv'
        subst hfv' hbv'
        have HO2 := Lib.hid (HO.out.below hb2)
        have HOK2 := Lib.hid hok
        have HB2 : Hid (Below w.heap.size w w2) := Lib.hid (HB.out.trans (hb2.mono HB.out.size))
        have HAP : Hid (∀ g, u3.ownBlock = some g → (0 < F'.length → (Value.slice fa' F'.length fc').ownBlock ≠ some g) ∧ (0 < B'.length → (Value.slice ba' B'.length bc').ownBlock ≠ some g)) := Lib.hid (fun g hg => by
          have h1 := owns_lt HO.out.row g hg
          exact ⟨fun _ e => by have := hof.1 g e; omega, fun _ e => by have := hof.2 g e; omega⟩)
        have HK := Lib.hid hal.key
        have HFR3 : Hid (∀ h ∈ M ++ [(⟨uid', up', .slice fa' F'.length fc', F', date', size', has', .slice ba' B'.length bc', B', gone', used'⟩ : HeldD)], OwnFrom w.heap.size h) := Lib.hid (fun h hh => by
          have hz := HB.out.size
          rcases List.mem_append.1 hh with hh | hh
          · exact HFR.out h hh
          · obtain rfl := List.mem_singleton.1 hh
            exact ⟨fun k hk => by have := hof.1 k hk; omega, fun k hk => by have := hof.2 k hk; omega⟩)
        have HB3' : Hid (Below (w.heap.size + 1) wb w2) := Lib.hid (HB1.out.trans (hb2.mono (by have := HB1.out.size; omega)))
        have hsz : w.heap.size + 1 ≤ w2.heap.size := by have := HB3'.out.size; omega
        clear a0 a1 a2 a3 a4 a5 a6 a7 a8 b5
        have hMn : M.length ≤ 1000000 := by omega
        clear hal hok hof hb2
        unfold heldA
        go_wp2_with (at_builtin
                     refine appL (d := ⟨uid', up', .slice fa' F'.length fc', F', date', size', has', .slice ba' B'.length bc', B', gone', used'⟩) rfl (.tmp 19) (.tmp 26) rfl rfl rfl (by simp) rfl HO2.out HOK2.out HAP.out hsz hMn ?_
                     intro v3 w3 ho3 hb3
                     have HO3 := Lib.hid ho3
                     have HB3 := Lib.hid (HB3'.out.trans hb3)
                     clear ho3 hb3)
        go_roundw
        case rel => exact ⟨i + 1, M ++ [_], by go_num, hlt, by simp; omega, HO3.out, HFR3.out, Lib.hid (by
          rw [HSN.out, List.map_append, hkey.out]
          simp only [Bool.false_eq_true, if_false, List.map_append, List.map_cons, List.map_nil]
          rw [HK.out]), HB3.out⟩
        case measure => simp [RowKit.intOf]; omega
    · have hii : ¬ (i : Int) < (L.length : Int) := by omega
      obtain rfl : i = L.length := by omega
      have HF : Hid (SeePost L w wr u3) := Lib.hid ⟨M, ⟨owns_base HO.out.row (Nat.le_succ _), HO.out.ok, HO.out.ap⟩, HFR.out, by rw [hkey.out, List.take_length], HB.out⟩
      clear hkey
      go_wp2_with fail
      exact bodyPost_ret (v := u3) (by simp [results, Try.results24, go_sem]) rfl ⟨_, rfl, HF.out⟩
end Go.Proofs.Ytligplnmgoailaa
