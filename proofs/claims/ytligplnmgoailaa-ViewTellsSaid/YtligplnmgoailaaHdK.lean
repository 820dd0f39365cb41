/-
  Rows of messages, and folders, held against each other.
-/
import Derived.Test.YtligplnmgoailaaHdJ
import Derived.Test.YtligplnmgoailaaHdI
import Derived.Lib.QuietBelow
import Derived.BigQuiet
namespace Go.Proofs.Ytligplnmgoailaa
set_option linter.unusedVariables false
open Go.RowKit Go.Sort
attribute [local go_sem] Oper.semAt_some

set_option maxRecDepth 100000 in
set_option maxHeartbeats 4000000 in
theorem sameHelds_any {va vb : Value} {M N : List HeldD} {w : World} (ha : HeldsIn w va M) (hb : HeldsIn w vb N) (hk : M.map keyD = N.map keyD) :
    Calls Try.prog 27 #[va, vb, .func (.func 28) #[] #[]] w fun e w' => e = .returned (.bool true) ∧ Below w.heap.size w w' := by
  have hl : N.length = M.length := by have := congrArg List.length hk; simpa using this.symm
  obtain ⟨b1, o1, a1, c1, rfl, k1, k2, -, h1, g1⟩ := ha.row.shape
  obtain ⟨b2, o2, a2, c2, hvb, -, -, -, h2, g2⟩ := hb.row.shape
  rw [hl] at hvb
  subst hvb
  have HA := Lib.hid ha
  have HB := Lib.hid hb
  have H1 := Lib.hid h1
  have H2 := Lib.hid h2
  have G1 := Lib.hid g1
  have G2 := Lib.hid g2
  have HL := Lib.hid hl
  have hmx : M.length ≤ 9223372036854775807 := by unfold maxLen at k2; omega
  have HK : Hid (∀ k (h1 : k < M.length) (h2 : k < N.length), keyD M[k] = keyD N[k]) := Lib.hid (fun k h1 h2 => by
    have := congrArg (fun l => l[k]?) hk
    simpa [h1, h2] using this)
  clear ha hb h1 h2 g1 g2 hk hl k1 k2
  go_enter Try.func27, Try.ntmps27
  go_wp2_with fail
  go_loopw [7] (fun i wr => ∃ k : Nat, k ≤ M.length ∧ i = .int .i64 k ∧ Below w.heap.size w wr) (fun i _ => M.length - (intOf i).toNat)
  case atStart => exact ⟨0, Nat.zero_le _, rfl, Below.refl _ _⟩
  case round =>
    obtain ⟨k, hk, rfl, hst⟩ := hrel
    by_cases hlt : k < M.length
    · have hii : (k : Int) < (M.length : Int) := by omega
      have hltN : k < N.length := by rw [HL.out]; exact hlt
      obtain ⟨rfl, hb1⟩ := H1.out (by rw [heldsC_len]; omega)
      obtain ⟨rfl, hb2⟩ := H2.out (by rw [heldsC_len]; omega)
      have hkk := HK.out k hlt hltN
      have hd1 := HA.out.ok M[k] (List.getElem_mem hlt)
      have hd2 := HB.out.ok N[k] (List.getElem_mem hltN)
      have xcell : ∀ j (hj : j < 9) (u : Value), (heldA M[k])[j]? = some u → wr.cell? ⟨b1, o1 + k * 9 + j, none⟩ = some u := fun j hj u hu => by
        have h1 := heldsC_at M k j hlt hj
        rw [hu] at h1
        obtain ⟨h2, h3⟩ := List.getElem?_eq_some_iff.1 h1
        rw [Nat.add_assoc, hst.cell (p := ⟨b1, o1 + (k * 9 + j), none⟩) hb1, G1.out (k * 9 + j) h2, h3]
      have ycell : ∀ j (hj : j < 9) (u : Value), (heldA N[k])[j]? = some u → wr.cell? ⟨b2, o2 + k * 9 + j, none⟩ = some u := fun j hj u hu => by
        have h1 := heldsC_at N k j hltN hj
        rw [hu] at h1
        obtain ⟨h2, h3⟩ := List.getElem?_eq_some_iff.1 h1
        rw [Nat.add_assoc, hst.cell (p := ⟨b2, o2 + (k * 9 + j), none⟩) hb2, G2.out (k * 9 + j) h2, h3]
      have HST := Lib.hid hst
      have hd1' : HeldOk wr M[k] := ⟨⟨hd1.rf.1.below ⟨hst.os, hst.tape, hst.output, hst.size, hst.block⟩, hd1.rf.2⟩, ⟨hd1.rb.1.below ⟨hst.os, hst.tape, hst.output, hst.size, hst.block⟩, hd1.rb.2⟩⟩
      have hd2' : HeldOk wr N[k] := ⟨⟨hd2.rf.1.below ⟨hst.os, hst.tape, hst.output, hst.size, hst.block⟩, hd2.rf.2⟩, ⟨hd2.rb.1.below ⟨hst.os, hst.tape, hst.output, hst.size, hst.block⟩, hd2.rb.2⟩⟩
      have HS := fun n os => sameHeld_any M[k] N[k] (grow (redrawn wr n) os) (hd1'.below (below_regrown wr n os)) (hd2'.below (below_regrown wr n os)) hkk
      clear hst hkk hd1 hd2
      generalize M[k] = x at *
      generalize N[k] = y at *
      obtain ⟨xuid, xup, xfv, xF, xdate, xsize, xhas, xbv, xB, xgone, xused⟩ := x
      obtain ⟨yuid, yup, yfv, yF, ydate, ysize, yhas, ybv, yB, ygone, yused⟩ := y
      obtain ⟨xa, xc, e1, -⟩ := id hd1'.rf.1
      obtain ⟨xb, xd, e2, -⟩ := id hd1'.rb.1
      obtain ⟨ya, yc, e3, -⟩ := id hd2'.rf.1
      obtain ⟨yb, yd, e4, -⟩ := id hd2'.rb.1
      simp only at e1 e2 e3 e4
      subst e1 e2 e3 e4
      unfold heldA at HS
      have HS' := Lib.hid HS
      have x0 : wr.cell? ⟨b1, o1 + k * 9, none⟩ = some (.int .u32 xuid) := xcell 0 (by decide) _ rfl
      have xc0 := fun n os => cell_regrown x0 n os
      have x1 : wr.cell? ⟨b1, o1 + k * 9 + 1, none⟩ = some (.int .u32 xup) := xcell 1 (by decide) _ rfl
      have xc1 := fun n os => cell_regrown x1 n os
      have x2 : wr.cell? ⟨b1, o1 + k * 9 + 2, none⟩ = some (.slice xa xF.length xc) := xcell 2 (by decide) _ rfl
      have xc2 := fun n os => cell_regrown x2 n os
      have x3 : wr.cell? ⟨b1, o1 + k * 9 + 3, none⟩ = some (.string xdate) := xcell 3 (by decide) _ rfl
      have xc3 := fun n os => cell_regrown x3 n os
      have x4 : wr.cell? ⟨b1, o1 + k * 9 + 4, none⟩ = some (.int .i64 xsize) := xcell 4 (by decide) _ rfl
      have xc4 := fun n os => cell_regrown x4 n os
      have x5 : wr.cell? ⟨b1, o1 + k * 9 + 5, none⟩ = some (.bool xhas) := xcell 5 (by decide) _ rfl
      have xc5 := fun n os => cell_regrown x5 n os
      have x6 : wr.cell? ⟨b1, o1 + k * 9 + 6, none⟩ = some (.slice xb xB.length xd) := xcell 6 (by decide) _ rfl
      have xc6 := fun n os => cell_regrown x6 n os
      have x7 : wr.cell? ⟨b1, o1 + k * 9 + 7, none⟩ = some (.bool xgone) := xcell 7 (by decide) _ rfl
      have xc7 := fun n os => cell_regrown x7 n os
      have x8 : wr.cell? ⟨b1, o1 + k * 9 + 8, none⟩ = some (.int .i64 xused) := xcell 8 (by decide) _ rfl
      have xc8 := fun n os => cell_regrown x8 n os
      have y0 : wr.cell? ⟨b2, o2 + k * 9, none⟩ = some (.int .u32 yuid) := ycell 0 (by decide) _ rfl
      have yc0 := fun n os => cell_regrown y0 n os
      have y1 : wr.cell? ⟨b2, o2 + k * 9 + 1, none⟩ = some (.int .u32 yup) := ycell 1 (by decide) _ rfl
      have yc1 := fun n os => cell_regrown y1 n os
      have y2 : wr.cell? ⟨b2, o2 + k * 9 + 2, none⟩ = some (.slice ya yF.length yc) := ycell 2 (by decide) _ rfl
      have yc2 := fun n os => cell_regrown y2 n os
      have y3 : wr.cell? ⟨b2, o2 + k * 9 + 3, none⟩ = some (.string ydate) := ycell 3 (by decide) _ rfl
      have yc3 := fun n os => cell_regrown y3 n os
      have y4 : wr.cell? ⟨b2, o2 + k * 9 + 4, none⟩ = some (.int .i64 ysize) := ycell 4 (by decide) _ rfl
      have yc4 := fun n os => cell_regrown y4 n os
      have y5 : wr.cell? ⟨b2, o2 + k * 9 + 5, none⟩ = some (.bool yhas) := ycell 5 (by decide) _ rfl
      have yc5 := fun n os => cell_regrown y5 n os
      have y6 : wr.cell? ⟨b2, o2 + k * 9 + 6, none⟩ = some (.slice yb yB.length yd) := ycell 6 (by decide) _ rfl
      have yc6 := fun n os => cell_regrown y6 n os
      have y7 : wr.cell? ⟨b2, o2 + k * 9 + 7, none⟩ = some (.bool ygone) := ycell 7 (by decide) _ rfl
      have yc7 := fun n os => cell_regrown y7 n os
      have y8 : wr.cell? ⟨b2, o2 + k * 9 + 8, none⟩ = some (.int .i64 yused) := ycell 8 (by decide) _ rfl
      have yc8 := fun n os => cell_regrown y8 n os
      clear xcell ycell hd1' hd2' HS
      clear x0 x1 x2 x3 x4 x5 x6 x7 x8 y0 y1 y2 y3 y4 y5 y6 y7 y8
      go_wp2_with fail
      refine wp_region_quiet_below (by kernel_rfl) (by kernel_rfl) ?_
      repeat (go_big_quiet_step ((go_at_call 28; exact Calls.regrown_of (HS'.out _ _))))
      refine wpQuiet_nil ?_
      intro _ hw'
      obtain ⟨p, rfl⟩ := hw'
      clear xc0 xc1 xc2 xc3 xc4 xc5 xc6 xc7 xc8 yc0 yc1 yc2 yc3 yc4 yc5 yc6 yc7 yc8
      go_wp2_with fail
      go_roundw
      case rel => exact ⟨k + 1, by omega, by go_num, HST.out.trans ((below_regrown wr p.d p.os).mono HST.out.size)⟩
      case measure => simp [intOf]; omega
    · have hii : ¬ (k : Int) < (M.length : Int) := by omega
      go_wp2_with fail
      go_ret
      exact ⟨rfl, hst⟩

set_option maxRecDepth 100000 in
set_option maxHeartbeats 4000000 in
theorem folder_any (nm : ByteArray) (va nx up : Int) (gone : Bool) (v1 v2 : Value) (M N : List HeldD) (w : World) (ha : HeldsIn w v1 M) (hb : HeldsIn w v2 N) (hk : M.map keyD = N.map keyD) :
    Calls Try.prog 13 #[.agg (foldA nm va nx up gone v1), .agg (foldA nm va nx up gone v2)] w fun e w' => e = .returned (.bool true) ∧ Below w.heap.size w w' := by
  obtain ⟨pa, pc, rfl, -⟩ := id ha.row
  obtain ⟨qa, qc, rfl, -⟩ := id hb.row
  have hS : ∀ W, Below w.heap.size w W → Calls Try.prog 27 #[.slice pa M.length pc, .slice qa N.length qc, .func (.func 28) #[] #[]] W fun e w' => e = .returned (.bool true) ∧ Below W.heap.size W w' := fun W hW => sameHelds_any (ha.below hW) (hb.below hW) hk
  have HS := Lib.hid hS
  clear ha hb hk hS
  unfold foldA
  go_enter Try.func13, Try.ntmps13
  go_wp2_with fail
  have hb0 : Below w.heap.size w ((w.alloc (.cells #[.string nm, .int .u32 va, .int .u32 nx, .int .u32 up, .bool gone, .slice pa M.length pc] 25)).alloc (.cells #[.string nm, .int .u32 va, .int .u32 nx, .int .u32 up, .bool gone, .slice qa N.length qc] 25)) := ((Below.refl _ _).alloc (Nat.le_refl _) _).alloc (by simp) _
  refine (HS.out _ hb0).mono ?_
  rintro e w1 ⟨rfl, hb1⟩
  have HB1 := Lib.hid (hb0.trans (hb1.mono hb0.size))
  clear hb0 hb1
  go_wp2_with fail
  go_ret
  exact ⟨rfl, HB1.out⟩
set_option maxRecDepth 100000 in
set_option maxHeartbeats 4000000 in
theorem sameF_any {va vb : Value} {FF GG : List (Value × List ByteArray)} {w : World} (ha : RowV w 1 va FF.length (FF.map (·.1))) (hb : RowV w 1 vb GG.length (GG.map (·.1))) (hA : ∀ p ∈ FF, RowS w p.1 p.2) (hB : ∀ p ∈ GG, RowS w p.1 p.2) (hk : FF.map (·.2) = GG.map (·.2)) :
    Calls Try.prog 21 #[va, vb, .func (.func 22) #[] #[]] w fun e w' => e = .returned (.bool true) ∧ Below w.heap.size w w' := by
  have hl : GG.length = FF.length := by have := congrArg List.length hk; simpa using this.symm
  obtain ⟨b1, o1, a1, c1, rfl, k1, k2, -, h1, g1⟩ := ha.shape
  obtain ⟨b2, o2, a2, c2, hvb, -, -, -, h2, g2⟩ := hb.shape
  rw [hl] at hvb
  subst hvb
  have HA := Lib.hid hA
  have HB := Lib.hid hB
  have H1 := Lib.hid h1
  have H2 := Lib.hid h2
  have G1 := Lib.hid g1
  have G2 := Lib.hid g2
  have HL := Lib.hid hl
  have hmx : FF.length ≤ 9223372036854775807 := by unfold maxLen at k2; omega
  have HK : Hid (∀ k (h1 : k < FF.length) (h2 : k < GG.length), FF[k].2 = GG[k].2) := Lib.hid (fun k h1 h2 => by
    have := congrArg (fun l => l[k]?) hk
    simpa [h1, h2] using this)
  clear ha hb h1 h2 g1 g2 hk hl k1 k2 hA hB
  go_enter Try.func21, Try.ntmps21
  go_wp2_with fail
  go_loopw [7] (fun i wr => ∃ k : Nat, k ≤ FF.length ∧ i = .int .i64 k ∧ Below w.heap.size w wr) (fun i _ => FF.length - (intOf i).toNat)
  case atStart => exact ⟨0, Nat.zero_le _, rfl, Below.refl _ _⟩
  case round =>
    obtain ⟨k, hk, rfl, hst⟩ := hrel
    by_cases hlt : k < FF.length
    · have hii : (k : Int) < (FF.length : Int) := by omega
      have hltN : k < GG.length := by rw [HL.out]; exact hlt
      obtain ⟨rfl, hb1⟩ := H1.out (by simpa using (by omega : 0 < FF.length))
      obtain ⟨rfl, hb2⟩ := H2.out (by simpa using (by omega : 0 < GG.length))
      have hkk := HK.out k hlt hltN
      have hd1 : RowS wr FF[k].1 FF[k].2 := ⟨(HA.out _ (List.getElem_mem hlt)).1.below ⟨hst.os, hst.tape, hst.output, hst.size, hst.block⟩, (HA.out _ (List.getElem_mem hlt)).2⟩
      have hd2 : RowS wr GG[k].1 GG[k].2 := ⟨(HB.out _ (List.getElem_mem hltN)).1.below ⟨hst.os, hst.tape, hst.output, hst.size, hst.block⟩, (HB.out _ (List.getElem_mem hltN)).2⟩
      rw [← hkk] at hd2
      have x0 : wr.cell? ⟨b1, o1 + k, none⟩ = some FF[k].1 := by
        rw [hst.cell (p := ⟨b1, o1 + k, none⟩) hb1, G1.out k (by simpa using hlt)]
        simp
      have y0 : wr.cell? ⟨b2, o2 + k, none⟩ = some GG[k].1 := by
        rw [hst.cell (p := ⟨b2, o2 + k, none⟩) hb2, G2.out k (by simpa using hltN)]
        simp
      have HST := Lib.hid hst
      have HS := Lib.hid (fun n os => plainS_any (w := grow (redrawn wr n) os) (hd1.below (below_regrown wr n os)) (hd2.below (below_regrown wr n os)))
      obtain ⟨xa, xc, e1, -⟩ := id hd1.1
      obtain ⟨ya, yc, e2, -⟩ := id hd2.1
      rw [e1] at x0 HS
      rw [e2] at y0 HS
      have xc0 := fun n os => cell_regrown x0 n os
      have yc0 := fun n os => cell_regrown y0 n os
      clear x0 y0 hd1 hd2 hkk e1 e2 hst
      go_wp2_with fail
      refine wp_region_quiet_below (by kernel_rfl) (by kernel_rfl) ?_
      repeat (go_big_quiet_step ((go_at_call 22; exact Calls.regrown_of (HS.out _ _))))
      refine wpQuiet_nil ?_
      intro _ hw'
      obtain ⟨p, rfl⟩ := hw'
      clear xc0 yc0
      go_wp2_with fail
      go_roundw
      case rel => exact ⟨k + 1, by omega, by go_num, HST.out.trans ((below_regrown wr p.d p.os).mono HST.out.size)⟩
      case measure => simp [intOf]; omega
    · have hii : ¬ (k : Int) < (FF.length : Int) := by omega
      go_wp2_with fail
      go_ret
      exact ⟨rfl, hst⟩
end Go.Proofs.Ytligplnmgoailaa
