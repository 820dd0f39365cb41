/-
  Open, of the program: the walk.
-/
import Derived.Test.YtligplnmgoailaaHdH
namespace Go.Proofs.Ytligplnmgoailaa
set_option linter.unusedVariables false
open Go.RowKit
attribute [local go_sem] Oper.semAt_some

/-- what Open answers -/
def OpenPost (L : List HeldD) (w w' : World) (uv fl : Value) : Prop := ∃ (U : List Int) (FF : List (Value × List ByteArray)), RowV w' 1 uv U.length (u32s U) ∧ RowV w' 1 fl FF.length (FF.map (·.1)) ∧ (∀ p ∈ FF, RowS w' p.1 p.2) ∧ U = (seenL L).map (·.uid) ∧ FF.map (·.2) = (seenL L).map (·.F) ∧ Below w.heap.size w w'
theorem key_uid {M N : List HeldD} (h : M.map keyD = N.map keyD) : M.map (·.uid) = N.map (·.uid) := by
  have := congrArg (List.map (fun k : Int × Int × List ByteArray × ByteArray × Int × Bool × List Nat × Bool × Int => k.1)) h
  simpa [keyD, List.map_map, Function.comp_def] using this
theorem key_F {M N : List HeldD} (h : M.map keyD = N.map keyD) : M.map (·.F) = N.map (·.F) := by
  have := congrArg (List.map (fun k : Int × Int × List ByteArray × ByteArray × Int × Bool × List Nat × Bool × Int => k.2.2.1)) h
  simpa [keyD, List.map_map, Function.comp_def] using this

theorem stored5 {w : World} {q : Nat} {z0 z1 z2 z3 z4 : Value} (r : Rw w q #[z0, z1, z2, z3, z4] 29) (a0 a1 a2 a3 a4 : Value) : Rw (((((w.setCell ⟨q, 0, none⟩ a0).setCell ⟨q, 1, none⟩ a1).setCell ⟨q, 2, none⟩ a2).setCell ⟨q, 3, none⟩ a3).setCell ⟨q, 4, none⟩ a4) q #[a0, a1, a2, a3, a4] 29 := by
  have r0 : Rw (w.setCell ⟨q, 0, none⟩ a0) q #[a0, z1, z2, z3, z4] 29 := r.set 0 a0
  have r1 : Rw ((w.setCell ⟨q, 0, none⟩ a0).setCell ⟨q, 1, none⟩ a1) q #[a0, a1, z2, z3, z4] 29 := r0.set 1 a1
  have r2 : Rw (((w.setCell ⟨q, 0, none⟩ a0).setCell ⟨q, 1, none⟩ a1).setCell ⟨q, 2, none⟩ a2) q #[a0, a1, a2, z3, z4] 29 := r1.set 2 a2
  have r3 : Rw ((((w.setCell ⟨q, 0, none⟩ a0).setCell ⟨q, 1, none⟩ a1).setCell ⟨q, 2, none⟩ a2).setCell ⟨q, 3, none⟩ a3) q #[a0, a1, a2, a3, z4] 29 := r2.set 3 a3
  have r4 : Rw (((((w.setCell ⟨q, 0, none⟩ a0).setCell ⟨q, 1, none⟩ a1).setCell ⟨q, 2, none⟩ a2).setCell ⟨q, 3, none⟩ a3).setCell ⟨q, 4, none⟩ a4) q #[a0, a1, a2, a3, a4] 29 := r3.set 4 a4
  exact r4
theorem stored5_row {w : World} {q size n : Nat} {v : Value} {xs : List Value} (h : RowV w size v n xs) (hv : v.ownBlock ≠ some q) (a0 a1 a2 a3 a4 : Value) : RowV (((((w.setCell ⟨q, 0, none⟩ a0).setCell ⟨q, 1, none⟩ a1).setCell ⟨q, 2, none⟩ a2).setCell ⟨q, 3, none⟩ a3).setCell ⟨q, 4, none⟩ a4) size v n xs := (((((h.setOther hv (j := 0) (u := a0)).setOther hv (j := 1) (u := a1)).setOther hv (j := 2) (u := a2)).setOther hv (j := 3) (u := a3)).setOther hv (j := 4) (u := a4))
theorem stored5_below {w : World} {B q : Nat} (hq : B ≤ q) (a0 a1 a2 a3 a4 : Value) : Below B w (((((w.setCell ⟨q, 0, none⟩ a0).setCell ⟨q, 1, none⟩ a1).setCell ⟨q, 2, none⟩ a2).setCell ⟨q, 3, none⟩ a3).setCell ⟨q, 4, none⟩ a4) := (below_set (below_set (below_set (below_set (below_set (Below.refl _ _) hq (j := 0) a0) hq (j := 1) a1) hq (j := 2) a2) hq (j := 3) a3) hq (j := 4) a4)
set_option maxRecDepth 100000 in
set_option maxHeartbeats 8000000 in
theorem open_any (nm : ByteArray) (va nx up : Int) (gone rd : Bool) (lv : Value) (L : List HeldD) (w : World) (hL : HeldsIn w lv L) (hn : L.length ≤ 1000) :
    Calls Try.prog 9 #[.agg (foldA nm va nx up gone lv), .bool rd] w fun e w' => ∃ uv fl, e = .returned (.agg (sightV nm va rd uv fl)) ∧ OpenPost L w w' uv fl := by
  have HL := Lib.hid hL
  obtain ⟨_, _, la, lc, rfl, -⟩ := hL.row.shape
  clear hL
  unfold foldA
  go_enter Try.func9, Try.ntmps9
  go_wp2_with fail
  have HW0 : Hid (Below w.heap.size w (((w.alloc (.cells #[.string nm, .int .u32 va, .int .u32 nx, .int .u32 up, .bool gone, .slice la L.length lc] 25)).alloc (.cells #[.string ⟨#[]⟩, .int .u32 0, .bool false, .slice none 0 0, .slice none 0 0] 29)).alloc (.cells #[.string nm, .int .u32 va, .bool rd, .slice none 0 0, .slice none 0 0] 29))) := Lib.hid ((((Below.refl _ _).alloc (Nat.le_refl _) _).alloc (by simp) _).alloc (by simp; omega) _)
  have HS0 : Hid (Rw (((w.alloc (.cells #[.string nm, .int .u32 va, .int .u32 nx, .int .u32 up, .bool gone, .slice la L.length lc] 25)).alloc (.cells #[.string ⟨#[]⟩, .int .u32 0, .bool false, .slice none 0 0, .slice none 0 0] 29)).alloc (.cells #[.string nm, .int .u32 va, .bool rd, .slice none 0 0, .slice none 0 0] 29)) (w.heap.size + 1 + 1) #[.string nm, .int .u32 va, .bool rd, .slice none 0 0, .slice none 0 0] 29) := Lib.hid (three_rows w _ _ _).2
  have HZ0 : Hid (Rw (((w.alloc (.cells #[.string nm, .int .u32 va, .int .u32 nx, .int .u32 up, .bool gone, .slice la L.length lc] 25)).alloc (.cells #[.string ⟨#[]⟩, .int .u32 0, .bool false, .slice none 0 0, .slice none 0 0] 29)).alloc (.cells #[.string nm, .int .u32 va, .bool rd, .slice none 0 0, .slice none 0 0] 29)) (w.heap.size + 1) #[.string ⟨#[]⟩, .int .u32 0, .bool false, .slice none 0 0, .slice none 0 0] 29) := Lib.hid (three_rows w _ _ _).1
  have hz0 : (((w.alloc (.cells #[.string nm, .int .u32 va, .int .u32 nx, .int .u32 up, .bool gone, .slice la L.length lc] 25)).alloc (.cells #[.string ⟨#[]⟩, .int .u32 0, .bool false, .slice none 0 0, .slice none 0 0] 29)).alloc (.cells #[.string nm, .int .u32 va, .bool rd, .slice none 0 0, .slice none 0 0] 29)).heap.size = w.heap.size + 3 := by simp
  generalize (((w.alloc (.cells #[.string nm, .int .u32 va, .int .u32 nx, .int .u32 up, .bool gone, .slice la L.length lc] 25)).alloc (.cells #[.string ⟨#[]⟩, .int .u32 0, .bool false, .slice none 0 0, .slice none 0 0] 29)).alloc (.cells #[.string nm, .int .u32 va, .bool rd, .slice none 0 0, .slice none 0 0] 29)) = w0 at *
  have hsee := see_any nm va nx up gone (.slice la L.length lc) L w0 (HL.out.below HW0.out) hn
  unfold foldA at hsee
  refine hsee.mono ?_
  rintro e wM ⟨ov, rfl, M, hM, hfr, hkey, hbM⟩
  clear hsee
  have hzM := hbM.size
  have hSM := HS0.out.below hbM (by omega)
  have HZM := Lib.hid (HZ0.out.below hbM (by omega))
  have HWM : Hid (Below w.heap.size w wM) := Lib.hid (HW0.out.trans (hbM.mono HW0.out.size))
  have HMO := Lib.hid hM.helds
  have HFR := Lib.hid hfr
  have HKY := Lib.hid hkey
  have hMn : M.length ≤ 1000 := by
    have h1 := congrArg List.length hkey
    simp only [List.length_map] at h1
    have h2 : (seenL L).length ≤ L.length := List.length_filter_le _ _
    omega
  obtain ⟨lb, off, oa, oc, hov, -, -, -, hla, hcell⟩ := hM.helds.row.shape
  have HOB := Lib.hid (owns_le hM.row)
  subst hov
  have HLA := Lib.hid hla
  have HC := Lib.hid hcell
  clear hM hfr hkey hbM hla hcell
  obtain ⟨P, hP⟩ : ∃ P, w.heap.size + 1 + 1 = P := ⟨_, rfl⟩
  obtain ⟨Q, hQ⟩ : ∃ Q, w.heap.size + 1 = Q := ⟨_, rfl⟩
  rw [hP] at hSM ⊢
  rw [hQ] at HZM ⊢
  have HSM := Lib.hid hSM
  clear hSM
  go_wp2_with fail
  go_loopw [17] (fun iv wr => ∃ (i : Nat) (uv fl : Value), iv = .int .i64 i ∧ i ≤ M.length ∧ Rw wr P #[.string nm, .int .u32 va, .bool rd, uv, fl] 29 ∧ OwnN wr wM.heap.size uv ((M.take i).map (·.uid)) ∧ OwnF wr wM.heap.size fl ((M.take i).map (·.fv)) ∧ Kp P wM.heap.size wM wr) (fun iv _ => M.length - (RowKit.intOf iv).toNat)
  case atStart => exact ⟨0, _, _, rfl, Nat.zero_le _, HSM.out, ownN_nil _ _, World.ownsRow_nil _ _ _ _, Kp.refl _ _ _⟩
  case round =>
    obtain ⟨i, uv, fl, rfl, hi, hrow, hu, hf, hkp⟩ := hrel
    have HR := Lib.hid hrow
    have HU := Lib.hid hu
    have HF := Lib.hid hf
    have HK := Lib.hid hkp
    obtain ⟨ua, nu, uc, hux⟩ : ∃ a n c, uv = .slice a n c := by obtain ⟨a, c, e, _⟩ := owns_shape hu; exact ⟨a, _, c, e⟩
    obtain ⟨fa0, nf, fc0, hfx⟩ : ∃ a n c, fl = .slice a n c := by obtain ⟨a, c, e, _⟩ := owns_shape hf; exact ⟨a, _, c, e⟩
    subst hux hfx
    have hKs := hkp.size
    clear hrow hu hf hkp
    by_cases hlt : i < M.length
    · have hii : (i : Int) < (M.length : Int) := by omega
      have hpos : 0 < (heldsC M).length := by rw [heldsC_len]; omega
      obtain ⟨rfl, hlb⟩ := HLA.out hpos
      have hbase : w0.heap.size ≤ lb := HOB.out lb rfl
      have hd := HMO.out.ok M[i] (List.getElem_mem hlt)
      have hsn : M.take (i + 1) = M.take i ++ [M[i]] := List.take_succ_eq_append_getElem hlt
      have hcell : ∀ j (hj : j < 9) (u : Value), (heldA M[i])[j]? = some u → wr.cell? ⟨lb, off + i * 9 + j, none⟩ = some u := fun j hj u hu => by
        have h1 := heldsC_at M i j hlt hj
        rw [hu] at h1
        obtain ⟨h2, h3⟩ := List.getElem?_eq_some_iff.1 h1
        rw [Nat.add_assoc, World.cell?_of_block (a := ⟨lb, off + (i * 9 + j), none⟩) (HK.out.block lb hlb (by omega)), HC.out (i * 9 + j) h2, h3]
      generalize M[i] = d at *
      obtain ⟨uid, up', fv, F, date, size, has, bv, B, dg, used⟩ := d
      obtain ⟨fa, fc, hfv, -⟩ := id hd.rf.1
      obtain ⟨ba, bc, hbv, -⟩ := id hd.rb.1
      simp only at hfv hbv
      subst hfv hbv
      have a0 : wr.cell? ⟨lb, off + i * 9, none⟩ = some (.int .u32 uid) := hcell 0 (by decide) _ rfl
      have a1 : wr.cell? ⟨lb, off + i * 9 + 1, none⟩ = some (.int .u32 up') := hcell 1 (by decide) _ rfl
      have a2 : wr.cell? ⟨lb, off + i * 9 + 2, none⟩ = some (.slice fa F.length fc) := hcell 2 (by decide) _ rfl
      have a3 : wr.cell? ⟨lb, off + i * 9 + 3, none⟩ = some (.string date) := hcell 3 (by decide) _ rfl
      have a4 : wr.cell? ⟨lb, off + i * 9 + 4, none⟩ = some (.int .i64 size) := hcell 4 (by decide) _ rfl
      have a5 : wr.cell? ⟨lb, off + i * 9 + 5, none⟩ = some (.bool has) := hcell 5 (by decide) _ rfl
      have a6 : wr.cell? ⟨lb, off + i * 9 + 6, none⟩ = some (.slice ba B.length bc) := hcell 6 (by decide) _ rfl
      have a7 : wr.cell? ⟨lb, off + i * 9 + 7, none⟩ = some (.bool dg) := hcell 7 (by decide) _ rfl
      have a8 : wr.cell? ⟨lb, off + i * 9 + 8, none⟩ = some (.int .i64 used) := hcell 8 (by decide) _ rfl
      have p3 := HR.out.cell 3 (.slice ua nu uc) rfl
      have p4 := HR.out.cell 4 (.slice fa0 nf fc0) rfl
      have z3 := HR.out.froz 3
      have hPl := HR.out.lt
      have HSN := Lib.hid hsn
      clear hcell hd hsn hpos
      have hPC : P ≠ wr.heap.size := by omega
      have hW1 : Below wM.heap.size wr (wr.alloc (.cells #[.int .u32 uid, .int .u32 up', .slice fa F.length fc, .string date, .int .i64 size, .bool has, .slice ba B.length bc, .bool dg, .int .i64 used] 49)) := (Below.refl _ _).alloc hKs _
      have hWr : Below wr.heap.size wr (wr.alloc (.cells #[.int .u32 uid, .int .u32 up', .slice fa F.length fc, .string date, .int .i64 size, .bool has, .slice ba B.length bc, .bool dg, .int .i64 used] 49)) := (Below.refl _ _).alloc (Nat.le_refl _) _
      have HU1 : Hid (OwnN (wr.alloc (.cells #[.int .u32 uid, .int .u32 up', .slice fa F.length fc, .string date, .int .i64 size, .bool has, .slice ba B.length bc, .bool dg, .int .i64 used] 49)) wM.heap.size (.slice ua nu uc) ((M.take i).map (·.uid))) := Lib.hid (owns_keep HU.out hWr (owns_lt HU.out))
      have HF1 : Hid (OwnF (wr.alloc (.cells #[.int .u32 uid, .int .u32 up', .slice fa F.length fc, .string date, .int .i64 size, .bool has, .slice ba B.length bc, .bool dg, .int .i64 used] 49)) wM.heap.size (.slice fa0 nf fc0) ((M.take i).map (·.fv))) := Lib.hid (owns_keep HF.out hWr (owns_lt HF.out))
      have HR1 := Lib.hid (HR.out.below hWr hPl)
      have HD1 : Hid (Rw (wr.alloc (.cells #[.int .u32 uid, .int .u32 up', .slice fa F.length fc, .string date, .int .i64 size, .bool has, .slice ba B.length bc, .bool dg, .int .i64 used] 49)) wr.heap.size #[.int .u32 uid, .int .u32 up', .slice fa F.length fc, .string date, .int .i64 size, .bool has, .slice ba B.length bc, .bool dg, .int .i64 used] 49) := Lib.hid (heap_alloc_new wr _)
      have HK1 := Lib.hid (HK.out.below hW1)
      have hs1 : (wr.alloc (.cells #[.int .u32 uid, .int .u32 up', .slice fa F.length fc, .string date, .int .i64 size, .bool has, .slice ba B.length bc, .bool dg, .int .i64 used] 49)).heap.size = wr.heap.size + 1 := by simp
      have hC1 : wM.heap.size ≤ (wr.alloc (.cells #[.int .u32 uid, .int .u32 up', .slice fa F.length fc, .string date, .int .i64 size, .bool has, .slice ba B.length bc, .bool dg, .int .i64 used] 49)).heap.size := by omega
      have hnu : ((M.take i).map (·.uid)).length + 1 ≤ 1000000 := by simp; omega
      have hnf : ((M.take i).map (·.fv)).length ≤ 1000000 := by simp; omega
      have HUL := Lib.hid (owns_lt HU.out)
      clear hW1 hWr
      go_wp2_with (first
        | (at_builtin
           refine appU (v := .slice ua nu uc) rfl (.tmp 22) (.tmp 25) rfl rfl rfl (by simp) HU1.out hC1 hnu ?_
           intro v2 w2 ho2 hb2 hs2
           obtain ⟨va2, nv2, vc2, hv2⟩ : ∃ a n c, v2 = .slice a n c := by obtain ⟨a, c, e, _⟩ := owns_shape ho2; exact ⟨a, _, c, e⟩
           subst hv2
           have HU2 := Lib.hid ho2
           have HF2 : Hid (OwnF w2 wM.heap.size (.slice fa0 nf fc0) ((M.take i).map (·.fv))) := Lib.hid (owns_same HF1.out (fun k hk => hs2 k (fun e => own_apart HU1.out HF1.out k e hk) (owns_lt HF1.out k hk)))
           have HR2 := Lib.hid (HR1.out.below hb2 (by omega))
           have HD2 : Hid (Rw w2 wr.heap.size #[.int .u32 uid, .int .u32 up', .slice fa F.length fc, .string date, .int .i64 size, .bool has, .slice ba B.length bc, .bool dg, .int .i64 used] 49) := Lib.hid ((hs2 wr.heap.size (fun e => by have := HUL.out _ e; omega) (by omega)).trans HD1.out)
           have HK2 := Lib.hid (HK1.out.below hb2)
           have hz2 := hb2.size
           have HU3 : Hid (OwnN (w2.setCell ⟨P, 3, none⟩ (.slice va2 nv2 vc2)) wM.heap.size (.slice va2 nv2 vc2) ((M.take i).map (·.uid) ++ [uid])) := Lib.hid (owns_other HU2.out (fun k hk => by have := owns_le HU2.out k hk; omega))
           have HF3 : Hid (OwnF (w2.setCell ⟨P, 3, none⟩ (.slice va2 nv2 vc2)) wM.heap.size (.slice fa0 nf fc0) ((M.take i).map (·.fv))) := Lib.hid (owns_other HF2.out (fun k hk => by have := owns_le HF2.out k hk; omega))
           have HR3 := Lib.hid (HR2.out.set 3 (.slice va2 nv2 vc2))
           have HD3 := Lib.hid (HD2.out.other (q := P) (j := 3) (v := .slice va2 nv2 vc2) (by omega))
           have HK3 := Lib.hid (HK2.out.set 3 (.slice va2 nv2 vc2))
           have hz3 : (w2.setCell ⟨P, 3, none⟩ (.slice va2 nv2 vc2)).heap.size = w2.heap.size := by simp [World.setCell]
           have q3 := HR2.out.cell 3 (.slice ua nu uc) rfl
           have y3 := HR2.out.froz 3
           have q4 := HR3.out.cell 4 (.slice fa0 nf fc0) rfl
           have y4 := HR3.out.froz 4
           have t2 := HD3.out.cell 2 (.slice fa F.length fc) rfl
           have hC3 : wM.heap.size ≤ (w2.setCell ⟨P, 3, none⟩ (.slice va2 nv2 vc2)).heap.size := by omega
           clear ho2 hb2 hs2)
        | (at_builtin
           refine appSl (v := .slice fa0 nf fc0) rfl (.tmp 29) (.tmp 32) rfl rfl rfl (by simp) HF3.out hC3 hnf ?_
           intro v4 w4 ho4 hb4 hs4
           obtain ⟨va4, nv4, vc4, hv4⟩ : ∃ a n c, v4 = .slice a n c := by obtain ⟨a, c, e, _⟩ := owns_shape ho4; exact ⟨a, _, c, e⟩
           subst hv4
           have HF4 := Lib.hid ho4
           have HU4 : Hid (OwnN w4 wM.heap.size (.slice va2 nv2 vc2) ((M.take i).map (·.uid) ++ [uid])) := Lib.hid (owns_same HU3.out (fun k hk => hs4 k (fun e => own_apart HU3.out HF3.out k hk e) (owns_lt HU3.out k hk)))
           have HR4 := Lib.hid (HR3.out.below hb4 (by omega))
           have HK4 := Lib.hid (HK3.out.below hb4)
           have r4 := HR4.out.cell 4 (.slice fa0 nf fc0) rfl
           have x4 := HR4.out.froz 4
           have HU5 : Hid (OwnN (w4.setCell ⟨P, 4, none⟩ (.slice va4 nv4 vc4)) wM.heap.size (.slice va2 nv2 vc2) ((M.take i).map (·.uid) ++ [uid])) := Lib.hid (owns_other HU4.out (fun k hk => by have := owns_le HU4.out k hk; omega))
           have HF5 : Hid (OwnF (w4.setCell ⟨P, 4, none⟩ (.slice va4 nv4 vc4)) wM.heap.size (.slice va4 nv4 vc4) ((M.take i).map (·.fv) ++ [.slice fa F.length fc])) := Lib.hid (owns_other HF4.out (fun k hk => by have := owns_le HF4.out k hk; omega))
           have HR5 := Lib.hid (HR4.out.set 4 (.slice va4 nv4 vc4))
           have HK5 := Lib.hid (HK4.out.set 4 (.slice va4 nv4 vc4))
           clear ho4 hb4 hs4))
      go_roundw
      case rel => exact ⟨i + 1, .slice va2 nv2 vc2, .slice va4 nv4 vc4, by go_num, hlt, HR5.out, by rw [HSN.out, List.map_append]; exact HU5.out, by rw [HSN.out, List.map_append]; exact HF5.out, HK5.out⟩
      case measure => simp [RowKit.intOf]; omega
    · have hii : ¬ (i : Int) < (M.length : Int) := by omega
      obtain rfl : i = M.length := by omega
      have d0 := HR.out.cell 0 (.string nm) rfl
      have d1 := HR.out.cell 1 (.int .u32 va) rfl
      have d2 := HR.out.cell 2 (.bool rd) rfl
      have d3 := HR.out.cell 3 (.slice ua nu uc) rfl
      have d4 := HR.out.cell 4 (.slice fa0 nf fc0) rfl
      have HZ := Lib.hid (HK.out.rw HZM.out (by omega) (by omega))
      have e0 := HZ.out.cell 0 _ rfl
      have e1 := HZ.out.cell 1 _ rfl
      have e2 := HZ.out.cell 2 _ rfl
      have e3 := HZ.out.cell 3 _ rfl
      have e4 := HZ.out.cell 4 _ rfl
      have g0 := HZ.out.froz
      have hPQ : P ≠ Q := by omega
      have hQP : Q ≠ P := by omega
      go_wp2_with fail
      have hU := HU.out
      have hF := HF.out
      rw [List.take_length] at hU hF
      have r5 := stored5 HZ.out (.string nm) (.int .u32 va) (.bool rd) (.slice ua nu uc) (.slice fa0 nf fc0)
      have huQ : (Value.slice ua nu uc).ownBlock ≠ some Q := fun e => by have := owns_le hU Q e; omega
      have hfQ : (Value.slice fa0 nf fc0).ownBlock ≠ some Q := fun e => by have := owns_le hF Q e; omega
      have hhQ : ∀ h ∈ M, h.fv.ownBlock ≠ some Q := fun h hh e => by have := (HFR.out h hh).1 Q e; omega
      have hhP : ∀ h ∈ M, h.fv.ownBlock ≠ some P := fun h hh e => by have := (HFR.out h hh).1 P e; omega
      have u5 := stored5_row (owns_row hU) huQ (.string nm) (.int .u32 va) (.bool rd) (.slice ua nu uc) (.slice fa0 nf fc0)
      have f5 := stored5_row (owns_row hF) hfQ (.string nm) (.int .u32 va) (.bool rd) (.slice ua nu uc) (.slice fa0 nf fc0)
      have hs5 : ∀ h ∈ M, RowS (((((wr.setCell ⟨Q, 0, none⟩ (.string nm)).setCell ⟨Q, 1, none⟩ (.int .u32 va)).setCell ⟨Q, 2, none⟩ (.bool rd)).setCell ⟨Q, 3, none⟩ (.slice ua nu uc)).setCell ⟨Q, 4, none⟩ (.slice fa0 nf fc0)) h.fv h.F := fun h hh => (⟨stored5_row ((HMO.out.ok h hh).rf.1.kp HK.out (Nat.le_refl _) (hhP h hh)) (hhQ h hh) (.string nm) (.int .u32 va) (.bool rd) (.slice ua nu uc) (.slice fa0 nf fc0), (HMO.out.ok h hh).rf.2⟩ : RowS (((((wr.setCell ⟨Q, 0, none⟩ (.string nm)).setCell ⟨Q, 1, none⟩ (.int .u32 va)).setCell ⟨Q, 2, none⟩ (.bool rd)).setCell ⟨Q, 3, none⟩ (.slice ua nu uc)).setCell ⟨Q, 4, none⟩ (.slice fa0 nf fc0)) h.fv h.F)
      have hb5 := (HK.out.to_below HWM.out (by omega) (by omega)).trans (stored5_below (w := wr) (show w.heap.size ≤ Q by omega) (.string nm) (.int .u32 va) (.bool rd) (.slice ua nu uc) (.slice fa0 nf fc0))
      have hfin : OpenPost L w (((((wr.setCell ⟨Q, 0, none⟩ (.string nm)).setCell ⟨Q, 1, none⟩ (.int .u32 va)).setCell ⟨Q, 2, none⟩ (.bool rd)).setCell ⟨Q, 3, none⟩ (.slice ua nu uc)).setCell ⟨Q, 4, none⟩ (.slice fa0 nf fc0)) (.slice ua nu uc) (.slice fa0 nf fc0) := by
        refine ⟨M.map (·.uid), M.map (fun h => (h.fv, h.F)), u5, ?_, ?_, key_uid HKY.out, ?_, hb5⟩
        · simp only [List.length_map, List.map_map, Function.comp_def] at f5 ⊢
          exact f5
        · intro p hp
          obtain ⟨h, hh, rfl⟩ := List.mem_map.1 hp
          exact hs5 h hh
        · rw [List.map_map]
          exact key_F HKY.out
      clear u5 f5 hs5 hb5 hU hF
      exact bodyPost_ret (v := .agg #[.string nm, .int .u32 va, .bool rd, .slice ua nu uc, .slice fa0 nf fc0]) (results_cell_row rfl _ _ Q 29 #[.string nm, .int .u32 va, .bool rd, .slice ua nu uc, .slice fa0 nf fc0] (0, 0) _ rfl r5 Try.underlying29 rfl (by kernel_rfl)) rfl ⟨_, _, rfl, hfin⟩
end Go.Proofs.Ytligplnmgoailaa
