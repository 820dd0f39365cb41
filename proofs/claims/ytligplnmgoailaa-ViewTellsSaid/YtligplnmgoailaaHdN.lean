/-
  The reference's Open.
-/
import Derived.Test.YtligplnmgoailaaHdI
import Derived.Deep.AppendLies
import Derived.Deep.RegionLaw
import Derived.Deep.CutRange
import Derived.Test.YtligplnmgoailaaHdF
namespace Go.Proofs.Ytligplnmgoailaa
set_option linter.unusedVariables false
open Go.RowKit
attribute [local go_sem] Oper.semAt_some

/-- the copies: each is laid, apart from the two rows -/
def FI (C : Nat) (w : World) (uv fl : Value) (FF : List (Value × List ByteArray)) : Prop := ∀ p ∈ FF, RowS w p.1 p.2 ∧ (0 < p.2.length → ∀ k, p.1.ownBlock = some k → C ≤ k ∧ uv.ownBlock ≠ some k ∧ fl.ownBlock ≠ some k)
theorem rowS_lt {w : World} {v : Value} {F : List ByteArray} (h : RowS w v F) (h0 : 0 < F.length) : ∀ k, v.ownBlock = some k → k < w.heap.size := by
  intro k hk
  obtain ⟨b, off, a, cap, rfl, -, -, -, ha, -⟩ := h.1.shape
  obtain ⟨rfl, hlt⟩ := ha (by simpa [strV] using h0)
  simp only [Value.ownBlock, Option.some.injEq] at hk
  omega
theorem rowS_same {w w' : World} {v : Value} {F : List ByteArray} (h : RowS w v F) (hb : 0 < F.length → ∀ k, v.ownBlock = some k → w'.heap[k]? = w.heap[k]?) : RowS w' v F := by
  refine ⟨?_, h.2⟩
  have hl : (strV F).length = F.length := by simp [strV]
  obtain ⟨ad, cap, rfl, hc, hm, hl2, hn, hcell⟩ := h.1
  refine ⟨ad, cap, rfl, hc, hm, hl2, hn, fun x hx i hi => ?_⟩
  have h1 := hcell x hx i hi
  subst hx
  rw [← h1]
  refine World.cell?_of_block ?_
  have hbk : (x.add i).block = x.block := by unfold Addr.add; split <;> rfl
  rw [hbk]
  exact hb (by omega) x.block rfl
theorem FI.same {C : Nat} {w w' : World} {uv fl uv' fl' : Value} {FF : List (Value × List ByteArray)} (h : FI C w uv fl FF)
    (hb : ∀ k, C ≤ k → k < w.heap.size → uv.ownBlock ≠ some k → fl.ownBlock ≠ some k → w'.heap[k]? = w.heap[k]? ∧ uv'.ownBlock ≠ some k ∧ fl'.ownBlock ≠ some k) : FI C w' uv' fl' FF := by
  intro p hp
  obtain ⟨hr, ho⟩ := h p hp
  refine ⟨rowS_same hr (fun h0 k hk => ?_), fun h0 k hk => ?_⟩
  · obtain ⟨h1, h2, h3⟩ := ho h0 k hk
    exact (hb k h1 (rowS_lt hr h0 k hk) h2 h3).1
  · obtain ⟨h1, h2, h3⟩ := ho h0 k hk
    exact ⟨h1, (hb k h1 (rowS_lt hr h0 k hk) h2 h3).2⟩

set_option maxRecDepth 100000 in
set_option maxHeartbeats 8000000 in
theorem ropen_any (nm : ByteArray) (va nx up : Int) (gone rd : Bool) (lv : Value) (L : List HeldD) (w : World) (hL : HeldsIn w lv L) (hn : L.length ≤ 1000) :
    Calls Try.prog 10 #[.agg (foldA nm va nx up gone lv), .bool rd] w fun e w' => ∃ uv fl, e = .returned (.agg (sightV nm va rd uv fl)) ∧ OpenPost L w w' uv fl := by
  have HL := Lib.hid hL
  obtain ⟨_, _, la, lc, rfl, -⟩ := hL.row.shape
  clear hL
  unfold foldA
  go_enter Try.func10, Try.ntmps10
  go_wp2_with fail
  have HW0 : Hid (Below w.heap.size w (((w.alloc (.cells #[.string nm, .int .u32 va, .int .u32 nx, .int .u32 up, .bool gone, .slice la L.length lc] 25)).alloc (.cells #[.string ⟨#[]⟩, .int .u32 0, .bool false, .slice none 0 0, .slice none 0 0] 29)).alloc (.cells #[.string nm, .int .u32 va, .bool rd, .slice none 0 0, .slice none 0 0] 29))) := Lib.hid ((((Below.refl _ _).alloc (Nat.le_refl _) _).alloc (by simp) _).alloc (by simp; omega) _)
  have HS0 : Hid (Rw (((w.alloc (.cells #[.string nm, .int .u32 va, .int .u32 nx, .int .u32 up, .bool gone, .slice la L.length lc] 25)).alloc (.cells #[.string ⟨#[]⟩, .int .u32 0, .bool false, .slice none 0 0, .slice none 0 0] 29)).alloc (.cells #[.string nm, .int .u32 va, .bool rd, .slice none 0 0, .slice none 0 0] 29)) (w.heap.size + 1 + 1) #[.string nm, .int .u32 va, .bool rd, .slice none 0 0, .slice none 0 0] 29) := Lib.hid (three_rows w _ _ _).2
  have HZ0 : Hid (Rw (((w.alloc (.cells #[.string nm, .int .u32 va, .int .u32 nx, .int .u32 up, .bool gone, .slice la L.length lc] 25)).alloc (.cells #[.string ⟨#[]⟩, .int .u32 0, .bool false, .slice none 0 0, .slice none 0 0] 29)).alloc (.cells #[.string nm, .int .u32 va, .bool rd, .slice none 0 0, .slice none 0 0] 29)) (w.heap.size + 1) #[.string ⟨#[]⟩, .int .u32 0, .bool false, .slice none 0 0, .slice none 0 0] 29) := Lib.hid (three_rows w _ _ _).1
  have hz0 : (((w.alloc (.cells #[.string nm, .int .u32 va, .int .u32 nx, .int .u32 up, .bool gone, .slice la L.length lc] 25)).alloc (.cells #[.string ⟨#[]⟩, .int .u32 0, .bool false, .slice none 0 0, .slice none 0 0] 29)).alloc (.cells #[.string nm, .int .u32 va, .bool rd, .slice none 0 0, .slice none 0 0] 29)).heap.size = w.heap.size + 3 := by simp
  generalize (((w.alloc (.cells #[.string nm, .int .u32 va, .int .u32 nx, .int .u32 up, .bool gone, .slice la L.length lc] 25)).alloc (.cells #[.string ⟨#[]⟩, .int .u32 0, .bool false, .slice none 0 0, .slice none 0 0] 29)).alloc (.cells #[.string nm, .int .u32 va, .bool rd, .slice none 0 0, .slice none 0 0] 29)) = w0 at *
  have hsee := rsee_any nm va nx up gone (.slice la L.length lc) L w0 (HL.out.below HW0.out) hn
  unfold foldA at hsee
  refine hsee.mono ?_
  rintro e wM ⟨ov, rfl, M, hM, hfr, hkey, hbM⟩
  clear hsee
  have hzM := hbM.size
  have hSM := HS0.out.below hbM (by omega)
  have HZM := Lib.hid (HZ0.out.below hbM (by omega))
  have HWM : Hid (Below w.heap.size w wM) := Lib.hid (HW0.out.trans (hbM.mono HW0.out.size))
  have HMO := Lib.hid hM.helds
  have HFR := Lib.hid hfr
  have HKY := Lib.hid hkey
  have hMn : M.length ≤ 1000 := by
    have h1 := congrArg List.length hkey
    simp only [List.length_map] at h1
    have h2 : (seenL L).length ≤ L.length := List.length_filter_le _ _
    omega
  obtain ⟨lb, off, oa, oc, hov, -, -, -, hla, hcell⟩ := hM.helds.row.shape
  have HOB := Lib.hid (owns_le hM.row)
  subst hov
  have HLA := Lib.hid hla
  have HC := Lib.hid hcell
  clear hM hfr hkey hbM hla hcell
  obtain ⟨P, hP⟩ : ∃ P, w.heap.size + 1 + 1 = P := ⟨_, rfl⟩
  obtain ⟨Q, hQ⟩ : ∃ Q, w.heap.size + 1 = Q := ⟨_, rfl⟩
  rw [hP] at hSM ⊢
  rw [hQ] at HZM ⊢
  have HSM := Lib.hid hSM
  clear hSM
  go_wp2_with fail
  go_loopw [7] (fun iv wr => ∃ (i : Nat) (uv fl : Value) (FF : List (Value × List ByteArray)), iv = .int .i64 i ∧ i ≤ M.length ∧ Rw wr P #[.string nm, .int .u32 va, .bool rd, uv, fl] 29 ∧ OwnN wr wM.heap.size uv ((M.take i).map (·.uid)) ∧ OwnF wr wM.heap.size fl (FF.map (·.1)) ∧ FF.map (·.2) = (M.take i).map (·.F) ∧ FI wM.heap.size wr uv fl FF ∧ Kp P wM.heap.size wM wr) (fun iv _ => M.length - (RowKit.intOf iv).toNat)
  case atStart => exact ⟨0, _, _, [], rfl, Nat.zero_le _, HSM.out, ownN_nil _ _, World.ownsRow_nil _ _ _ _, rfl, (fun _ h => by cases h), Kp.refl _ _ _⟩
  case round =>
    obtain ⟨i, uv, fl, FF, rfl, hi, hrow, hu, hf, hff, hfi, hkp⟩ := hrel
    obtain ⟨US, hUS⟩ : ∃ US : List Int, (M.take i).map (·.uid) = US := ⟨_, rfl⟩
    obtain ⟨FS, hFS⟩ : ∃ FS : List Value, FF.map (·.1) = FS := ⟨_, rfl⟩
    rw [hUS] at hu
    rw [hFS] at hf
    have hnu : US.length + 1 ≤ 1001 := by rw [← hUS]; simp; omega
    have hnf : FS.length + 1 ≤ 1001 := by
      have h1 := congrArg List.length hff
      simp only [List.length_map] at h1
      rw [← hFS, List.length_map, h1, List.length_take]
      omega
    have HFF := Lib.hid hff
    have HFI := Lib.hid hfi
    have HNU := Lib.hid hnu
    have HNF := Lib.hid hnf
    have HUS := Lib.hid hUS
    have HFS := Lib.hid hFS
    clear hUS hFS hnu hnf hff hfi
    have HR := Lib.hid hrow
    have HU := Lib.hid hu
    have HF := Lib.hid hf
    have HK := Lib.hid hkp
    obtain ⟨ua, nu, uc, hux⟩ : ∃ a n c, uv = .slice a n c := by obtain ⟨a, c, e, _⟩ := owns_shape hu; exact ⟨a, _, c, e⟩
    obtain ⟨fa0, nf, fc0, hfx⟩ : ∃ a n c, fl = .slice a n c := by obtain ⟨a, c, e, _⟩ := owns_shape hf; exact ⟨a, _, c, e⟩
    subst hux hfx
    have hKs := hkp.size
    clear hrow hu hf hkp
    by_cases hlt : i < M.length
    · have hii : (i : Int) < (M.length : Int) := by omega
      have hpos : 0 < (heldsC M).length := by rw [heldsC_len]; omega
      obtain ⟨rfl, hlb⟩ := HLA.out hpos
      have hbase : w0.heap.size ≤ lb := HOB.out lb rfl
      have hd := HMO.out.ok M[i] (List.getElem_mem hlt)
      have hsn : M.take (i + 1) = M.take i ++ [M[i]] := List.take_succ_eq_append_getElem hlt
      have hcell : ∀ j (hj : j < 9) (u : Value), (heldA M[i])[j]? = some u → wr.cell? ⟨lb, off + i * 9 + j, none⟩ = some u := fun j hj u hu => by
        have h1 := heldsC_at M i j hlt hj
        rw [hu] at h1
        obtain ⟨h2, h3⟩ := List.getElem?_eq_some_iff.1 h1
        rw [Nat.add_assoc, World.cell?_of_block (a := ⟨lb, off + (i * 9 + j), none⟩) (HK.out.block lb hlb (by omega)), HC.out (i * 9 + j) h2, h3]
      have hfrd : ∀ k, M[i].fv.ownBlock = some k → k ≠ P := fun k hk => by have := (HFR.out M[i] (List.getElem_mem hlt)).1 k hk; omega
      have hrs : ∀ W, Kp P wM.heap.size wM W → RowS W M[i].fv M[i].F := fun W hW => ⟨hd.rf.1.kp hW (Nat.le_refl _) (fun e => hfrd P e rfl), hd.rf.2⟩
      have hc2 : ∀ W, Kp P wM.heap.size wM W → W.cell? ⟨lb, off + i * 9 + 2, none⟩ = some M[i].fv := fun W hW => by
        have h1 := heldsC_at M i 2 hlt (by decide)
        obtain ⟨h2, h3⟩ := List.getElem?_eq_some_iff.1 h1
        rw [Nat.add_assoc, World.cell?_of_block (a := ⟨lb, off + (i * 9 + 2), none⟩) (hW.block lb hlb (by omega)), HC.out (i * 9 + 2) h2, h3]
        rfl
      clear hfrd
      generalize M[i] = d at *
      obtain ⟨uid, up', fv, F, date, size, has, bv, B, dg, used⟩ := d
      obtain ⟨fa, fc, hfv, -⟩ := id hd.rf.1
      obtain ⟨ba, bc, hbv, -⟩ := id hd.rb.1
      simp only at hfv hbv
      subst hfv hbv
      have HRS := Lib.hid hrs
      have HC2 := Lib.hid hc2
      clear hrs hc2
      have a0 : wr.cell? ⟨lb, off + i * 9, none⟩ = some (.int .u32 uid) := hcell 0 (by decide) _ rfl
      have a1 : wr.cell? ⟨lb, off + i * 9 + 1, none⟩ = some (.int .u32 up') := hcell 1 (by decide) _ rfl
      have a2 : wr.cell? ⟨lb, off + i * 9 + 2, none⟩ = some (.slice fa F.length fc) := hcell 2 (by decide) _ rfl
      have a3 : wr.cell? ⟨lb, off + i * 9 + 3, none⟩ = some (.string date) := hcell 3 (by decide) _ rfl
      have a4 : wr.cell? ⟨lb, off + i * 9 + 4, none⟩ = some (.int .i64 size) := hcell 4 (by decide) _ rfl
      have a5 : wr.cell? ⟨lb, off + i * 9 + 5, none⟩ = some (.bool has) := hcell 5 (by decide) _ rfl
      have a6 : wr.cell? ⟨lb, off + i * 9 + 6, none⟩ = some (.slice ba B.length bc) := hcell 6 (by decide) _ rfl
      have a7 : wr.cell? ⟨lb, off + i * 9 + 7, none⟩ = some (.bool dg) := hcell 7 (by decide) _ rfl
      have a8 : wr.cell? ⟨lb, off + i * 9 + 8, none⟩ = some (.int .i64 used) := hcell 8 (by decide) _ rfl
      have p3 := HR.out.cell 3 (.slice ua nu uc) rfl
      have p4 := HR.out.cell 4 (.slice fa0 nf fc0) rfl
      have z3 := HR.out.froz 3
      have hPl := HR.out.lt
      clear hcell hd hpos
      obtain ⟨i0, hi0, hz0, hz1, hz2⟩ := info_parts Try.info22
      have HI0 := Lib.hid hi0
      clear hi0
      have hwd : Below wr.heap.size wr ((wr.alloc (.cells #[.int .u32 uid] 22)).drew) := ((Below.refl _ _).alloc (Nat.le_refl _) _).drew
      have hdz : ((wr.alloc (.cells #[.int .u32 uid] 22)).drew).heap.size = wr.heap.size + 1 := by show (wr.heap.push _).size = _; simp
      have HUX : Hid (OwnN ((wr.alloc (.cells #[.int .u32 uid] 22)).drew) wM.heap.size (.slice ua nu uc) US) := Lib.hid (owns_keep HU.out hwd (owns_lt HU.out))
      have HFX : Hid (OwnF ((wr.alloc (.cells #[.int .u32 uid] 22)).drew) wM.heap.size (.slice fa0 nf fc0) FS) := Lib.hid (owns_keep HF.out hwd (owns_lt HF.out))
      have HRX := Lib.hid (HR.out.below hwd hPl)
      have HKX := Lib.hid (HK.out.below (hwd.mono hKs))
      have HNX : Hid (((wr.alloc (.cells #[.int .u32 uid] 22)).drew).heap[wr.heap.size]? = some (.cells #[.int .u32 uid] 22 (0, 0))) := Lib.hid (heap_alloc_new wr _)
      have hCX : wM.heap.size ≤ ((wr.alloc (.cells #[.int .u32 uid] 22)).drew).heap.size := by omega
      clear hwd
      go_wp2_with fail
      go_cut [] (fun wx => ∃ v2, Rw wx P #[.string nm, .int .u32 va, .bool rd, v2, .slice fa0 nf fc0] 29 ∧ OwnN wx wM.heap.size v2 (US ++ [uid]) ∧ OwnF wx wM.heap.size (.slice fa0 nf fc0) FS ∧ FI wM.heap.size wx v2 (.slice fa0 nf fc0) FF ∧ Kp P wM.heap.size wM wx)
      case first =>
        go_region_law (first
          | (refine step_append_lies _ (by rfl) _ _ _ (by rfl) wM.heap.size 22 i0 _ 1 4 Try.underlying26 HI0.out hz0 hz1 hz2 rfl (by decide) (.slice ua nu uc) US.length (u32s US) (by rfl) HUX.out ⟨wr.heap.size, 0, none⟩ 1 1 [.int .u32 uid] (by rfl) (by rfl) (World.news_of_block (cs := #[.int .u32 uid]) (t := 22) (fr := (0, 0)) HNX.out) (by simp [Value.oneCell']) (by omega) (by have := HNU.out; unfold maxLen; omega) (by have := HNU.out; omega) hCX (wr.heap.size + 1) hdz ?_
             intro gg cap w4 hown4 hgrow hat hlt4
             have HO4 : Hid (OwnN w4 wM.heap.size (.slice (some ⟨gg, 0, none⟩) (US.length + 1) cap) (US ++ [uid])) := Lib.hid (by
               unfold OwnN
               rw [u32s_append, List.length_append]
               exact hown4)
             have hbl : Below wM.heap.size ((wr.alloc (.cells #[.int .u32 uid] 22)).drew) w4 := ((Below.refl _ _).grown hgrow hCX (owns_le HUX.out))
             have HK4 := Lib.hid (HKX.out.below hbl)
             have HF4 : Hid (OwnF w4 wM.heap.size (.slice fa0 nf fc0) FS) := Lib.hid (owns_same HFX.out (fun k hk => hgrow.block k (owns_lt HFX.out k hk) (fun e => own_apart HUX.out HFX.out k e.symm hk)))
             have HR4 := Lib.hid (HRX.out.below hbl (by omega))
             have HI4 : Hid (FI wM.heap.size w4 (.slice (some ⟨gg, 0, none⟩) (US.length + 1) cap) (.slice fa0 nf fc0) FF) := Lib.hid (HFI.out.same (fun k h1 h2 h3 h4 => ⟨(hgrow.block k (by omega) (fun e => h3 e.symm)).trans (Below.heap_alloc _ _ _ h2), fun e => by
               simp only [Value.ownBlock, Option.some.injEq] at e
               rcases hat with ha | ha
               · exact h3 (ha.trans (congrArg some e))
               · omega, h4⟩))
             have k3 := HR4.out.cell 3 (.slice ua nu uc) rfl
             have f3 := HR4.out.froz 3
             clear hown4 hgrow hat hbl))
        all_goals (go_wp2_with fail; go_meet; exact ⟨_, HR4.out.set 3 _, owns_other HO4.out (fun k hk => by have := owns_le HO4.out k hk; omega), owns_other HF4.out (fun k hk => by have := owns_le HF4.out k hk; omega), HI4.out.same (fun k h1 h2 h3 h4 => ⟨Below.heap_setCell _ _ _ _ (by rintro rfl; omega), h3, h4⟩), HK4.out.set 3 _⟩)
      case rest =>
        obtain ⟨v2, hr2, hu2, hf2, hi2, hk2⟩ := hcut
        obtain ⟨va2, nv2, vc2, rfl⟩ : ∃ a n c, v2 = .slice a n c := by obtain ⟨a, c, e, _⟩ := owns_shape hu2; exact ⟨a, _, c, e⟩
        obtain ⟨j0, hj0, hy0, hy1, hy2⟩ := info_parts Try.info46
        have HJ0 := Lib.hid hj0
        have HU2 := Lib.hid hu2
        have HF2 := Lib.hid hf2
        have HI2 := Lib.hid hi2
        have HR2 := Lib.hid hr2
        have HK2 := Lib.hid hk2
        have hks2 := hk2.size
        have hPw : P < wc.heap.size := hr2.lt
        have b2 : wc.cell? ⟨lb, off + i * 9 + 2, none⟩ = some (.slice fa F.length fc) := HC2.out wc hk2
        have q4 := hr2.cell 4 (.slice fa0 nf fc0) rfl
        have hds : wc.drew.heap.size = wc.heap.size := rfl
        have hrd : RowS wc.drew (.slice fa F.length fc) F := HRS.out wc.drew (hk2.below (Below.refl _ _).drew)
        have HRD := Lib.hid hrd
        have HSN := Lib.hid (show M.take (i + 1) = M.take i ++ [_] from hsn)
        clear hj0 hu2 hf2 hi2 hr2 hk2 hrd a0 a1 a2 a3 a4 a5 a6 a7 a8 p3 p4 z3
        go_wp2_with fail
        go_region_law (first
          | (go_simp
             go_at_call 25
             refine (copied_any _ F wc.drew HRD.out).mono ?_
             rintro e w5 ⟨v5, rfl, hr5, hb5, ho5⟩
             obtain ⟨a5, c5, hv5, -⟩ := id hr5.1
             subst hv5
             have HR5 := Lib.hid hr5
             have HB5 := Lib.hid hb5
             have HO5 := Lib.hid ho5
             have hz5 : wc.heap.size ≤ w5.heap.size := hb5.size
             have hP5 : P < w5.heap.size := by omega
             have HRW5 : Hid (Rw w5 P #[.string nm, .int .u32 va, .bool rd, .slice va2 nv2 vc2, .slice fa0 nf fc0] 29) := Lib.hid (HR2.out.below (((Below.refl _ _).drew).trans hb5) hPw)
             have q45 := HRW5.out.cell 4 (.slice fa0 nf fc0) rfl
             have hwy : Below wc.heap.size wc (w5.alloc (.cells #[.slice a5 F.length c5] 46)) := ((((Below.refl _ _).drew).trans hb5).alloc hz5 _)
             have hyz : (w5.alloc (.cells #[.slice a5 F.length c5] 46)).heap.size = w5.heap.size + 1 := by simp
             have HFY : Hid (OwnF (w5.alloc (.cells #[.slice a5 F.length c5] 46)) wM.heap.size (.slice fa0 nf fc0) FS) := Lib.hid (owns_keep HF2.out hwy (owns_lt HF2.out))
             have HUY : Hid (OwnN (w5.alloc (.cells #[.slice a5 F.length c5] 46)) wM.heap.size (.slice va2 nv2 vc2) (US ++ [uid])) := Lib.hid (owns_keep HU2.out hwy (owns_lt HU2.out))
             have HRY := Lib.hid (HR2.out.below hwy hPw)
             have HKP := Lib.hid (HK2.out.below (hwy.mono hks2))
             have HNY : Hid ((w5.alloc (.cells #[.slice a5 F.length c5] 46)).heap[w5.heap.size]? = some (.cells #[.slice a5 F.length c5] 46 (0, 0))) := Lib.hid (heap_alloc_new w5 _)
             have HIY : Hid (FI wM.heap.size (w5.alloc (.cells #[.slice a5 F.length c5] 46)) (.slice va2 nv2 vc2) (.slice fa0 nf fc0) FF) := Lib.hid (HI2.out.same (fun k h1 h2 h3 h4 => ⟨hwy.block k h2, h3, h4⟩))
             have HSY : Hid (RowS (w5.alloc (.cells #[.slice a5 F.length c5] 46)) (.slice a5 F.length c5) F) := Lib.hid ⟨hr5.1.below ((Below.refl _ _).alloc (Nat.le_refl _) _), hr5.2⟩
             have HSL : Hid (0 < F.length → ∀ k, (Value.slice a5 F.length c5).ownBlock = some k → wc.heap.size ≤ k ∧ k < w5.heap.size) := Lib.hid (fun h0 k hk => ⟨ho5 k hk, rowS_lt hr5 h0 k hk⟩)
             have hCY : wM.heap.size ≤ (w5.alloc (.cells #[.slice a5 F.length c5] 46)).heap.size := by omega
             clear hr5 hb5 ho5 hwy)
          | (refine step_append_lies _ (by rfl) _ _ _ (by rfl) wM.heap.size 46 j0 _ 1 24 Try.underlying27 HJ0.out hy0 hy1 hy2 rfl (by decide) (.slice fa0 nf fc0) FS.length FS (by rfl) HFY.out ⟨w5.heap.size, 0, none⟩ 1 1 [.slice a5 F.length c5] (by rfl) (by rfl) (World.news_of_block (cs := #[.slice a5 F.length c5]) (t := 46) (fr := (0, 0)) HNY.out) (by simp [Value.oneCell']) (by omega) (by have := HNF.out; unfold maxLen; omega) (by have := HNF.out; omega) hCY (w5.heap.size + 1) hyz ?_
             intro gg cap w6 hown6 hgrow hat hlt6
             have HO6 : Hid (OwnF w6 wM.heap.size (.slice (some ⟨gg, 0, none⟩) (FS.length + 1) cap) (FS ++ [.slice a5 F.length c5])) := Lib.hid (by
               unfold OwnF
               rw [List.length_append]
               exact hown6)
             have hbl : Below wM.heap.size (w5.alloc (.cells #[.slice a5 F.length c5] 46)) w6 := ((Below.refl _ _).grown hgrow hCY (owns_le HFY.out))
             have HK6 := Lib.hid (HKP.out.below hbl)
             have HU6 : Hid (OwnN w6 wM.heap.size (.slice va2 nv2 vc2) (US ++ [uid])) := Lib.hid (owns_same HUY.out (fun k hk => hgrow.block k (owns_lt HUY.out k hk) (fun e => own_apart HUY.out HFY.out k hk e.symm)))
             have HR6 := Lib.hid (HRY.out.below hbl (by omega))
             have HI6 : Hid (FI wM.heap.size w6 (.slice va2 nv2 vc2) (.slice (some ⟨gg, 0, none⟩) (FS.length + 1) cap) (FF ++ [((.slice a5 F.length c5 : Value), F)])) := Lib.hid (by
               have hne : ∀ k, k < w5.heap.size → (Value.slice fa0 nf fc0).ownBlock ≠ some k → (Value.slice (some ⟨gg, 0, none⟩) (FS.length + 1) cap).ownBlock ≠ some k := fun k hk hn e => by
                 simp only [Value.ownBlock, Option.some.injEq] at e
                 rcases hat with ha | ha
                 · exact hn (ha.trans (congrArg some e))
                 · omega
               intro p hp
               rcases List.mem_append.1 hp with hp | hp
               · obtain ⟨hr, ho⟩ := HI2.out p hp
                 obtain ⟨hrY, -⟩ := HIY.out p hp
                 refine ⟨rowS_same hrY (fun h0 k hk => ?_), fun h0 k hk => ?_⟩
                 · exact hgrow.block k (rowS_lt hrY h0 k hk) (fun e => (ho h0 k hk).2.2 e.symm)
                 · exact ⟨(ho h0 k hk).1, (ho h0 k hk).2.1, hne k (by have := rowS_lt hr h0 k hk; omega) (ho h0 k hk).2.2⟩
               · obtain rfl := List.mem_singleton.1 hp
                 have hl2 := owns_lt HF2.out
                 have hl3 := owns_lt HU2.out
                 refine ⟨rowS_same HSY.out (fun h0 k hk => ?_), fun h0 k hk => ?_⟩
                 · have := HSL.out h0 k hk
                   exact hgrow.block k (by omega) (fun e => by have := hl2 k e.symm; omega)
                 · have := HSL.out h0 k hk
                   exact ⟨by omega, fun e => by have := hl3 k e; omega, hne k (by omega) (fun e => by have := hl2 k e; omega)⟩)
             have k4 := HR6.out.cell 4 (.slice fa0 nf fc0) rfl
             have f4 := HR6.out.froz 4
             clear hown6 hgrow hat hbl))
        all_goals (
          go_wp2_with fail
          go_roundw
          case rel =>
            refine ⟨i + 1, .slice va2 nv2 vc2, _, FF ++ [((.slice a5 F.length c5 : Value), F)], by go_num, hlt, HR6.out.set 4 _, ?_, ?_, ?_, HI6.out.same (fun k h1 h2 h3 h4 => ⟨Below.heap_setCell _ _ _ _ (by rintro rfl; omega), h3, h4⟩), HK6.out.set 4 _⟩
            · rw [HSN.out, List.map_append, HUS.out]
              exact owns_other HU6.out (fun k hk => by have := owns_le HU6.out k hk; omega)
            · rw [List.map_append, HFS.out]
              exact owns_other HO6.out (fun k hk => by have := owns_le HO6.out k hk; omega)
            · rw [List.map_append, HFF.out, HSN.out, List.map_append]
              rfl
          case measure => simp [RowKit.intOf]; omega)
    · have hii : ¬ (i : Int) < (M.length : Int) := by omega
      obtain rfl : i = M.length := by omega
      have d0 := HR.out.cell 0 (.string nm) rfl
      have d1 := HR.out.cell 1 (.int .u32 va) rfl
      have d2 := HR.out.cell 2 (.bool rd) rfl
      have d3 := HR.out.cell 3 (.slice ua nu uc) rfl
      have d4 := HR.out.cell 4 (.slice fa0 nf fc0) rfl
      have HZ := Lib.hid (HK.out.rw HZM.out (by omega) (by omega))
      have e0 := HZ.out.cell 0 _ rfl
      have e1 := HZ.out.cell 1 _ rfl
      have e2 := HZ.out.cell 2 _ rfl
      have e3 := HZ.out.cell 3 _ rfl
      have e4 := HZ.out.cell 4 _ rfl
      have g0 := HZ.out.froz
      have hPQ : P ≠ Q := by omega
      have hQP : Q ≠ P := by omega
      go_wp2_with fail
      have hU := HU.out
      have hF := HF.out
      have hu1 := HUS.out
      have hf1 := HFF.out
      rw [List.take_length] at hu1 hf1
      have r5 := stored5 HZ.out (.string nm) (.int .u32 va) (.bool rd) (.slice ua nu uc) (.slice fa0 nf fc0)
      have huQ : (Value.slice ua nu uc).ownBlock ≠ some Q := fun e => by have := owns_le hU Q e; omega
      have hfQ : (Value.slice fa0 nf fc0).ownBlock ≠ some Q := fun e => by have := owns_le hF Q e; omega
      have u5 := stored5_row (owns_row hU) huQ (.string nm) (.int .u32 va) (.bool rd) (.slice ua nu uc) (.slice fa0 nf fc0)
      have f5 := stored5_row (owns_row hF) hfQ (.string nm) (.int .u32 va) (.bool rd) (.slice ua nu uc) (.slice fa0 nf fc0)
      have hbq := stored5_below (w := wr) (Nat.le_refl Q) (.string nm) (.int .u32 va) (.bool rd) (.slice ua nu uc) (.slice fa0 nf fc0)
      have hbo : ∀ k, k ≠ Q → ((((((wr.setCell ⟨Q, 0, none⟩ (.string nm)).setCell ⟨Q, 1, none⟩ (.int .u32 va)).setCell ⟨Q, 2, none⟩ (.bool rd)).setCell ⟨Q, 3, none⟩ (.slice ua nu uc)).setCell ⟨Q, 4, none⟩ (.slice fa0 nf fc0))).heap[k]? = wr.heap[k]? := fun k hk =>
        ((((Below.heap_setCell _ _ _ _ (by rintro rfl; exact hk rfl)).trans (Below.heap_setCell _ _ _ _ (by rintro rfl; exact hk rfl))).trans (Below.heap_setCell _ _ _ _ (by rintro rfl; exact hk rfl))).trans (Below.heap_setCell _ _ _ _ (by rintro rfl; exact hk rfl))).trans (Below.heap_setCell _ _ _ _ (by rintro rfl; exact hk rfl))
      have hs5 : ∀ p ∈ FF, RowS ((((((wr.setCell ⟨Q, 0, none⟩ (.string nm)).setCell ⟨Q, 1, none⟩ (.int .u32 va)).setCell ⟨Q, 2, none⟩ (.bool rd)).setCell ⟨Q, 3, none⟩ (.slice ua nu uc)).setCell ⟨Q, 4, none⟩ (.slice fa0 nf fc0))) p.1 p.2 := fun p hp => by
        obtain ⟨hr, ho⟩ := HFI.out p hp
        exact rowS_same hr (fun h0 k hk => hbo k (by have := (ho h0 k hk).1; omega))
      have hb5 := (HK.out.to_below HWM.out (by omega) (by omega)).trans (stored5_below (w := wr) (show w.heap.size ≤ Q by omega) (.string nm) (.int .u32 va) (.bool rd) (.slice ua nu uc) (.slice fa0 nf fc0))
      have hfin : OpenPost L w (((((wr.setCell ⟨Q, 0, none⟩ (.string nm)).setCell ⟨Q, 1, none⟩ (.int .u32 va)).setCell ⟨Q, 2, none⟩ (.bool rd)).setCell ⟨Q, 3, none⟩ (.slice ua nu uc)).setCell ⟨Q, 4, none⟩ (.slice fa0 nf fc0)) (.slice ua nu uc) (.slice fa0 nf fc0) := by
        refine ⟨US, FF, u5, ?_, hs5, ?_, ?_, hb5⟩
        · have h1 := HFS.out
          rw [← h1, List.length_map] at f5
          exact f5
        · rw [← hu1]; exact key_uid HKY.out
        · rw [hf1]; exact key_F HKY.out
      clear u5 f5 hs5 hb5 hU hF hbo hbq hu1 hf1
      exact bodyPost_ret (v := .agg #[.string nm, .int .u32 va, .bool rd, .slice ua nu uc, .slice fa0 nf fc0]) (results_cell_row rfl _ _ Q 29 #[.string nm, .int .u32 va, .bool rd, .slice ua nu uc, .slice fa0 nf fc0] (0, 0) _ rfl r5 Try.underlying29 rfl (by kernel_rfl)) rfl ⟨_, _, rfl, hfin⟩
end Go.Proofs.Ytligplnmgoailaa
