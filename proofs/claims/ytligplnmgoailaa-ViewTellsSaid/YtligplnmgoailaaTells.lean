/-
  The walk of ViewTells.
-/
import Derived.Test.YtligplnmgoailaaHdU
namespace Go.Proofs.Ytligplnmgoailaa
set_option linter.unusedVariables false
open Go.RowKit

set_option maxRecDepth 100000 in
set_option maxHeartbeats 8000000 in
theorem viewTells_any (nm : ByteArray) (va nx up : Int) (gone rd : Bool) (lv : Value) (L : List HeldD) (bx : ByteArray) (vl : Int) (rd2 : Bool) (u : Value) (fa : Option Addr) (fn fc : Nat) (l : List Int) (x : Int) (sv : Value) (s : List (Int × Int)) (b : Bool) (w : World)
    (hrow : RowV w 9 lv L.length (heldsC L)) (hok : ∀ h ∈ L, HeldWk w h) (hl : RowN w u l) (hlen : l.length ≤ 9223372036854775807) (hs : RowR w sv s) :
    Calls Try.prog 3 #[.agg (foldA nm va nx up gone lv), .bool rd, .agg (sightV bx vl rd2 u (.slice fa fn fc)), .int .u32 x, sv, .bool b] w fun e w' => e = .returned (.bool true) ∧ Below w.heap.size w w' := by
  have HL : Hid (HeldsIn w lv L) := Lib.hid ⟨hrow, fun h hh => (hok h hh).ok⟩
  have HUID := Lib.hid (seen_uid hok)
  have HU := Lib.hid hl
  have HS := Lib.hid hs
  have HLEN := Lib.hid hlen
  obtain ⟨la, lc, rfl, -⟩ := id hrow
  obtain ⟨ua, uc, rfl, -⟩ := id hl.1
  obtain ⟨sa, sc, rfl, -, hsm, -⟩ := id hs.1
  have hsl : s.length ≤ 9223372036854775807 := by
    obtain ⟨_, _, _, _, _, h1, h2, _⟩ := hs.shape
    unfold maxLen at h2; omega
  clear hrow hok hl hs hlen hsm
  unfold foldA sightV
  go_enter Try.func3, Try.ntmps3
  go_wp2_with fail
  have HP0 : Hid (Rw ((w.alloc (.cells #[.string nm, .int .u32 va, .int .u32 nx, .int .u32 up, .bool gone, .slice la L.length lc] 25)).alloc (.cells #[.string bx, .int .u32 vl, .bool rd2, .slice ua l.length uc, .slice fa fn fc] 29)) w.heap.size #[.string nm, .int .u32 va, .int .u32 nx, .int .u32 up, .bool gone, .slice la L.length lc] 25) := Lib.hid ((Below.heap_alloc _ _ _ (by simp)).trans (heap_alloc_new w _))
  have HQ0 : Hid (SgRow ((w.alloc (.cells #[.string nm, .int .u32 va, .int .u32 nx, .int .u32 up, .bool gone, .slice la L.length lc] 25)).alloc (.cells #[.string bx, .int .u32 vl, .bool rd2, .slice ua l.length uc, .slice fa fn fc] 29)) (w.heap.size + 1) (.string bx) (.int .u32 vl) (.bool rd2) (.slice ua l.length uc) (.slice fa fn fc)) := Lib.hid (two_row w _ _)
  have HB0 : Hid (Below w.heap.size w ((w.alloc (.cells #[.string nm, .int .u32 va, .int .u32 nx, .int .u32 up, .bool gone, .slice la L.length lc] 25)).alloc (.cells #[.string bx, .int .u32 vl, .bool rd2, .slice ua l.length uc, .slice fa fn fc] 29))) := Lib.hid (((Below.refl _ _).alloc (Nat.le_refl _) _).alloc (by simp) _)
  have hw0 : w.heap.size + 1 < ((w.alloc (.cells #[.string nm, .int .u32 va, .int .u32 nx, .int .u32 up, .bool gone, .slice la L.length lc] 25)).alloc (.cells #[.string bx, .int .u32 vl, .bool rd2, .slice ua l.length uc, .slice fa fn fc] 29)).heap.size := by simp
  generalize (w.alloc (.cells #[.string nm, .int .u32 va, .int .u32 nx, .int .u32 up, .bool gone, .slice la L.length lc] 25)).alloc (.cells #[.string bx, .int .u32 vl, .bool rd2, .slice ua l.length uc, .slice fa fn fc] 29) = w0 at *
  have hgp : ∃ p q : Nat, p = w.heap.size ∧ q = w.heap.size + 1 := ⟨_, _, rfl, rfl⟩
  refine (awake_any _).mono ?_
  rintro e w1 ⟨rfl, hb1⟩
  have HP1 := Lib.hid (HP0.out.below hb1 (by omega))
  have HQ1 := Lib.hid (HQ0.out.below hb1 hw0)
  have HB1 := Lib.hid (HB0.out.trans (hb1.mono (by omega)))
  have hw1 : w.heap.size + 1 < w1.heap.size := by have := hb1.size; omega
  clear hb1 HP0 HQ0 HB0 hw0
  obtain ⟨p0, p1, p2, p3, p4, p5⟩ := HP1.out.six
  obtain ⟨q0, q1, q2, q3, q4⟩ := HQ1.out.cells
  go_wp2_with fail
  refine (small_any _ _ _ _ _ _ _ _ _ _ _ _ _ _ _ _ _ _).mono ?_
  rintro e w2 ⟨hi, hb2⟩
  have HP2 := Lib.hid (HP1.out.below hb2 (by omega))
  have HQ2 := Lib.hid (HQ1.out.below hb2 hw1)
  have HB2 := Lib.hid (HB1.out.trans (hb2.mono (by omega)))
  have hw2 : w.heap.size + 1 < w2.heap.size := by have := hb2.size; omega
  clear hb2 HP1 HQ1 HB1 hw1 p0 p1 p2 p3 p4 p5 q0 q1 q2 q3 q4 hgp
  obtain ⟨p0, p1, p2, p3, p4, p5⟩ := HP2.out.six
  obtain ⟨q0, q1, q2, q3, q4⟩ := HQ2.out.cells
  rcases hi with ⟨hsm, rfl⟩ | ⟨-, rfl⟩
  case inr =>
    go_wp2_with fail
    refine (awake_any _).mono ?_
    rintro e w3 ⟨rfl, hb3⟩
    have HB3 := Lib.hid (HB2.out.trans (hb3.mono (by omega)))
    clear hb3
    go_wp2_with fail
    go_ret
    exact ⟨rfl, HB3.out⟩
  case inl =>
    have HSM := Lib.hid hsm
    clear hsm
    by_cases h500 : 500 < s.length
    · have ht : decide (500 < (s.length : Int)) = true := by simp; omega
      go_wp2_with fail
      refine (awake_any _).mono ?_
      rintro e w3 ⟨rfl, hb3⟩
      have HB3 := Lib.hid (HB2.out.trans (hb3.mono (by omega)))
      clear hb3
      go_wp2_with fail
      go_ret
      exact ⟨rfl, HB3.out⟩
    · have ht : decide (500 < (s.length : Int)) = false := by simp; omega
      have HSL : Hid (s.length ≤ 500) := Lib.hid (by omega)
      go_wp2_with fail
      refine (copyFolder_any nm va nx up gone _ L _ (HL.out.below HB2.out) (by have := HSM.out; omega)).mono ?_
      rintro e w3 ⟨lv3, rfl, M, hM, hk, hb3⟩
      have HM3 := Lib.hid hM
      have HK := Lib.hid hk
      have HP3 := Lib.hid (HP2.out.below hb3 (by omega))
      have HQ3 := Lib.hid (HQ2.out.below hb3 hw2)
      have HB3 := Lib.hid (HB2.out.trans (hb3.mono (by omega)))
      have hw3 : w.heap.size + 1 < w3.heap.size := by have := hb3.size; omega
      obtain ⟨ma, mc, rfl, -⟩ := id hM.row
      clear hM hk hb3 HP2 HQ2 HB2 hw2 p0 p1 p2 p3 p4 p5 q0 q1 q2 q3 q4 ht h500
      unfold foldA
      go_wp2_with fail
      have hal := (Below.refl w3.heap.size w3).alloc (Nat.le_refl _) (.cells #[.string nm, .int .u32 va, .int .u32 nx, .int .u32 up, .bool gone, .slice ma M.length mc] 25)
      have HN4 := Lib.hid (show Rw (w3.alloc (.cells #[.string nm, .int .u32 va, .int .u32 nx, .int .u32 up, .bool gone, .slice ma M.length mc] 25)) w3.heap.size #[.string nm, .int .u32 va, .int .u32 nx, .int .u32 up, .bool gone, .slice ma M.length mc] 25 from heap_alloc_new w3 _)
      have HP4 := Lib.hid (HP3.out.below hal (by omega))
      have HQ4 := Lib.hid (HQ3.out.below hal hw3)
      have HM4 := Lib.hid (HM3.out.below hal)
      have HB4 := Lib.hid (HB3.out.trans (hal.mono (by omega)))
      have hw4 : w.heap.size + 1 < w3.heap.size ∧ w3.heap.size < (w3.alloc (.cells #[.string nm, .int .u32 va, .int .u32 nx, .int .u32 up, .bool gone, .slice ma M.length mc] 25)).heap.size := ⟨hw3, by simp⟩
      clear hal HP3 HQ3 HM3 HB3 hw3
      generalize w3.heap.size = p3 at *
      generalize w3.alloc (.cells #[.string nm, .int .u32 va, .int .u32 nx, .int .u32 up, .bool gone, .slice ma M.length mc] 25) = w4 at *
      have HL4 := Lib.hid (HL.out.below HB4.out)
      have HU4 := Lib.hid (HU.out.below HB4.out)
      have HS4 := Lib.hid (HS.out.below HB4.out)
      have HML : Hid (M.length = L.length) := Lib.hid (by have := congrArg List.length HK.out; simpa using this)
      have HSK := Lib.hid (seen_key HK.out)
      have hw4a := hw4.1
      have hw4b := hw4.2
      clear hw4
      have hkeep : ∀ W, Below w4.heap.size w4 W → ((fun w' => ((w'.cell? ⟨w.heap.size, 0, none⟩ = some (.string nm) ∧ w'.cell? ⟨w.heap.size, 1, none⟩ = some (.int .u32 va) ∧ w'.cell? ⟨w.heap.size, 2, none⟩ = some (.int .u32 nx) ∧ w'.cell? ⟨w.heap.size, 3, none⟩ = some (.int .u32 up) ∧ w'.cell? ⟨w.heap.size, 4, none⟩ = some (.bool gone) ∧ w'.cell? ⟨w.heap.size, 5, none⟩ = some (.slice la L.length lc)) ∧ (w'.cell? ⟨p3, 0, none⟩ = some (.string nm) ∧ w'.cell? ⟨p3, 1, none⟩ = some (.int .u32 va) ∧ w'.cell? ⟨p3, 2, none⟩ = some (.int .u32 nx) ∧ w'.cell? ⟨p3, 3, none⟩ = some (.int .u32 up) ∧ w'.cell? ⟨p3, 4, none⟩ = some (.bool gone) ∧ w'.cell? ⟨p3, 5, none⟩ = some (.slice ma M.length mc))) ∧ (w'.cell? ⟨w.heap.size + 1, 0, none⟩ = some (.string bx) ∧ w'.cell? ⟨w.heap.size + 1, 1, none⟩ = some (.int .u32 vl) ∧ w'.cell? ⟨w.heap.size + 1, 2, none⟩ = some (.bool rd2) ∧ w'.cell? ⟨w.heap.size + 1, 3, none⟩ = some (.slice ua l.length uc) ∧ w'.cell? ⟨w.heap.size + 1, 4, none⟩ = some (.slice fa fn fc)))) W := fun W h => ⟨⟨(HP4.out.below h (by omega)).six, (HN4.out.below h hw4b).six⟩, (HQ4.out.below h (by omega)).cells⟩
      have HKP := Lib.hid hkeep
      clear hkeep
      have h0 := HKP.out _ ((Below.refl _ _).drew)
      obtain ⟨r, hrr, hru⟩ : ∃ r : Bool, (∀ e, RightIs l fn e → e = .returned (.bool r)) ∧ (r = true → Up l) := by
        by_cases h : Up l ∧ fn = l.length
        · exact ⟨true, fun e he => he.elim (·.2) (fun g => absurd h g.1), fun _ => h.1⟩
        · exact ⟨false, fun e he => he.elim (fun g => absurd g.1 h) (·.2), (fun g => nomatch g)⟩
      have HRR := Lib.hid hrr
      have HRU := Lib.hid hru
      have hbb : (r != r) = false := by simp
      clear hrr hru
      go_cut [50] (fun b wx => b = .bool false ∧ Below w4.heap.size w4 wx)
      case first =>
        go_region_held3 (fun w' => ((w'.cell? ⟨w.heap.size, 0, none⟩ = some (.string nm) ∧ w'.cell? ⟨w.heap.size, 1, none⟩ = some (.int .u32 va) ∧ w'.cell? ⟨w.heap.size, 2, none⟩ = some (.int .u32 nx) ∧ w'.cell? ⟨w.heap.size, 3, none⟩ = some (.int .u32 up) ∧ w'.cell? ⟨w.heap.size, 4, none⟩ = some (.bool gone) ∧ w'.cell? ⟨w.heap.size, 5, none⟩ = some (.slice la L.length lc)) ∧ (w'.cell? ⟨p3, 0, none⟩ = some (.string nm) ∧ w'.cell? ⟨p3, 1, none⟩ = some (.int .u32 va) ∧ w'.cell? ⟨p3, 2, none⟩ = some (.int .u32 nx) ∧ w'.cell? ⟨p3, 3, none⟩ = some (.int .u32 up) ∧ w'.cell? ⟨p3, 4, none⟩ = some (.bool gone) ∧ w'.cell? ⟨p3, 5, none⟩ = some (.slice ma M.length mc))) ∧ (w'.cell? ⟨w.heap.size + 1, 0, none⟩ = some (.string bx) ∧ w'.cell? ⟨w.heap.size + 1, 1, none⟩ = some (.int .u32 vl) ∧ w'.cell? ⟨w.heap.size + 1, 2, none⟩ = some (.bool rd2) ∧ w'.cell? ⟨w.heap.size + 1, 3, none⟩ = some (.slice ua l.length uc) ∧ w'.cell? ⟨w.heap.size + 1, 4, none⟩ = some (.slice fa fn fc)))
          (first | with_reducible exact kb | with_reducible exact h0 | go_keep)
          (first
            | (go_at_call 9; refine (open_any nm va nx up gone rd _ M _ (HM4.out.below ((Below.refl _ _).drew)) (by have := HSM.out; have := HML.out; omega)).mono ?_; rintro e w5 ⟨uv5, fl5, rfl, hp5⟩; obtain ⟨U5, FF5, hu5, hf5, hr5, hU5, hF5, hb5⟩ := hp5; have HB5 : Hid (Below w4.heap.size w4 w5) := Lib.hid ((Below.refl _ _).drew.trans hb5); have HUV5 := Lib.hid hu5; have HFL5 := Lib.hid hf5; have HR5 := Lib.hid hr5; have HUE5 := Lib.hid hU5; have HFE5 := Lib.hid hF5; have kb := HKP.out _ HB5.out; clear hu5 hf5 hr5 hU5 hF5 hb5)
            | (go_at_call 10; refine (ropen_any nm va nx up gone rd _ L _ (HL4.out.below HB5.out) (by have := HSM.out; omega)).mono ?_; rintro e w6 ⟨uv6, fl6, rfl, hp6⟩; obtain ⟨U6, FF6, hu6, hf6, hr6, hU6, hF6, hb6⟩ := hp6; have HB6 : Hid (Below w4.heap.size w4 w6) := Lib.hid (HB5.out.trans (hb6.mono HB5.out.size)); have HB56 := Lib.hid hb6; have HUV6 := Lib.hid hu6; have HFL6 := Lib.hid hf6; have HR6 := Lib.hid hr6; have HUE6 := Lib.hid hU6; have HFE6 := Lib.hid hF6; have kb := HKP.out _ HB6.out; clear hu6 hf6 hr6 hU6 hF6 hb6)
            | (go_at_call 8; refine (sight_any nm va rd uv5 uv6 fl5 fl6 U5 U6 FF5 FF6 _ ⟨HUV5.out.below HB56.out, by rw [HUE5.out, seen_uids HSK.out]; exact HUID.out⟩ ⟨HUV6.out, by rw [HUE6.out]; exact HUID.out⟩ (by rw [HUE5.out, HUE6.out]; exact seen_uids HSK.out) (HFL5.out.below HB56.out) HFL6.out (fun p hp => (HR5.out p hp).below HB56.out) HR6.out (by rw [HFE5.out, HFE6.out]; exact seen_Fs HSK.out)).mono ?_; rintro e w7 ⟨rfl, hb7⟩; have HB7 : Hid (Below w4.heap.size w4 w7) := Lib.hid (HB6.out.trans (hb7.mono HB6.out.size)); have kb := HKP.out _ HB7.out; clear hb7)
            | (go_at_call 11; refine (pright_any bx vl rd2 _ fa fn fc l _ (HU4.out.below HB7.out) HLEN.out).mono ?_; rintro e w8 ⟨hi8, hb8⟩; obtain rfl := HRR.out _ hi8; have HB8 : Hid (Below w4.heap.size w4 w8) := Lib.hid (HB7.out.trans (hb8.mono HB7.out.size)); have kb := HKP.out _ HB8.out; clear hb8 hi8)
            | (go_at_call 12; refine (right_any bx vl rd2 _ fa fn fc l _ (HU4.out.below HB8.out) HLEN.out).mono ?_; rintro e w9 ⟨hi9, hb9⟩; obtain rfl := HRR.out _ hi9; have HB9 : Hid (Below w4.heap.size w4 w9) := Lib.hid (HB8.out.trans (hb9.mono HB8.out.size)); have kb := HKP.out _ HB9.out; clear hb9 hi9)
            | (go_at_call 13; refine (folder_any nm va nx up gone _ _ M L _ (HM4.out.below HB9.out) (HL4.out.below HB9.out) HK.out).mono ?_; rintro e wa ⟨rfl, hba⟩; have HBa : Hid (Below w4.heap.size w4 wa) := Lib.hid (HB9.out.trans (hba.mono HB9.out.size)); have kb := HKP.out _ HBa.out; clear hba))
        all_goals
          go_wp2_with fail
          go_meet
          exact ⟨rfl, HBa.out⟩
      case rest =>
        obtain ⟨hb, hbel⟩ := hcut
        subst hb
        have HQ5 := Lib.hid (HQ4.out.below hbel (by omega))
        have HB5 := Lib.hid (HB4.out.trans (hbel.mono (by omega)))
        have HU5 := Lib.hid (HU4.out.below hbel)
        have HS5 := Lib.hid (HS4.out.below hbel)
        have hw5 : w.heap.size + 1 < wc.heap.size := by have := hbel.size; omega
        clear hbel HP4 HQ4 HB4 HU4 HS4 HM4 HL4 HN4 HKP h0 hw4a hw4b HK HSK HML hbb
        obtain ⟨q0, q1, q2, q3, q4⟩ := HQ5.out.cells
        go_wp2_with fail
        refine (right_any bx vl rd2 _ fa fn fc l _ HU5.out HLEN.out).mono ?_
        rintro e w6 ⟨hi6, hb6⟩
        obtain rfl := HRR.out _ hi6
        have HQ6 := Lib.hid (HQ5.out.below hb6 hw5)
        have HB6 := Lib.hid (HB5.out.trans (hb6.mono (by omega)))
        have HU6 := Lib.hid (HU5.out.below hb6)
        have HS6 := Lib.hid (HS5.out.below hb6)
        have hw6 : w.heap.size + 1 < w6.heap.size := by have := hb6.size; omega
        clear hb6 hi6 HQ5 HB5 HU5 HS5 hw5 q0 q1 q2 q3 q4
        have h0 := (HQ6.out.below ((Below.refl _ _).drew) hw6).cells
        cases r with
        | false =>
          go_wp2_with fail
          go_ret
          exact ⟨rfl, HB6.out⟩
        | true =>
          have HUP := Lib.hid (HRU.out rfl)
          go_upto_region 8 with fail
          cases b
          · go_region_held3 (fun w' => w'.cell? ⟨w.heap.size + 1, 0, none⟩ = some (.string bx) ∧ w'.cell? ⟨w.heap.size + 1, 1, none⟩ = some (.int .u32 vl) ∧ w'.cell? ⟨w.heap.size + 1, 2, none⟩ = some (.bool rd2) ∧ w'.cell? ⟨w.heap.size + 1, 3, none⟩ = some (.slice ua l.length uc) ∧ w'.cell? ⟨w.heap.size + 1, 4, none⟩ = some (.slice fa fn fc))
              (first | with_reducible exact kb | with_reducible exact h0 | go_keep)
              (first
                | (go_at_call 14; refine (number_any bx vl rd2 _ _ l x _ (HU6.out.below ((Below.refl _ _).drew)) HLEN.out).mono ?_; rintro e wa ⟨⟨ra, rfl, hia⟩, hba⟩; have HIA := Lib.hid hia; have HBa : Hid (Below w6.heap.size w6 wa) := Lib.hid ((Below.refl _ _).drew.trans hba); have kb := (HQ6.out.below HBa.out hw6).cells; clear hba hia)
                | (go_at_call 15; refine (rnumber_any bx vl rd2 _ _ l x _ (HU6.out.below HBa.out) (by have := HSM.out; omega)).mono ?_; rintro e wb ⟨⟨rb, rfl, hib⟩, hbb⟩; obtain rfl := num_both HUP.out HIA.out hib; have HBb : Hid (Below w6.heap.size w6 wb) := Lib.hid (HBa.out.trans (hbb.mono HBa.out.size)); have kb := (HQ6.out.below HBb.out hw6).cells; clear hbb hib)
                | (go_at_call 17; refine (uidsF_any bx vl rd2 _ _ _ s l _ (HS6.out.below HBb.out) (HU6.out.below HBb.out) (by have := HSL.out; omega) (by have := HSM.out; omega)).mono ?_; rintro e wc2 ⟨oc, rfl, hoc, hbc⟩; have HOc := Lib.hid (hoc.row (numK_bd HU6.out.2 _ (Nat.le_refl _))); obtain ⟨oca, occ, rfl, _⟩ := owns_shape hoc; have HBc : Hid (Below w6.heap.size w6 wc2) := Lib.hid (HBb.out.trans (hbc.mono HBb.out.size)); have kb := (HQ6.out.below HBc.out hw6).cells; clear hoc hbc)
                | (go_at_call 18; refine (ruidsF_any bx vl rd2 _ _ _ s l _ (HS6.out.below HBc.out) (HU6.out.below HBc.out) (by have := HSL.out; omega) (by have := HSM.out; omega)).mono ?_; rintro e wd ⟨od, rfl, hod, hbd⟩; have HOd := Lib.hid (hod.row (numK_bd HU6.out.2 _ (Nat.le_refl _))); obtain ⟨oda, odc, rfl, _⟩ := owns_shape hod; have HBd : Hid (Below w6.heap.size w6 wd) := Lib.hid (HBc.out.trans (hbd.mono HBc.out.size)); have HBcd := Lib.hid hbd; have kb := (HQ6.out.below HBd.out hw6).cells; clear hod hbd)
                | (go_at_call 16; refine (plainN_any (HOc.out.below HBcd.out) HOd.out).mono ?_; rintro e we ⟨rfl, hbe⟩; rw [decide_eq_true (rfl : numK s l l.length = numK s l l.length)]; have HBe : Hid (Below w6.heap.size w6 we) := Lib.hid (HBd.out.trans (hbe.mono HBd.out.size)); have kb := (HQ6.out.below HBe.out hw6).cells; clear hbe))
            all_goals
              go_wp2_with fail
              go_ret
              exact ⟨rfl, HB6.out.trans (HBe.out.mono (by omega))⟩
          · go_region_held3 (fun w' => w'.cell? ⟨w.heap.size + 1, 0, none⟩ = some (.string bx) ∧ w'.cell? ⟨w.heap.size + 1, 1, none⟩ = some (.int .u32 vl) ∧ w'.cell? ⟨w.heap.size + 1, 2, none⟩ = some (.bool rd2) ∧ w'.cell? ⟨w.heap.size + 1, 3, none⟩ = some (.slice ua l.length uc) ∧ w'.cell? ⟨w.heap.size + 1, 4, none⟩ = some (.slice fa fn fc))
              (first | with_reducible exact kb | with_reducible exact h0 | go_keep)
              (first
                | (go_at_call 14; refine (number_any bx vl rd2 _ _ l x _ (HU6.out.below ((Below.refl _ _).drew)) HLEN.out).mono ?_; rintro e wa ⟨⟨ra, rfl, hia⟩, hba⟩; have HIA := Lib.hid hia; have HBa : Hid (Below w6.heap.size w6 wa) := Lib.hid ((Below.refl _ _).drew.trans hba); have kb := (HQ6.out.below HBa.out hw6).cells; clear hba hia)
                | (go_at_call 15; refine (rnumber_any bx vl rd2 _ _ l x _ (HU6.out.below HBa.out) (by have := HSM.out; omega)).mono ?_; rintro e wb ⟨⟨rb, rfl, hib⟩, hbb⟩; obtain rfl := num_both HUP.out HIA.out hib; have HBb : Hid (Below w6.heap.size w6 wb) := Lib.hid (HBa.out.trans (hbb.mono HBa.out.size)); have kb := (HQ6.out.below HBb.out hw6).cells; clear hbb hib)
                | (go_at_call 17; refine (uidsT_any bx vl rd2 _ _ _ s l _ (HS6.out.below HBb.out) (HU6.out.below HBb.out) (by have := HSL.out; omega) (by have := HSM.out; omega)).mono ?_; rintro e wc2 ⟨oc, rfl, hoc, hbc⟩; have HOc := Lib.hid (hoc.row (fun n hn => HU6.out.2 n (List.mem_filter.1 hn).1)); obtain ⟨oca, occ, rfl, _⟩ := owns_shape hoc; have HBc : Hid (Below w6.heap.size w6 wc2) := Lib.hid (HBb.out.trans (hbc.mono HBb.out.size)); have kb := (HQ6.out.below HBc.out hw6).cells; clear hoc hbc)
                | (go_at_call 18; refine (ruidsT_any bx vl rd2 _ _ _ s l _ (HS6.out.below HBc.out) (HU6.out.below HBc.out) (by have := HSL.out; omega) (by have := HSM.out; omega)).mono ?_; rintro e wd ⟨od, rfl, hod, hbd⟩; have HOd := Lib.hid (hod.row (fun n hn => HU6.out.2 n (List.mem_filter.1 hn).1)); obtain ⟨oda, odc, rfl, _⟩ := owns_shape hod; have HBd : Hid (Below w6.heap.size w6 wd) := Lib.hid (HBc.out.trans (hbd.mono HBc.out.size)); have HBcd := Lib.hid hbd; have kb := (HQ6.out.below HBd.out hw6).cells; clear hod hbd)
                | (go_at_call 16; refine (plainN_any (HOc.out.below HBcd.out) HOd.out).mono ?_; rintro e we ⟨rfl, hbe⟩; rw [decide_eq_true (rfl : pickL s l = pickL s l)]; have HBe : Hid (Below w6.heap.size w6 we) := Lib.hid (HBd.out.trans (hbe.mono HBd.out.size)); have kb := (HQ6.out.below HBe.out hw6).cells; clear hbe))
            all_goals
              go_wp2_with fail
              go_ret
              exact ⟨rfl, HB6.out.trans (HBe.out.mono (by omega))⟩
end Go.Proofs.Ytligplnmgoailaa
namespace Go.Proofs.Ytligplnmgoailaa.viewTells
open Go.RowKit
theorem walk (w : World) (nm : ByteArray) (va nx up : Int) (gone : Bool) (lv : Value) (L : List HeldD) (hrow : RowV w 9 lv L.length (heldsC L)) (hok : ∀ h ∈ L, HeldWk w h) (rd : Bool)
    (bx : ByteArray) (vl : Int) (rd2 : Bool) (u : Value) (fa : Option Addr) (fn fc : Nat) (l : List Int) (hl : RowN w u l) (hlen : l.length ≤ 9223372036854775807) (x : Int) (_ : (Lit.int .u32 x).wf = true) (sv : Value) (s : List (Int × Int)) (hs : RowR w sv s) (b : Bool) :
    Calls Try.prog 3 #[.agg (foldA nm va nx up gone lv), .bool rd, .agg (sightV bx vl rd2 u (.slice fa fn fc)), .int .u32 x, sv, .bool b] w fun e w' => e = .returned (.bool true) ∧ Below w.heap.size w w' :=
  viewTells_any nm va nx up gone rd lv L bx vl rd2 u fa fn fc l x sv s b w hrow hok hl hlen hs
end Go.Proofs.Ytligplnmgoailaa.viewTells
