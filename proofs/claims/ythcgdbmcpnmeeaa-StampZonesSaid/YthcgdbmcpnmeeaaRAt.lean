/-
  The contract of the reference's At.
-/
import Derived.Test.YthcgdbmcpnmeeaaAt
import Derived.Test.YthcgdbmcpnmeeaaRAtMath
import Derived.Test.YthcgdbmcpnmeeaaRNo
import Derived.Test.YthcgdbmcpnmeeaaRYear
namespace Go.Proofs.Ythcgdbmcpnmeeaa
set_option linter.unusedVariables false
open Go.RowKit

theorem rat_ret (tmps : Array Value) (w : World) (b : Nat) (y mo d h mi s z : Int) (v : Value) (hp : tmps.getD 4 undef = .pointer (some ⟨b, 0, none⟩)) (hv : tmps.getD 5 undef = v) (hg : w.heap[b]? = some (.cells (St7 y mo d h mi s z) 23 (0, 0))) :
    (results Try.f11 tmps).run Try.prog w = .ok (.tuple #[.agg (St7 y mo d h mi s z), v]) w := by
  rw [results_cell_tmp (fn := Try.f11) (p := 4) (u := 5) (ty := 23) rfl, hp]
  have hl := run_loadVar_row (P := Try.prog) w b 23 23 (St7 y mo d h mi s z) (0, 0) _ hg Try.underlying23 rfl (by kernel_rfl)
  simp only [asAddr]
  show Result.andThen ((loadVar 23 ⟨b, 0, none⟩).run Try.prog w) _ = _
  rw [hl]
  show Result.ok _ _ = _
  rw [hv]

def NoStamp (e : Ending) : Prop := e = .returned (.tuple #[.agg z7, .bool false])
def RAns (t z : Int) (e : Ending) : Prop := (InR t z ∧ Found t z e) ∨ (¬ InR t z ∧ NoStamp e)

set_option maxRecDepth 8000 in
set_option maxHeartbeats 4000000 in
theorem rat_mid (t z : Int) (w : World) (z0 : -959 ≤ z) (z1 : z ≤ 959) (t0 : -3000000000 ≤ t) (t1 : t ≤ 33000000000) :
    Calls Try.prog 11 #[.int .i64 t, .int .i64 z] w fun e w' => RAns t z e ∧ Below w.heap.size w w' := by
  obtain ⟨Q, R, hq, hr, hS, r0, r1, rp, rn⟩ := quo_of (t + z * 60)
  have hcase : ∃ D r : Int, t + z * 60 = D * 86400 + r ∧ 0 ≤ r ∧ r < 86400 ∧ ((Q = D ∧ R = r ∧ ¬ R < 0) ∨ (Q = D + 1 ∧ R = r - 86400 ∧ R < 0)) := by
    by_cases hneg : R < 0
    · exact ⟨Q - 1, R + 86400, by omega, by omega, by omega, Or.inr ⟨by omega, by omega, hneg⟩⟩
    · exact ⟨Q, R, hS, by omega, r1, Or.inl ⟨rfl, rfl, hneg⟩⟩
  obtain ⟨D, r, hD, hr0, hr1, hc⟩ := hcase
  have d0 : -40000 ≤ D := by omega
  have d1 : D ≤ 400000 := by omega
  have er : t + z * 60 - D * 86400 = r := by omega
  have HS := Lib.hid hD
  clear rp rn hS hD r0 r1
  rcases hc with ⟨h1, h2, hneg⟩ | ⟨h1, h2, hneg⟩
  all_goals
    replace h1 := h1.symm
    replace h2 := h2.symm
    subst h1
    subst h2
    have hdt := hneg
    first
      | replace hdt : decide (r - 86400 < 0) = true := decide_eq_true hneg
      | replace hdt : decide (r < 0) = false := decide_eq_false hneg
    clear hneg
    go_enter Try.func11, Try.ntmps11
    go_wp2_with fail
    have HER := Lib.hid er
    clear hq hr er
    have hst : StB ((w.alloc (.cells z7 23)).alloc (.cells (St7 1970 1 0 (r / 3600) (r / 60 % 60) (r % 60) z) 23)) (w.heap.size + 1) (1800 + ((170 : Nat) : Int)) 1 0 (r / 3600) (r / 60 % 60) (r % 60) z := ⟨heap_alloc2_new w _ _⟩
    have HST := Lib.hid hst
    clear hst
    go_loopw [7] (fun l wx => ∃ m : Nat, 170 ≤ m ∧ m ≤ 1290 ∧ (0 ≤ D - (aheadM m - aheadM 170) ∨ m = 170) ∧ l = .int .i64 (D - (aheadM m - aheadM 170)) ∧ StB wx (w.heap.size + 1) (1800 + m) 1 0 (r / 3600) (r / 60 % 60) (r % 60) z ∧ Below (w.heap.size + 1) (w.alloc (.cells z7 23)) wx ∧ w.heap.size + 1 < wx.heap.size) (fun l _ => (intOf l).toNat)
    case atStart => exact ⟨170, by omega, by omega, Or.inr rfl, by rw [Int.sub_self, Int.sub_zero], HST.out, (Below.refl _ _).alloc (by simp) _, by simp⟩
    case round =>
      obtain ⟨m, hm0, hm1, hmd, rfl, hst, hb, hsz⟩ := hrel
      have hbd := aheadM_bd hm0
      have hy := yr_bd (1800 + m)
      obtain ⟨c0, c1, c2, c3, c4, c5, c6⟩ := hst.at
      clear c1 c2 c3 c4 c5 c6
      by_cases hge : yr (1800 + m) ≤ D - (aheadM m - aheadM 170)
      · have f0 := hst.free 0
        have hup : m + 1 ≤ 1290 := up_bd (m := m + 1) (D := D) (by omega) (by rw [aheadM_succ m]; omega) d1
        have HU := Lib.hid (hst.year (1800 + (m : Int) + 1))
        have HB := Lib.hid hb
        clear hst hb
        go_wp2_with (go_at_call 23; refine (ryear_any _ _ (by omega) (by omega)).mono ?_; rintro e w5 ⟨rfl, rfl⟩)
        go_roundw
        case rel => exact ⟨m + 1, by omega, hup, Or.inl (by rw [aheadM_succ m]; omega), by rw [aheadM_succ m, sub_step], by have := HU.out; rw [Int.add_assoc] at this; exact this, HB.out.setCell (p := ⟨w.heap.size + 1, 0, none⟩) (by simp) _, by simp; omega⟩
        case measure => simp [intOf]; omega
      · have HST1 := Lib.hid hst
        have HB1 := Lib.hid hb
        clear hst hb
        go_wp2_with (go_at_call 23; refine (ryear_any _ _ (by omega) (by omega)).mono ?_; rintro e w5 ⟨rfl, rfl⟩)
        have hup : 170 ≤ m ∨ True := Or.inr trivial
        obtain ⟨wo, rfl⟩ : ∃ wo : World, wo = wr := ⟨_, rfl⟩
        clear HST
        go_loopw [7] (fun l wx => ∃ m : Nat, 50 ≤ m ∧ m ≤ 1290 ∧ (0 ≤ D - (aheadM m - aheadM 170) ∨ m ≤ 170) ∧ D - (aheadM m - aheadM 170) < yr (1800 + m) ∧ l = .int .i64 (D - (aheadM m - aheadM 170)) ∧ StB wx (w.heap.size + 1) (1800 + m) 1 0 (r / 3600) (r / 60 % 60) (r % 60) z ∧ Below (w.heap.size + 1) (w.alloc (.cells z7 23)) wx ∧ w.heap.size + 1 < wx.heap.size) (fun l _ => (-(intOf l)).toNat)
        case atStart => exact ⟨m, by omega, hm1, by omega, by omega, rfl, HST1.out, HB1.out, hsz⟩
        case round =>
          clear hm0 hm1 hmd hbd hy hge HST1 HB1 hup hsz
          obtain ⟨n, hm0, hm1, hmd, hml, rfl, hst, hb, hsz⟩ := hrel
          have hy := yr_bd (1800 + n)
          obtain ⟨c0, c1, c2, c3, c4, c5, c6⟩ := hst.at
          clear c1 c2 c3 c4 c5 c6
          by_cases hlt : D - (aheadM n - aheadM 170) < 0
          · have hm2 : n ≤ 170 := by omega
            have hdn := down_bd (m := n) (D := D) hm2 hlt d0
            have HE : Hid (aheadM n = aheadM (n - 1) + yr (1800 + (n : Int) - 1)) := by
              have e : aheadM (n - 1 + 1) = aheadM (n - 1) + yr (1800 + ((n - 1 : Nat) : Int)) := rfl
              rw [show n - 1 + 1 = n by omega, show (1800 : Int) + ((n - 1 : Nat) : Int) = 1800 + (n : Int) - 1 by omega] at e
              exact e
            have hd2 := (aheadM_bd hm2).1
            have hd3 := (aheadM_bd hm2).2
            have f0 := hst.free 0
            have hy1 := yr_bd (1800 + (n : Int) - 1)
            have HU := Lib.hid (hst.year (1800 + (n : Int) - 1))
            have HB := Lib.hid hb
            clear hst hb
            go_wp2_with (go_at_call 23; refine (ryear_any _ _ (by omega) (by omega)).mono ?_; rintro e w5 ⟨rfl, rfl⟩)
            go_roundw
            case rel =>
              have he := HE.out
              refine ⟨n - 1, by omega, by omega, Or.inr (by omega), ?_, ?_, ?_, HB.out.setCell (p := ⟨w.heap.size + 1, 0, none⟩) (by simp) _, by simp; omega⟩
              · rw [show (1800 : Int) + ((n - 1 : Nat) : Int) = 1800 + (n : Int) - 1 by omega]; omega
              · rw [he, add_step]
              · rw [show (1800 : Int) + ((n - 1 : Nat) : Int) = 1800 + (n : Int) - 1 by omega]; exact HU.out
            case measure => simp [intOf]; omega
          · have HST2 := Lib.hid hst
            have HB2 := Lib.hid hb
            clear hst hb
            go_wp2_with fail
            obtain ⟨wo2, rfl⟩ : ∃ wo2 : World, wo2 = wr := ⟨_, rfl⟩
            go_loopw [7] (fun l wx => ∃ j : Nat, j ≤ 11 ∧ 0 ≤ D - (aheadM n - aheadM 170) - cumN (1800 + n) j ∧ l = .int .i64 (D - (aheadM n - aheadM 170) - cumN (1800 + n) j) ∧ StB wx (w.heap.size + 1) (1800 + n) (1 + j) 0 (r / 3600) (r / 60 % 60) (r % 60) z ∧ Below (w.heap.size + 1) (w.alloc (.cells z7 23)) wx ∧ w.heap.size + 1 < wx.heap.size) (fun l _ => (intOf l).toNat)
            case atStart => exact ⟨0, by omega, by simp only [cumN]; omega, by simp only [cumN, Int.sub_zero], HST2.out, HB2.out, hsz⟩
            case round =>
              clear hsz c0
              obtain ⟨j, hj, hjl, rfl, hst, hb, hsx⟩ := hrel
              have hdm := dim_bd (1800 + n) (1 + j)
              have hcb := cum_bd (1800 + n) j
              obtain ⟨c0, c1, c2, c3, c4, c5, c6⟩ := hst.at
              by_cases hge : dim (1800 + n) (1 + j) ≤ D - (aheadM n - aheadM 170) - cumN (1800 + n) j
              · have HE : Hid (cumN (1800 + (n : Int)) (j + 1) = cumN (1800 + (n : Int)) j + dim (1800 + (n : Int)) (1 + (j : Int))) := by
                  show cumN (1800 + (n : Int)) j + dim (1800 + (n : Int)) ((j : Int) + 1) = _
                  rw [Int.add_comm (j : Int) 1]
                have hj1 := month_on (y := 1800 + n) (left := D - (aheadM n - aheadM 170)) (j := j) (by omega) (by omega)
                have f1 := hst.free 1
                have HU := Lib.hid (hst.month (1 + (j : Int) + 1))
                have HB := Lib.hid hb
                clear hst hb c2 c3 c4 c5 c6
                go_wp2_with (go_at_call 24; refine (rdays_any _ _ _ (by omega) (by omega) (by omega) (by omega)).mono ?_; rintro e w5 ⟨rfl, rfl⟩)
                go_roundw
                case rel => exact ⟨j + 1, hj1, by rw [HE.out]; omega, by rw [HE.out, Int.sub_sub _ (cumN _ _)], by have := HU.out; rw [Int.add_assoc 1] at this; exact this, HB.out.setCell (p := ⟨w.heap.size + 1, 1, none⟩) (by simp) _, by simp; omega⟩
                case measure => simp [intOf]; omega
              · have f2 := hst.free 2
                have HB := Lib.hid hb
                have hz : wr.heap[w.heap.size]? = some (.cells z7 23 (0, 0)) := by rw [hb.block _ (by omega)]; exact heap_alloc_new w _
                have hne : w.heap.size + 1 ≠ w.heap.size := by omega
                have HDY := Lib.hid (hst.day (D - (aheadM n - aheadM 170) - cumN (1800 + n) j + 1))
                have HZ : Hid ((wr.setCell ⟨w.heap.size + 1, 2, none⟩ (.int .i64 (D - (aheadM n - aheadM 170) - cumN (1800 + n) j + 1))).heap[w.heap.size]? = some (.cells z7 23 (0, 0))) := Lib.hid (by rw [heap_setCell_other _ _ _ _ hne.symm]; exact hz)
                have HBD := Lib.hid (hb.setCell (p := ⟨w.heap.size + 1, 2, none⟩) (by simp) (.int .i64 (D - (aheadM n - aheadM 170) - cumN (1800 + n) j + 1)))
                clear hst hb hz
                go_wp2_with (go_at_call 24; refine (rdays_any _ _ _ (by omega) (by omega) (by omega) (by omega)).mono ?_; rintro e w5 ⟨rfl, rfl⟩)
                have HI := Lib.hid (inR_of (t := t) (z := z) (D := D) (r := r) (left := 0) (m := n) HS.out hr0 hr1 (by omega) (by omega))
                by_cases hin : 100 ≤ n ∧ n ≤ 1199
                · have HF := Lib.hid (rstamp_of (t := t) z0 z1 HS.out hr0 hr1 hin.1 hin.2 hj rfl hjl (by omega))
                  refine (rright_yes _ _ _ _ _ _ _ _ HF.out.1).mono ?_
                  rintro e w5 ⟨rfl, hb5⟩
                  have st5 := HDY.out.below hb5 (by simp; omega)
                  obtain ⟨d0, d1, d2, d3, d4, d5, d6⟩ := st5.at
                  have hz5 : w5.heap[w.heap.size]? = some (.cells z7 23 (0, 0)) := by rw [hb5.block _ (by simp; omega)]; exact HZ.out
                  have zc : ∀ i, w5.cell? ⟨w.heap.size, i, none⟩ = z7[i]? := fun i => cell_of_row _ _ i _ 23 (0, 0) hz5
                  have g0 : w5.cell? ⟨w.heap.size, 0, none⟩ = some (.int .i64 0) := zc 0
                  have g1 : w5.cell? ⟨w.heap.size, 1, none⟩ = some (.int .i64 0) := zc 1
                  have g2 : w5.cell? ⟨w.heap.size, 2, none⟩ = some (.int .i64 0) := zc 2
                  have g3 : w5.cell? ⟨w.heap.size, 3, none⟩ = some (.int .i64 0) := zc 3
                  have g4 : w5.cell? ⟨w.heap.size, 4, none⟩ = some (.int .i64 0) := zc 4
                  have g5 : w5.cell? ⟨w.heap.size, 5, none⟩ = some (.int .i64 0) := zc 5
                  have g6 : w5.cell? ⟨w.heap.size, 6, none⟩ = some (.int .i64 0) := zc 6
                  have k0 : w5.frozen? ⟨w.heap.size, 0, none⟩ = false := frozen_of_row _ _ _ _ _ hz5
                  have k1 : w5.frozen? ⟨w.heap.size, 1, none⟩ = false := frozen_of_row _ _ _ _ _ hz5
                  have k2 : w5.frozen? ⟨w.heap.size, 2, none⟩ = false := frozen_of_row _ _ _ _ _ hz5
                  have k3 : w5.frozen? ⟨w.heap.size, 3, none⟩ = false := frozen_of_row _ _ _ _ _ hz5
                  have k4 : w5.frozen? ⟨w.heap.size, 4, none⟩ = false := frozen_of_row _ _ _ _ _ hz5
                  have k5 : w5.frozen? ⟨w.heap.size, 5, none⟩ = false := frozen_of_row _ _ _ _ _ hz5
                  have k6 : w5.frozen? ⟨w.heap.size, 6, none⟩ = false := frozen_of_row _ _ _ _ _ hz5
                  have HZ5 := Lib.hid hz5
                  have HB5 := Lib.hid (((Below.refl w.heap.size w).alloc (Nat.le_refl _) (.cells z7 23)).trans ((HBD.out.trans (hb5.mono (by simp; omega))).mono (by omega)))
                  clear hz5 zc st5 hb5 c0 c1 c2 c3 c4 c5 c6 f2
                  go_wp2_with fail
                  have hfin := put7_row _ w.heap.size (1800 + n) (1 + j) (D - (aheadM n - aheadM 170) - cumN (1800 + n) j + 1) (r / 3600) (r / 60 % 60) (r % 60) z HZ5.out
                  refine bodyPost_ret (v := .tuple #[.agg (St7 (1800 + n) (1 + j) (D - (aheadM n - aheadM 170) - cumN (1800 + n) j + 1) (r / 3600) (r / 60 % 60) (r % 60) z), .bool true]) (rat_ret _ _ _ _ _ _ _ _ _ _ _ rfl rfl hfin) rfl ⟨Or.inl ⟨HI.out.2 hin, _, _, _, _, _, _, HF.out.1, HF.out.2, rfl⟩, ?_⟩
                  exact put7_below _ _ _ _ _ _ _ _ HB5.out (Nat.le_refl _)
                · have HF := Lib.hid (rstamp_not (t := 0) (z := 0) (D := 0) (r := 0) (left := 0) (m := n) (j := 0) hin (1 + j) (D - (aheadM n - aheadM 170) - cumN (1800 + n) j + 1) (r / 3600) (r / 60 % 60) (r % 60) z)
                  refine (rright_no _ _ _ _ _ _ _ _ HF.out).mono ?_
                  rintro e w5 ⟨rfl, hb5⟩
                  have st5 := HDY.out.below hb5 (by simp; omega)
                  obtain ⟨d0, d1, d2, d3, d4, d5, d6⟩ := st5.at
                  have hz5 : w5.heap[w.heap.size]? = some (.cells z7 23 (0, 0)) := by rw [hb5.block _ (by simp; omega)]; exact HZ.out
                  have zc : ∀ i, w5.cell? ⟨w.heap.size, i, none⟩ = z7[i]? := fun i => cell_of_row _ _ i _ 23 (0, 0) hz5
                  have g0 : w5.cell? ⟨w.heap.size, 0, none⟩ = some (.int .i64 0) := zc 0
                  have g1 : w5.cell? ⟨w.heap.size, 1, none⟩ = some (.int .i64 0) := zc 1
                  have g2 : w5.cell? ⟨w.heap.size, 2, none⟩ = some (.int .i64 0) := zc 2
                  have g3 : w5.cell? ⟨w.heap.size, 3, none⟩ = some (.int .i64 0) := zc 3
                  have g4 : w5.cell? ⟨w.heap.size, 4, none⟩ = some (.int .i64 0) := zc 4
                  have g5 : w5.cell? ⟨w.heap.size, 5, none⟩ = some (.int .i64 0) := zc 5
                  have g6 : w5.cell? ⟨w.heap.size, 6, none⟩ = some (.int .i64 0) := zc 6
                  have k0 : w5.frozen? ⟨w.heap.size, 0, none⟩ = false := frozen_of_row _ _ _ _ _ hz5
                  have k1 : w5.frozen? ⟨w.heap.size, 1, none⟩ = false := frozen_of_row _ _ _ _ _ hz5
                  have k2 : w5.frozen? ⟨w.heap.size, 2, none⟩ = false := frozen_of_row _ _ _ _ _ hz5
                  have k3 : w5.frozen? ⟨w.heap.size, 3, none⟩ = false := frozen_of_row _ _ _ _ _ hz5
                  have k4 : w5.frozen? ⟨w.heap.size, 4, none⟩ = false := frozen_of_row _ _ _ _ _ hz5
                  have k5 : w5.frozen? ⟨w.heap.size, 5, none⟩ = false := frozen_of_row _ _ _ _ _ hz5
                  have k6 : w5.frozen? ⟨w.heap.size, 6, none⟩ = false := frozen_of_row _ _ _ _ _ hz5
                  have HZ5 := Lib.hid hz5
                  have HB5 := Lib.hid (((Below.refl w.heap.size w).alloc (Nat.le_refl _) (.cells z7 23)).trans ((HBD.out.trans (hb5.mono (by simp; omega))).mono (by omega)))
                  clear hz5 zc st5 hb5 c0 c1 c2 c3 c4 c5 c6 f2
                  go_wp2_with fail
                  have hfin := put7_row _ w.heap.size 0 0 0 0 0 0 0 HZ5.out
                  refine bodyPost_ret (v := .tuple #[.agg z7, .bool false]) (rat_ret _ _ _ _ _ _ _ _ _ _ _ rfl rfl hfin) rfl ⟨Or.inr ⟨fun x => hin (HI.out.1 x), rfl⟩, ?_⟩
                  exact put7_below _ _ _ _ _ _ _ _ HB5.out (Nat.le_refl _)
end Go.Proofs.Ythcgdbmcpnmeeaa
