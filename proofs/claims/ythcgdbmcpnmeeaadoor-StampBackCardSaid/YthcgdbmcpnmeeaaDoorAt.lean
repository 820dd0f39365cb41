/-
  The contract of At.
-/
import Derived.Test.YthcgdbmcpnmeeaaDoorParse
import Derived.Test.YthcgdbmcpnmeeaaDoorAtMath
namespace Go.Proofs.YthcgdbmcpnmeeaaDoor
set_option linter.unusedVariables false
open Go.RowKit

/-- a stamp's block, whole -/
structure StB (w : World) (b : Nat) (y mo d h mi s z : Int) : Prop where
  row : w.heap[b]? = some (.cells (St7 y mo d h mi s z) 23 (0, 0))

theorem StB.at {w : World} {b : Nat} {y mo d h mi s z : Int} (k : StB w b y mo d h mi s z) : StAt w b y mo d h mi s z := StAt.of_row k.row
theorem StB.free {w : World} {b : Nat} {y mo d h mi s z : Int} (k : StB w b y mo d h mi s z) (j : Nat) : w.frozen? ⟨b, j, none⟩ = false := frozen_of_row _ _ _ _ _ k.row
theorem StB.below {w w' : World} {b S : Nat} {y mo d h mi s z : Int} (k : StB w b y mo d h mi s z) (hb : Below S w w') (hS : b < S) : StB w' b y mo d h mi s z := ⟨by rw [hb.block _ hS]; exact k.row⟩
theorem StB.year {w : World} {b : Nat} {y mo d h mi s z : Int} (k : StB w b y mo d h mi s z) (v : Int) : StB (w.setCell ⟨b, 0, none⟩ (.int .i64 v)) b v mo d h mi s z := ⟨heap_setCell_same w b 0 _ _ _ k.row⟩
theorem StB.month {w : World} {b : Nat} {y mo d h mi s z : Int} (k : StB w b y mo d h mi s z) (v : Int) : StB (w.setCell ⟨b, 1, none⟩ (.int .i64 v)) b y v d h mi s z := ⟨heap_setCell_same w b 1 _ _ _ k.row⟩
theorem StB.day {w : World} {b : Nat} {y mo d h mi s z : Int} (k : StB w b y mo d h mi s z) (v : Int) : StB (w.setCell ⟨b, 2, none⟩ (.int .i64 v)) b y mo v h mi s z := ⟨heap_setCell_same w b 2 _ _ _ k.row⟩
theorem StB.new (w : World) (y mo d h mi s z : Int) : StB (w.alloc (.cells #[.int .i64 y, .int .i64 mo, .int .i64 d, .int .i64 h, .int .i64 mi, .int .i64 s, .int .i64 z] 23)) w.heap.size y mo d h mi s z := ⟨heap_alloc_new w _⟩

theorem at_ret (tmps : Array Value) (w : World) (b : Nat) (y mo d h mi s z : Int) (v : Value) (hp : tmps.getD 4 undef = .pointer (some ⟨b, 0, none⟩)) (hv : tmps.getD 5 undef = v) (hg : w.heap[b]? = some (.cells (St7 y mo d h mi s z) 23 (0, 0))) :
    (results Tryd.f13 tmps).run Tryd.prog w = .ok (.tuple #[.agg (St7 y mo d h mi s z), v]) w := by
  rw [results_cell_tmp (fn := Tryd.f13) (p := 4) (u := 5) (ty := 23) rfl, hp]
  have hl := run_loadVar_row (P := Tryd.prog) w b 23 23 (St7 y mo d h mi s z) (0, 0) _ hg Tryd.underlying23 rfl (by kernel_rfl)
  simp only [asAddr]
  show Result.andThen ((loadVar 23 ⟨b, 0, none⟩).run Tryd.prog w) _ = _
  rw [hl]
  show Result.ok _ _ = _
  rw [hv]

def Found (t z : Int) (e : Ending) : Prop := ∃ y mo d h mi s : Int, RightS y mo d h mi s z ∧ secs y mo d h mi s z = t ∧ e = .returned (.tuple #[.agg (St7 y mo d h mi s z), .bool true])

set_option maxRecDepth 8000 in
set_option maxHeartbeats 2000000 in
theorem at_yes (t z : Int) (w : World) (z0 : -959 ≤ z) (z1 : z ≤ 959) (t0 : -2208988800 ≤ t + z * 60) (t1 : t + z * 60 < 32503680000) :
    Calls Tryd.prog 13 #[.int .i64 t, .int .i64 z] w fun e w' => Found t z e ∧ Below w.heap.size w w' := by
  have A7 := ahead70
  have A11 := ahead1100
  go_enter Tryd.func13, Tryd.ntmps13
  go_wp2_with fail
  refine (ahead_any 1970 _ (by decide) (by decide)).mono ?_
  rintro e w1 ⟨rfl, hb1⟩
  have hs1 := hb1.size
  have E7 : aheadN (1970 - 1900 : Int).toNat = 25567 := ahead70
  have E11 : aheadN (3000 - 1900 : Int).toNat = 401767 := ahead1100
  rw [E7]
  go_wp2_with fail
  refine (ahead_any 3000 _ (by decide) (by decide)).mono ?_
  rintro e w2 ⟨rfl, hb2⟩
  have hs2 := hb2.size
  rw [E11]
  go_wp2_with fail
  refine (ahead_any 1970 _ (by decide) (by decide)).mono ?_
  rintro e w3 ⟨rfl, hb3⟩
  have hs3 := hb3.size
  rw [E7]
  clear E7 E11 A7 A11
  go_wp2_with fail
  refine (days_any 1900 2 _ (by decide) (by decide) (by decide) (by decide)).mono ?_
  rintro e w4 ⟨rfl, hb4⟩
  rw [show dim 1900 2 = 28 by decide +kernel]
  have hs4 := hb4.size
  simp only [World.size_alloc] at hs1 hs4
  have hbw : Below (w.heap.size + 1) (w.alloc (.cells z7 23)) w4 := by
    have b1 : Below (w.heap.size + 1) (w.alloc (.cells z7 23)) w1 := hb1.mono (by simp)
    have b3 := (b1.trans (hb2.mono (by omega))).trans (hb3.mono (by omega))
    exact (b3.alloc (by omega) _).trans (hb4.mono (by simp; omega))
  have hst : StB w4 w3.heap.size (1900 + ((0 : Nat) : Int)) 1 0 (hourOf t z) (minOf t z) (secOf t z) z := (StB.new w3 1900 1 0 _ _ _ z).below hb4 (by simp)
  have hwb : w.heap.size + 1 ≤ w3.heap.size := by omega
  have HB := Lib.hid hbw
  have HST := Lib.hid hst
  have hd := day_bd t z t0 t1
  clear hbw hst hb1 hb2 hb3 hb4
  have hsb : w3.heap.size < w4.heap.size := by omega
  go_wp2_with fail
  go_loopw [11, 13] (fun l n wr => ∃ k : Nat, k ≤ 1099 ∧ 0 ≤ dayOf t z - aheadN k ∧ l = .int .i64 (dayOf t z - aheadN k) ∧ n = .int .i64 (yr (1900 + k)) ∧ StB wr w3.heap.size (1900 + k) 1 0 (hourOf t z) (minOf t z) (secOf t z) z ∧ Below (w.heap.size + 1) (w.alloc (.cells z7 23)) wr ∧ w3.heap.size < wr.heap.size) (fun l _ _ => (intOf l).toNat)
  case atStart => exact ⟨0, by omega, by simp only [aheadN]; omega, by simp only [aheadN, Int.sub_zero]; rfl, congrArg (Value.int .i64) (by decide +kernel : (365 : Int) = yr (1900 + ((0 : Nat) : Int))), HST.out, HB.out, hsb⟩
  case round =>
    obtain ⟨k, hk, hl, rfl, rfl, hst, hb, hsz⟩ := hrel
    have hy := yr_bd (1900 + k)
    have ha := ahead_bd k
    by_cases hlt : yr (1900 + k) ≤ dayOf t z - aheadN k
    · have hk1 := year_on (k := k) (L := dayOf t z) (by omega) (by omega)
      obtain ⟨c0, c1, c2, c3, c4, c5, c6⟩ := hst.at
      have f0 := hst.free 0
      go_wp2_with fail
      refine (days_any (1900 + (k : Int) + 1) 2 _ (by omega) (by omega) (by decide) (by decide)).mono ?_
      rintro e w5 ⟨rfl, hb5⟩
      have hst5 := (hst.year (1900 + (k : Int) + 1)).below hb5 (by simp; omega)
      have hs5 := hb5.size
      simp only [World.size_setCell] at hs5
      have hbw5 := (hb.setCell (p := ⟨w3.heap.size, 0, none⟩) hwb (.int .i64 (1900 + (k : Int) + 1))).trans (hb5.mono (by simp; omega))
      have HS5 := Lib.hid hst5
      have HB5 := Lib.hid hbw5
      clear hst5 hbw5 hb5 c0 c1 c2 c3 c4 c5 c6 f0 hst hb
      have hdm := dim_bd (1900 + (k : Int) + 1) 2
      have hye := Lib.hid (yr_eq (1900 + (k : Int) + 1))
      go_wp2_with fail
      go_roundw
      case rel => exact ⟨k + 1, hk1, by simp only [aheadN]; omega, by simp only [aheadN]; rw [Int.sub_sub], by rw [hye.out]; congr 2, by have := HS5.out; rw [Int.add_assoc] at this; exact this, HB5.out, by omega⟩
      case measure => simp [intOf]; omega
    · have HST2 := Lib.hid hst
      have HB2 := Lib.hid hb
      clear hst hb
      go_wp2_with fail
      obtain ⟨wo, rfl⟩ : ∃ wo : World, wo = wr := ⟨_, rfl⟩
      clear HST HB
      go_loopw [11] (fun l wx => ∃ j : Nat, j ≤ 11 ∧ 0 ≤ dayOf t z - aheadN k - cumN (1900 + k) j ∧ l = .int .i64 (dayOf t z - aheadN k - cumN (1900 + k) j) ∧ StB wx w3.heap.size (1900 + k) (1 + j) 0 (hourOf t z) (minOf t z) (secOf t z) z ∧ Below (w.heap.size + 1) (w.alloc (.cells z7 23)) wx ∧ w3.heap.size < wx.heap.size) (fun l _ => (intOf l).toNat)
      case atStart => exact ⟨0, by omega, by simp only [cumN]; omega, by simp only [cumN, Int.sub_zero], HST2.out, HB2.out, hsz⟩
      case round =>
        obtain ⟨j, hj, hjl, rfl, hst, hb, hsx⟩ := hrel
        have hdm := dim_bd (1900 + k) (1 + j)
        have hcb := cum_bd (1900 + k) j
        obtain ⟨c0, c1, c2, c3, c4, c5, c6⟩ := hst.at
        clear c2 c3 c4 c5 c6
        by_cases hge : dim (1900 + k) (1 + j) ≤ dayOf t z - aheadN k - cumN (1900 + k) j
        · have HE : Hid (cumN (1900 + (k : Int)) (j + 1) = cumN (1900 + (k : Int)) j + dim (1900 + (k : Int)) (1 + (j : Int))) := by
            show cumN (1900 + (k : Int)) j + dim (1900 + (k : Int)) ((j : Int) + 1) = _
            rw [Int.add_comm (j : Int) 1]
          have hj1 := month_on (y := 1900 + k) (left := dayOf t z - aheadN k) (j := j) (by omega) (by omega)
          go_wp2_with fail
          refine (days_any (1900 + (k : Int)) (1 + (j : Int)) _ (by omega) (by omega) (by omega) (by omega)).mono ?_
          rintro e w5 ⟨rfl, hb5⟩
          have hst5 := hst.below hb5 hsx
          have hs5 := hb5.size
          have HB5 := Lib.hid (hb.trans (hb5.mono (by omega)))
          clear hb5 hst hb c0 c1
          obtain ⟨d0, d1, d2, d3, d4, d5, d6⟩ := hst5.at
          clear d2 d3 d4 d5 d6
          go_wp2_with fail
          refine (days_any (1900 + (k : Int)) (1 + (j : Int)) _ (by omega) (by omega) (by omega) (by omega)).mono ?_
          rintro e w6 ⟨rfl, hb6⟩
          have hst6 := hst5.below hb6 (by omega)
          have hs6 := hb6.size
          have HB6 := Lib.hid (HB5.out.trans (hb6.mono (by omega)))
          have HS6 := Lib.hid hst6
          clear hb6 hst5 d0 d1
          obtain ⟨d0, d1, d2, d3, d4, d5, d6⟩ := hst6.at
          have f1 := hst6.free 1
          clear d2 d3 d4 d5 d6 hst6
          go_wp2_with fail
          go_roundw
          case rel => exact ⟨j + 1, hj1, by rw [HE.out]; omega, by rw [HE.out, Int.sub_sub _ (cumN _ _)], by have := HS6.out.month (1 + (j : Int) + 1); rw [Int.add_assoc 1] at this; exact this, HB6.out.setCell (p := ⟨w3.heap.size, 1, none⟩) hwb _, by simp; omega⟩
          case measure => simp [intOf]; omega
        · go_wp2_with fail
          refine (days_any (1900 + (k : Int)) (1 + (j : Int)) _ (by omega) (by omega) (by omega) (by omega)).mono ?_
          rintro e w5 ⟨rfl, hb5⟩
          have hst5 := hst.below hb5 hsx
          have hs5 := hb5.size
          have HB5 := Lib.hid (hb.trans (hb5.mono (by omega)))
          have HS5 := Lib.hid hst5
          clear hb5 hst hb c0 c1
          have f2 := hst5.free 2
          obtain ⟨d0, d1, d2, d3, d4, d5, d6⟩ := hst5.at
          have hz : w5.heap[w.heap.size]? = some (.cells z7 23 (0, 0)) := by rw [HB5.out.block _ (by omega)]; exact heap_alloc_new w _
          have hne : w3.heap.size ≠ w.heap.size := by omega
          have zc : ∀ i, w5.cell? ⟨w.heap.size, i, none⟩ = z7[i]? := fun i => cell_of_row _ _ i _ 23 (0, 0) hz
          have g0 : w5.cell? ⟨w.heap.size, 0, none⟩ = some (.int .i64 0) := zc 0
          have g1 : w5.cell? ⟨w.heap.size, 1, none⟩ = some (.int .i64 0) := zc 1
          have g2 : w5.cell? ⟨w.heap.size, 2, none⟩ = some (.int .i64 0) := zc 2
          have g3 : w5.cell? ⟨w.heap.size, 3, none⟩ = some (.int .i64 0) := zc 3
          have g4 : w5.cell? ⟨w.heap.size, 4, none⟩ = some (.int .i64 0) := zc 4
          have g5 : w5.cell? ⟨w.heap.size, 5, none⟩ = some (.int .i64 0) := zc 5
          have g6 : w5.cell? ⟨w.heap.size, 6, none⟩ = some (.int .i64 0) := zc 6
          have k0 : w5.frozen? ⟨w.heap.size, 0, none⟩ = false := frozen_of_row _ _ _ _ _ hz
          have k1 : w5.frozen? ⟨w.heap.size, 1, none⟩ = false := frozen_of_row _ _ _ _ _ hz
          have k2 : w5.frozen? ⟨w.heap.size, 2, none⟩ = false := frozen_of_row _ _ _ _ _ hz
          have k3 : w5.frozen? ⟨w.heap.size, 3, none⟩ = false := frozen_of_row _ _ _ _ _ hz
          have k4 : w5.frozen? ⟨w.heap.size, 4, none⟩ = false := frozen_of_row _ _ _ _ _ hz
          have k5 : w5.frozen? ⟨w.heap.size, 5, none⟩ = false := frozen_of_row _ _ _ _ _ hz
          have k6 : w5.frozen? ⟨w.heap.size, 6, none⟩ = false := frozen_of_row _ _ _ _ _ hz
          have HZ := Lib.hid hz
          clear hz zc
          have HF := Lib.hid (stamp_of t z (dayOf t z - aheadN k - cumN (1900 + k) j) k j z0 z1 hk hj rfl hjl (by omega))
          go_wp2_with fail
          have hz' : (w5.setCell ⟨w3.heap.size, 2, none⟩ (.int .i64 (dayOf t z - aheadN k - cumN (1900 + k) j + 1))).heap[w.heap.size]? = some (.cells z7 23 (0, 0)) := by rw [heap_setCell_other _ _ _ _ (by simpa using hne.symm)]; exact HZ.out
          have hfin := put7_row _ w.heap.size (1900 + k) (1 + j) (dayOf t z - aheadN k - cumN (1900 + k) j + 1) (hourOf t z) (minOf t z) (secOf t z) z hz'
          refine bodyPost_ret (v := .tuple #[.agg (St7 (1900 + k) (1 + j) (dayOf t z - aheadN k - cumN (1900 + k) j + 1) (hourOf t z) (minOf t z) (secOf t z) z), .bool true]) (at_ret _ _ _ _ _ _ _ _ _ _ _ rfl rfl hfin) rfl ⟨⟨_, _, _, _, _, _, HF.out.1, HF.out.2, rfl⟩, ?_⟩
          exact put7_below _ _ _ _ _ _ _ _ ((((Below.refl _ _).alloc (Nat.le_refl _) _).trans (HB5.out.mono (by simp))).setCell (by simp; omega) _) (Nat.le_refl _)
