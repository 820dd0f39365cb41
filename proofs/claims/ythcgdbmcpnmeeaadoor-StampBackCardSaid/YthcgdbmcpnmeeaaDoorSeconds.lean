/-
  The contract of Seconds.
-/
import Derived.Test.YthcgdbmcpnmeeaaDoorAhead
import Derived.Test.YthcgdbmcpnmeeaaDoorRight
import Derived.Deep.RegionHeld3
namespace Go.Proofs.YthcgdbmcpnmeeaaDoor
set_option linter.unusedVariables false
open Go.RowKit

/-- the cells of a stamp in a block -/
structure StAt (w : World) (b : Nat) (y mo d h mi s z : Int) : Prop where
  c0 : w.cell? ⟨b, 0, none⟩ = some (.int .i64 y)
  c1 : w.cell? ⟨b, 1, none⟩ = some (.int .i64 mo)
  c2 : w.cell? ⟨b, 2, none⟩ = some (.int .i64 d)
  c3 : w.cell? ⟨b, 3, none⟩ = some (.int .i64 h)
  c4 : w.cell? ⟨b, 4, none⟩ = some (.int .i64 mi)
  c5 : w.cell? ⟨b, 5, none⟩ = some (.int .i64 s)
  c6 : w.cell? ⟨b, 6, none⟩ = some (.int .i64 z)

theorem StAt.new (w : World) (y mo d h mi s z : Int) : StAt (w.alloc (.cells #[.int .i64 y, .int .i64 mo, .int .i64 d, .int .i64 h, .int .i64 mi, .int .i64 s, .int .i64 z] 23)) w.heap.size y mo d h mi s z := by
  have c : ∀ j, (w.alloc (.cells #[.int .i64 y, .int .i64 mo, .int .i64 d, .int .i64 h, .int .i64 mi, .int .i64 s, .int .i64 z] 23)).cell? ⟨w.heap.size, j, none⟩ = #[Value.int .i64 y, .int .i64 mo, .int .i64 d, .int .i64 h, .int .i64 mi, .int .i64 s, .int .i64 z][j]? := fun j => cell_of_row _ _ j _ 23 (0, 0) (heap_alloc_new w _)
  exact ⟨c 0, c 1, c 2, c 3, c 4, c 5, c 6⟩

theorem StAt.below {w w' : World} {b S : Nat} {y mo d h mi s z : Int} (k : StAt w b y mo d h mi s z) (hb : Below S w w') (hS : b < S) : StAt w' b y mo d h mi s z :=
  ⟨(hb.cell (p := ⟨b, 0, none⟩) hS).trans k.c0, (hb.cell (p := ⟨b, 1, none⟩) hS).trans k.c1, (hb.cell (p := ⟨b, 2, none⟩) hS).trans k.c2, (hb.cell (p := ⟨b, 3, none⟩) hS).trans k.c3,
   (hb.cell (p := ⟨b, 4, none⟩) hS).trans k.c4, (hb.cell (p := ⟨b, 5, none⟩) hS).trans k.c5, (hb.cell (p := ⟨b, 6, none⟩) hS).trans k.c6⟩

theorem sum4 {n : Nat} (a b d : Int) (h0 : 365 * (n : Int) ≤ a) (h1 : a ≤ 366 * (n : Int)) (h2 : 365 * ((70 : Nat) : Int) ≤ b) (h3 : b ≤ 366 * ((70 : Nat) : Int)) (h4 : n ≤ 1200) (h5 : 1 ≤ d) (h6 : d ≤ 31) : Value.int .i64 (IntKind.i64.wrap (IntKind.i64.wrap (IntKind.i64.wrap (a - b) + d) - 1)) = Value.int .i64 (a - b + d - 1) := by
  rw [IntWalk.i64_in (a - b) (by omega), IntWalk.i64_in (a - b + d) (by omega), IntWalk.i64_in (a - b + d - 1) (by omega)]

set_option maxHeartbeats 2000000 in
theorem seconds_any (y mo d h mi s z : Int) (w : World) (r : RightS y mo d h mi s z) : Calls Tryd.prog 10 #[.agg #[.int .i64 y, .int .i64 mo, .int .i64 d, .int .i64 h, .int .i64 mi, .int .i64 s, .int .i64 z]] w fun e w' => e = .returned (.int .i64 (secs y mo d h mi s z)) ∧ Below w.heap.size w w' := by
  have R := Lib.hid r
  obtain ⟨a1, a2, a3, a4, a5, a6, a7, a8, a9, a10, a11, a12, a13, a14⟩ := r
  have hdm := dim_bd y mo
  have st0 := StAt.new w y mo d h mi s z
  have ST0 := Lib.hid st0
  clear st0
  go_enter Tryd.func10, Tryd.ntmps10
  go_wp2_with fail
  refine (right_yes y mo d h mi s z _ R.out).mono ?_
  rintro e w1 ⟨rfl, hb1⟩
  have st1 := ST0.out.below hb1 (by simp)
  have hb01 : Below w.heap.size w w1 := ((Below.refl _ _).alloc (Nat.le_refl _) _).trans (hb1.mono (by simp))
  have hs1 := hb1.size
  simp at hs1
  obtain ⟨c0, c1, c2, c3, c4, c5, c6⟩ := id st1
  have y3 : y ≤ 3000 := by omega
  have hs2 : w.heap.size < w1.heap.size := by omega
  clear hs1
  go_upto_region 3 with fail
  go_cut [3] (fun n wx => n = .int .i64 (aheadN (y - 1900).toNat - aheadN 70 + d - 1) ∧ Below w1.heap.size w1 wx)
  case first =>
    go_region_held3 (fun w' => w'.cell? ⟨w.heap.size, 0, none⟩ = some (.int .i64 y) ∧ w'.cell? ⟨w.heap.size, 2, none⟩ = some (.int .i64 d) ∧ Below w1.heap.size w1 w')
      (first | exact kb | exact ⟨c0, c2, (Below.refl _ _).drew⟩)
      ((go_at_call 21; refine (ahead_any _ _ (by first | exact a1 | decide) (by first | exact y3 | decide)).mono ?_; rintro e w2 ⟨rfl, hb2⟩; have hB2 : Below w1.heap.size w1 w2 := (by first | exact kb.2.2.trans (hb2.mono kb.2.2.size) | exact (Below.refl _ _).drew.trans hb2); have kb : w2.cell? ⟨w.heap.size, 0, none⟩ = some (.int .i64 y) ∧ w2.cell? ⟨w.heap.size, 2, none⟩ = some (.int .i64 d) ∧ Below w1.heap.size w1 w2 := ⟨(hB2.cell (p := ⟨w.heap.size, 0, none⟩) hs2).trans c0, (hB2.cell (p := ⟨w.heap.size, 2, none⟩) hs2).trans c2, hB2⟩))
    all_goals
      go_wp2_with fail
      go_meet
      exact ⟨by rw [sum4 _ _ d (ahead_bd (y - 1900).toNat).1 (ahead_bd (y - 1900).toNat).2 (ahead_bd 70).1 (ahead_bd 70).2 (by omega) (by omega) (by omega)], kb.2.2⟩
  case rest =>
    obtain ⟨hu, hbc⟩ := hcut
    subst hu
    clear c0 c1 c2 c3 c4 c5 c6
    have hsc := hbc.size
    have ha0 := ahead_bd (y - 1900).toNat
    have ha7 := ahead_bd 70
    have hn0 : -80000 ≤ aheadN (y - 1900).toNat - aheadN 70 + d - 1 ∧ aheadN (y - 1900).toNat - aheadN 70 + d - 1 ≤ 410000 := by omega
    clear ha0 ha7
    generalize hn : aheadN (y - 1900).toNat - aheadN 70 + d - 1 = n0 at *
    have HN := Lib.hid hn
    clear hn
    go_wp2_with fail
    go_loopw [3, 4] (fun n i wr => ∃ k : Nat, 1 + (k : Int) ≤ mo ∧ i = .int .i64 (1 + (k : Int)) ∧ n = .int .i64 (n0 + cumN y k) ∧ Below w1.heap.size w1 wr) (fun _ i _ => (20 - intOf i).toNat)
    case atStart => exact ⟨0, by omega, rfl, by simp [cumN], hbc⟩
    case round =>
      obtain ⟨k, hk, rfl, rfl, hb⟩ := hrel
      have hbd := cum_bd y k
      have st2 := st1.below hb hs2
      obtain ⟨c0, c1, c2, c3, c4, c5, c6⟩ := id st2
      have hs := hb.size
      by_cases hlt : 1 + (k : Int) < mo
      · have hdm := dim_bd y (1 + (k : Int))
        have he : Hid (cumN y (k + 1) = cumN y k + dim y (1 + (k : Int))) := by
          show cumN y k + dim y ((k : Int) + 1) = _
          rw [Int.add_comm (k : Int) 1]
        go_wp2_with fail
        refine (days_any y (1 + (k : Int)) _ (by omega) (by omega) (by omega) (by omega)).mono ?_
        rintro e w2 ⟨rfl, hb2⟩
        go_wp2_with fail
        go_roundw
        case rel => exact ⟨k + 1, by omega, by go_num, by rw [he.out, ← Int.add_assoc], hb.trans (hb2.mono hs)⟩
        case measure => simp [intOf]; omega
      · go_wp2_with fail
        go_ret
        have hkm : k = (mo - 1).toNat := by omega
        have hd : dayno y mo d = n0 + cumN y k := by rw [← HN.out, hkm]; rfl
        have hsec : secs y mo d h mi s z = (n0 + cumN y k) * 86400 + h * 3600 + mi * 60 + s - z * 60 := by unfold secs; rw [hd]
        refine ⟨ret_eq ?_, hb01.trans (hb.mono hb01.size)⟩
        rw [hsec]
        show Value.int .i64 ((n0 + cumN y k) * 86400 + (h * 3600 + mi * 60 + s) - z * 60) = _
        rw [← Int.add_assoc, ← Int.add_assoc]
end Go.Proofs.YthcgdbmcpnmeeaaDoor
