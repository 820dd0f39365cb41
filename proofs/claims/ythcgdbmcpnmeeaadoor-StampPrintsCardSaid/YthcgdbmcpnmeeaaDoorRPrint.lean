/-
  The contract of the reference's Print: a right stamp, and one that is not; and the program's Print at one that is not.
-/
import Derived.Test.YthcgdbmcpnmeeaaDoorPrint
import Derived.Test.YthcgdbmcpnmeeaaDoorDigits
import Derived.Test.YthcgdbmcpnmeeaaDoorRMonth
import Derived.Test.YthcgdbmcpnmeeaaDoorRNo
import Derived.Test.YthcgdbmcpnmeeaaDoorRightNo
namespace Go.Proofs.YthcgdbmcpnmeeaaDoor
set_option linter.unusedVariables false
open Go.RowKit Go.Lib Go.Sort Go.Joins

theorem printB_dg (yn mn dn hn mi sn : Nat) (sg : UInt8) (q r : Nat) : printB yn mn dn hn mi sn sg q r =
    mk26 (padA 32 dn) (dg (dn % 10)) (nmA mn) (nmB mn) (nmC mn) (dg (yn / 100 / 10)) (dg (yn / 100 % 10)) (dg (yn % 100 / 10)) (dg (yn % 100 % 10)) (dg (hn / 10)) (dg (hn % 10)) (dg (mi / 10)) (dg (mi % 10)) (dg (sn / 10)) (dg (sn % 10)) sg (dg (q / 10)) (dg (q % 10)) (dg (r / 10)) (dg (r % 10)) := by
  have e1 : yn / 100 / 10 = yn / 1000 := by omega
  have e2 : yn % 100 / 10 = yn / 10 % 10 := by omega
  have e3 : yn % 100 % 10 = yn % 10 := by omega
  unfold printB padB yrA yrB yrC yrD
  rw [padA_zero, padA_zero, padA_zero, padA_zero, padA_zero, e1, e2, e3]

theorem ext1 (a b : UInt8) : (⟨#[a, b]⟩ : ByteArray).extract 1 2 = ⟨#[b]⟩ := rfl

theorem rmonth_b (j : Nat) (w : World) (hj : j < 12) : Calls Tryd.prog 18 #[.int .i64 ((j : Int) + 1)] w fun e w' => e = .returned (.string ⟨#[nmA j, nmB j, nmC j]⟩) ∧ Below w.heap.size w w' := by
  rw [← nameB_L j hj]
  exact (rmonth_any j w hj).mono fun e w' h => ⟨h.1, by rw [← h.2]; exact Below.refl _ _⟩

set_option maxHeartbeats 8000000 in
theorem rprint_yes (y mo d h mi s z : Int) (yn mn dn hn mn2 sn : Nat) (hN : Nums y mo d h mi s yn mn dn hn mn2 sn) (w : World) (r : RightS y mo d h mi s z) :
    Calls Tryd.prog 6 #[.agg #[.int .i64 y, .int .i64 mo, .int .i64 d, .int .i64 h, .int .i64 mi, .int .i64 s, .int .i64 z]] w fun e w' => e = .returned (.tuple #[.string (printB yn mn dn hn mn2 sn (sgn z) (z.natAbs / 60) (z.natAbs % 60)), .int .i64 0]) ∧ Below w.heap.size w w' := by
  have HR := Lib.hid r
  have hz0 : -959 ≤ z ∧ z ≤ 959 := r.2.2.2.2.2.2.2.2.2.2.2.2
  clear r
  obtain ⟨rfl, rfl, rfl, rfl, rfl, rfl, n1, n2, n3, n4, n5, n6, n7⟩ := hN
  go_enter Tryd.func6, Tryd.ntmps6
  go_wp2_with fail
  refine (rright_yes _ _ _ _ _ _ _ _ HR.out).mono ?_
  rintro e w1 ⟨rfl, hb1⟩
  have hg1 : w1.heap[w.heap.size]? = some (.cells #[.int .i64 yn, .int .i64 (mn + 1), .int .i64 dn, .int .i64 hn, .int .i64 mn2, .int .i64 sn, .int .i64 z] 23 (0, 0)) := (hb1.block _ (by simp)).trans (heap_alloc_new w _)
  have HB1 : Hid (Below w.heap.size w w1) := Lib.hid (((Below.refl _ _).alloc (Nat.le_refl _) _).trans (hb1.mono (by simp)))
  have HG1 := Lib.hid hg1
  have cd : w1.cell? ⟨w.heap.size, 2, none⟩ = some (.int .i64 dn) := (cell_of_row _ _ 2 _ 23 (0, 0) hg1)
  clear hb1 hg1
  go_wp2_with fail
  refine (digits_any dn _ n4).mono ?_
  rintro e w2 ⟨rfl, hb2⟩
  have hz1 : w.heap.size < w1.heap.size := by have := (Array.getElem?_eq_some_iff.1 HG1.out).1; exact this
  have hg2 := (hb2.block _ hz1).trans HG1.out
  have HB2 : Hid (Below w.heap.size w w2) := Lib.hid (below_after HB1.out hb2)
  have HG2 := Lib.hid hg2
  clear cd
  have cd : w2.cell? ⟨w.heap.size, 2, none⟩ = some (.int .i64 dn) := (cell_of_row _ _ 2 _ 23 (0, 0) hg2)
  have cz : w2.cell? ⟨w.heap.size, 6, none⟩ = some (.int .i64 z) := (cell_of_row _ _ 6 _ 23 (0, 0) hg2)
  clear hb2 hg2 HB1 HG1 hz1
  by_cases hd10 : (dn : Int) < 10
  · have HP : Hid (padA 32 dn = 32) := Lib.hid (by unfold padA; rw [if_pos (by omega)])
    by_cases hz : z < 0
    · obtain ⟨zn, rfl⟩ : ∃ n : Nat, z = -(n : Int) := ⟨z.natAbs, by omega⟩
      have e1 : sgn (-(zn : Int)) = 45 := by unfold sgn; rw [if_pos hz]
      have e2 : (-(zn : Int)).natAbs = zn := by omega
      have E1 := Lib.hid e1
      have E2 := Lib.hid e2
      clear e1 e2
      go_wp2_with fail
      go_quiet (fail)
      go_wp2_with fail
      generalize hW : w2.drewN nq = W
      have hbW : Below w.heap.size w W := by rw [← hW]; exact below_drewN HB2.out _
      have hgW : W.heap[w.heap.size]? = some (.cells #[.int .i64 yn, .int .i64 (mn + 1), .int .i64 dn, .int .i64 hn, .int .i64 mn2, .int .i64 sn, .int .i64 (-(zn : Int))] 23 (0, 0)) := by rw [← hW]; exact HG2.out
      have HBW := Lib.hid hbW
      have cc := cells_grow (W := W) w.heap.size _ hgW
      have c0 := cc 0 _ rfl
      have c1 := cc 1 _ rfl
      have c2 := cc 2 _ rfl
      have c3 := cc 3 _ rfl
      have c4 := cc 4 _ rfl
      have c5 := cc 5 _ rfl
      clear cc hgW hbW hW cz cd HG2 HB2
      obtain ⟨q, hq⟩ : ∃ q, q = zn / 60 := ⟨_, rfl⟩
      obtain ⟨rr, hr⟩ : ∃ r, r = zn % 60 := ⟨_, rfl⟩
      obtain ⟨ya, hya⟩ : ∃ q, q = yn / 100 := ⟨_, rfl⟩
      obtain ⟨yb, hyb⟩ : ∃ r, r = yn % 100 := ⟨_, rfl⟩
      have hq1 : (zn : Int).tdiv 60 = (q : Int) := by rw [Int.tdiv_eq_ediv_of_nonneg (by omega)]; omega
      have hr1 : (zn : Int).tmod 60 = (rr : Int) := by rw [Int.tmod_eq_emod_of_nonneg (by omega)]; omega
      have hq2 : (yn : Int).tdiv 100 = (ya : Int) := by rw [Int.tdiv_eq_ediv_of_nonneg (by omega)]; omega
      have hr2 : (yn : Int).tmod 100 = (yb : Int) := by rw [Int.tmod_eq_emod_of_nonneg (by omega)]; omega
      have hql : q < 100 := by omega
      have hrl : rr < 100 := by omega
      have hyal : ya < 100 := by omega
      have hybl : yb < 100 := by omega
      have HQ := Lib.hid hq
      have HRR := Lib.hid hr
      have HYA := Lib.hid hya
      have HYB := Lib.hid hyb
      clear hq hr hya hyb
      refine wp_region_quiet_below (by kernel_rfl) (by kernel_rfl) ?_
      repeat (go_big_quiet_step (first | (go_at_call 17; exact Calls.regrown_of (digits_any _ _ (by assumption))) | (go_at_call 18; exact Calls.regrown_of (rmonth_b mn _ n3))))
      refine wpQuiet_nil ?_
      intro _ hw'
      obtain ⟨p, rfl⟩ := hw'
      clear c0 c1 c2 c3 c4 c5 hq1 hr1 hq2 hr2
      go_wp2_with fail
      refine bodyPost_ret (results_tmp2 rfl _ _ _) rfl ⟨?_, below_after HBW.out (below_regrown _ p.d p.os)⟩
      rw [E1.out, E2.out, printB_dg, HP.out, ← HQ.out, ← HRR.out, ← HYA.out, ← HYB.out]
      try rw [ext1]
      rfl
    · obtain ⟨zn, rfl⟩ : ∃ n : Nat, z = (n : Int) := ⟨z.natAbs, by omega⟩
      have e1 : sgn (zn : Int) = 43 := by unfold sgn; rw [if_neg hz]
      have e2 : (zn : Int).natAbs = zn := by omega
      have E1 := Lib.hid e1
      have E2 := Lib.hid e2
      clear e1 e2
      go_wp2_with fail
      go_quiet (fail)
      go_wp2_with fail
      generalize hW : w2.drewN nq = W
      have hbW : Below w.heap.size w W := by rw [← hW]; exact below_drewN HB2.out _
      have hgW : W.heap[w.heap.size]? = some (.cells #[.int .i64 yn, .int .i64 (mn + 1), .int .i64 dn, .int .i64 hn, .int .i64 mn2, .int .i64 sn, .int .i64 ((zn : Int))] 23 (0, 0)) := by rw [← hW]; exact HG2.out
      have HBW := Lib.hid hbW
      have cc := cells_grow (W := W) w.heap.size _ hgW
      have c0 := cc 0 _ rfl
      have c1 := cc 1 _ rfl
      have c2 := cc 2 _ rfl
      have c3 := cc 3 _ rfl
      have c4 := cc 4 _ rfl
      have c5 := cc 5 _ rfl
      clear cc hgW hbW hW cz cd HG2 HB2
      obtain ⟨q, hq⟩ : ∃ q, q = zn / 60 := ⟨_, rfl⟩
      obtain ⟨rr, hr⟩ : ∃ r, r = zn % 60 := ⟨_, rfl⟩
      obtain ⟨ya, hya⟩ : ∃ q, q = yn / 100 := ⟨_, rfl⟩
      obtain ⟨yb, hyb⟩ : ∃ r, r = yn % 100 := ⟨_, rfl⟩
      have hq1 : (zn : Int).tdiv 60 = (q : Int) := by rw [Int.tdiv_eq_ediv_of_nonneg (by omega)]; omega
      have hr1 : (zn : Int).tmod 60 = (rr : Int) := by rw [Int.tmod_eq_emod_of_nonneg (by omega)]; omega
      have hq2 : (yn : Int).tdiv 100 = (ya : Int) := by rw [Int.tdiv_eq_ediv_of_nonneg (by omega)]; omega
      have hr2 : (yn : Int).tmod 100 = (yb : Int) := by rw [Int.tmod_eq_emod_of_nonneg (by omega)]; omega
      have hql : q < 100 := by omega
      have hrl : rr < 100 := by omega
      have hyal : ya < 100 := by omega
      have hybl : yb < 100 := by omega
      have HQ := Lib.hid hq
      have HRR := Lib.hid hr
      have HYA := Lib.hid hya
      have HYB := Lib.hid hyb
      clear hq hr hya hyb
      refine wp_region_quiet_below (by kernel_rfl) (by kernel_rfl) ?_
      repeat (go_big_quiet_step (first | (go_at_call 17; exact Calls.regrown_of (digits_any _ _ (by assumption))) | (go_at_call 18; exact Calls.regrown_of (rmonth_b mn _ n3))))
      refine wpQuiet_nil ?_
      intro _ hw'
      obtain ⟨p, rfl⟩ := hw'
      clear c0 c1 c2 c3 c4 c5 hq1 hr1 hq2 hr2
      go_wp2_with fail
      refine bodyPost_ret (results_tmp2 rfl _ _ _) rfl ⟨?_, below_after HBW.out (below_regrown _ p.d p.os)⟩
      rw [E1.out, E2.out, printB_dg, HP.out, ← HQ.out, ← HRR.out, ← HYA.out, ← HYB.out]
      try rw [ext1]
      rfl
  · have HP : Hid (padA 32 dn = dg (dn / 10)) := Lib.hid (by unfold padA; rw [if_neg (by omega)])
    by_cases hz : z < 0
    · obtain ⟨zn, rfl⟩ : ∃ n : Nat, z = -(n : Int) := ⟨z.natAbs, by omega⟩
      have e1 : sgn (-(zn : Int)) = 45 := by unfold sgn; rw [if_pos hz]
      have e2 : (-(zn : Int)).natAbs = zn := by omega
      have E1 := Lib.hid e1
      have E2 := Lib.hid e2
      clear e1 e2
      go_wp2_with fail
      go_quiet (fail)
      go_wp2_with fail
      generalize hW : w2.drewN nq = W
      have hbW : Below w.heap.size w W := by rw [← hW]; exact below_drewN HB2.out _
      have hgW : W.heap[w.heap.size]? = some (.cells #[.int .i64 yn, .int .i64 (mn + 1), .int .i64 dn, .int .i64 hn, .int .i64 mn2, .int .i64 sn, .int .i64 (-(zn : Int))] 23 (0, 0)) := by rw [← hW]; exact HG2.out
      have HBW := Lib.hid hbW
      have cc := cells_grow (W := W) w.heap.size _ hgW
      have c0 := cc 0 _ rfl
      have c1 := cc 1 _ rfl
      have c2 := cc 2 _ rfl
      have c3 := cc 3 _ rfl
      have c4 := cc 4 _ rfl
      have c5 := cc 5 _ rfl
      clear cc hgW hbW hW cz cd HG2 HB2
      obtain ⟨q, hq⟩ : ∃ q, q = zn / 60 := ⟨_, rfl⟩
      obtain ⟨rr, hr⟩ : ∃ r, r = zn % 60 := ⟨_, rfl⟩
      obtain ⟨ya, hya⟩ : ∃ q, q = yn / 100 := ⟨_, rfl⟩
      obtain ⟨yb, hyb⟩ : ∃ r, r = yn % 100 := ⟨_, rfl⟩
      have hq1 : (zn : Int).tdiv 60 = (q : Int) := by rw [Int.tdiv_eq_ediv_of_nonneg (by omega)]; omega
      have hr1 : (zn : Int).tmod 60 = (rr : Int) := by rw [Int.tmod_eq_emod_of_nonneg (by omega)]; omega
      have hq2 : (yn : Int).tdiv 100 = (ya : Int) := by rw [Int.tdiv_eq_ediv_of_nonneg (by omega)]; omega
      have hr2 : (yn : Int).tmod 100 = (yb : Int) := by rw [Int.tmod_eq_emod_of_nonneg (by omega)]; omega
      have hql : q < 100 := by omega
      have hrl : rr < 100 := by omega
      have hyal : ya < 100 := by omega
      have hybl : yb < 100 := by omega
      have HQ := Lib.hid hq
      have HRR := Lib.hid hr
      have HYA := Lib.hid hya
      have HYB := Lib.hid hyb
      clear hq hr hya hyb
      refine wp_region_quiet_below (by kernel_rfl) (by kernel_rfl) ?_
      repeat (go_big_quiet_step (first | (go_at_call 17; exact Calls.regrown_of (digits_any _ _ (by assumption))) | (go_at_call 18; exact Calls.regrown_of (rmonth_b mn _ n3))))
      refine wpQuiet_nil ?_
      intro _ hw'
      obtain ⟨p, rfl⟩ := hw'
      clear c0 c1 c2 c3 c4 c5 hq1 hr1 hq2 hr2
      go_wp2_with fail
      refine bodyPost_ret (results_tmp2 rfl _ _ _) rfl ⟨?_, below_after HBW.out (below_regrown _ p.d p.os)⟩
      rw [E1.out, E2.out, printB_dg, HP.out, ← HQ.out, ← HRR.out, ← HYA.out, ← HYB.out]
      try rw [ext1]
      rfl
    · obtain ⟨zn, rfl⟩ : ∃ n : Nat, z = (n : Int) := ⟨z.natAbs, by omega⟩
      have e1 : sgn (zn : Int) = 43 := by unfold sgn; rw [if_neg hz]
      have e2 : (zn : Int).natAbs = zn := by omega
      have E1 := Lib.hid e1
      have E2 := Lib.hid e2
      clear e1 e2
      go_wp2_with fail
      go_quiet (fail)
      go_wp2_with fail
      generalize hW : w2.drewN nq = W
      have hbW : Below w.heap.size w W := by rw [← hW]; exact below_drewN HB2.out _
      have hgW : W.heap[w.heap.size]? = some (.cells #[.int .i64 yn, .int .i64 (mn + 1), .int .i64 dn, .int .i64 hn, .int .i64 mn2, .int .i64 sn, .int .i64 ((zn : Int))] 23 (0, 0)) := by rw [← hW]; exact HG2.out
      have HBW := Lib.hid hbW
      have cc := cells_grow (W := W) w.heap.size _ hgW
      have c0 := cc 0 _ rfl
      have c1 := cc 1 _ rfl
      have c2 := cc 2 _ rfl
      have c3 := cc 3 _ rfl
      have c4 := cc 4 _ rfl
      have c5 := cc 5 _ rfl
      clear cc hgW hbW hW cz cd HG2 HB2
      obtain ⟨q, hq⟩ : ∃ q, q = zn / 60 := ⟨_, rfl⟩
      obtain ⟨rr, hr⟩ : ∃ r, r = zn % 60 := ⟨_, rfl⟩
      obtain ⟨ya, hya⟩ : ∃ q, q = yn / 100 := ⟨_, rfl⟩
      obtain ⟨yb, hyb⟩ : ∃ r, r = yn % 100 := ⟨_, rfl⟩
      have hq1 : (zn : Int).tdiv 60 = (q : Int) := by rw [Int.tdiv_eq_ediv_of_nonneg (by omega)]; omega
      have hr1 : (zn : Int).tmod 60 = (rr : Int) := by rw [Int.tmod_eq_emod_of_nonneg (by omega)]; omega
      have hq2 : (yn : Int).tdiv 100 = (ya : Int) := by rw [Int.tdiv_eq_ediv_of_nonneg (by omega)]; omega
      have hr2 : (yn : Int).tmod 100 = (yb : Int) := by rw [Int.tmod_eq_emod_of_nonneg (by omega)]; omega
      have hql : q < 100 := by omega
      have hrl : rr < 100 := by omega
      have hyal : ya < 100 := by omega
      have hybl : yb < 100 := by omega
      have HQ := Lib.hid hq
      have HRR := Lib.hid hr
      have HYA := Lib.hid hya
      have HYB := Lib.hid hyb
      clear hq hr hya hyb
      refine wp_region_quiet_below (by kernel_rfl) (by kernel_rfl) ?_
      repeat (go_big_quiet_step (first | (go_at_call 17; exact Calls.regrown_of (digits_any _ _ (by assumption))) | (go_at_call 18; exact Calls.regrown_of (rmonth_b mn _ n3))))
      refine wpQuiet_nil ?_
      intro _ hw'
      obtain ⟨p, rfl⟩ := hw'
      clear c0 c1 c2 c3 c4 c5 hq1 hr1 hq2 hr2
      go_wp2_with fail
      refine bodyPost_ret (results_tmp2 rfl _ _ _) rfl ⟨?_, below_after HBW.out (below_regrown _ p.d p.os)⟩
      rw [E1.out, E2.out, printB_dg, HP.out, ← HQ.out, ← HRR.out, ← HYA.out, ← HYB.out]
      try rw [ext1]
      rfl

theorem rprint_no (y mo d h mi s z : Int) (w : World) (n : ¬ RightS y mo d h mi s z) :
    Calls Tryd.prog 6 #[.agg #[.int .i64 y, .int .i64 mo, .int .i64 d, .int .i64 h, .int .i64 mi, .int .i64 s, .int .i64 z]] w fun e w' => e = .returned (.tuple #[.string ⟨#[]⟩, .int .i64 9]) ∧ Below w.heap.size w w' := by
  have N := Lib.hid n
  clear n
  go_enter Tryd.func6, Tryd.ntmps6
  go_wp2_with fail
  refine (rright_no _ _ _ _ _ _ _ _ N.out).mono ?_
  rintro e w1 ⟨rfl, hb1⟩
  have HB1 : Hid (Below w.heap.size w w1) := Lib.hid (((Below.refl _ _).alloc (Nat.le_refl _) _).trans (hb1.mono (by simp)))
  clear hb1
  go_wp2_with fail
  exact bodyPost_ret (results_tmp2 rfl _ _ _) rfl ⟨rfl, HB1.out⟩

theorem print_no (y mo d h mi s z : Int) (w : World) (n : ¬ RightS y mo d h mi s z) :
    Calls Tryd.prog 5 #[.agg #[.int .i64 y, .int .i64 mo, .int .i64 d, .int .i64 h, .int .i64 mi, .int .i64 s, .int .i64 z]] w fun e w' => e = .returned (.tuple #[.string ⟨#[]⟩, .int .i64 9]) ∧ Below w.heap.size w w' := by
  have N := Lib.hid n
  clear n
  go_enter Tryd.func5, Tryd.ntmps5
  go_wp2_with fail
  refine (right_no _ _ _ _ _ _ _ _ N.out).mono ?_
  rintro e w1 ⟨rfl, hb1⟩
  have HB1 : Hid (Below w.heap.size w w1) := Lib.hid (((Below.refl _ _).alloc (Nat.le_refl _) _).trans (hb1.mono (by simp)))
  clear hb1
  go_wp2_with fail
  exact bodyPost_ret (results_tmp2 rfl _ _ _) rfl ⟨rfl, HB1.out⟩
end Go.Proofs.YthcgdbmcpnmeeaaDoor
