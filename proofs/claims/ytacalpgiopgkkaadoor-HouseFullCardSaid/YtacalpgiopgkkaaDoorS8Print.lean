/-
  The contract of Print: a right stamp.
-/
import Derived.Test.YtacalpgiopgkkaaDoorS8Pad
import Derived.Test.YtacalpgiopgkkaaDoorS8Month
import Derived.Lib.QuietBelow
import Derived.BigQuiet
import Derived.Deep.RegionHeld3
import Derived.Lib.SmallJoins
namespace Go.Proofs.YtacalpgiopgkkaaDoor
namespace S8
set_option linter.unusedVariables false
open Go.RowKit Go.Lib Go.Sort Go.Joins

theorem nameB_L (k : Nat) (h : k < 12) : nameB k = ⟨#[nmA k, nmB k, nmC k]⟩ := by
  have : k = 0 ∨ k = 1 ∨ k = 2 ∨ k = 3 ∨ k = 4 ∨ k = 5 ∨ k = 6 ∨ k = 7 ∨ k = 8 ∨ k = 9 ∨ k = 10 ∨ k = 11 := by omega
  rcases this with rfl | rfl | rfl | rfl | rfl | rfl | rfl | rfl | rfl | rfl | rfl | rfl <;> rfl
theorem pow_global : Tryd.prog.globalNamed "internal/strconv.uint64pow10" = some 3 := by kernel_rfl
theorem tab_below {w w' : World} {B : Nat} (h : TabIs Tryd.prog w "internal/strconv.uint64pow10" .u64 pow10Tab) (hb : Below B w w') (hB : w.heap.size ≤ B) : TabIs Tryd.prog w' "internal/strconv.uint64pow10" .u64 pow10Tab :=
  tab_stays pow_global h hb hB
/-- the numbers of a right stamp as they stand in the text -/
structure Nums (y mo d h mi s : Int) (yn mn dn hn mn2 sn : Nat) : Prop where
  y : y = yn
  mo : mo = mn + 1
  d : d = dn
  h : h = hn
  mi : mi = mn2
  s : s = sn
  yl : yn < 10000
  y0 : 1000 ≤ yn
  ml : mn < 12
  dl : dn < 100
  hl : hn < 100
  il : mn2 < 100
  sl : sn < 100
theorem nums_of {y mo d h mi s z : Int} (r : RightS y mo d h mi s z) : ∃ yn mn dn hn mn2 sn, Nums y mo d h mi s yn mn dn hn mn2 sn := by
  obtain ⟨a1, a2, a3, a4, a5, a6, a7, a8, a9, a10, a11, a12, a13, a14⟩ := r
  have := dim_bd y mo
  exact ⟨y.toNat, (mo - 1).toNat, d.toNat, h.toNat, mi.toNat, s.toNat, by omega, by omega, by omega, by omega, by omega, by omega, by omega, by omega, by omega, by omega, by omega, by omega, by omega⟩

theorem below_after {w w1 w2 : World} (hb : Below w.heap.size w w1) (h2 : Below w1.heap.size w1 w2) : Below w.heap.size w w2 := hb.trans (h2.mono hb.size)

/-- the cells of a block in whatever world lies behind -/
theorem cells_grow {W : World} (b : Nat) (l : Array Value) (hg : W.heap[b]? = some (.cells l 74 (0, 0))) : ∀ j v, l[j]? = some v → ∀ n os, (grow (redrawn W n) os).cell? ⟨b, j, none⟩ = some v :=
  fun j v hj n os => cell_regrown ((cell_of_row _ _ j _ 74 (0, 0) hg).trans hj) n os

set_option maxHeartbeats 4000000 in
theorem print_yes (K : ItoaC) (hRight : ∀ y mo d h mi s z : Int, RightS y mo d h mi s z → ∀ w, Calls Tryd.prog 44 #[.agg #[.int .i64 y, .int .i64 mo, .int .i64 d, .int .i64 h, .int .i64 mi, .int .i64 s, .int .i64 z]] w fun e w' => e = .returned (.bool true) ∧ Below w.heap.size w w')
    (hMonths : ∀ w, Calls Tryd.prog 46 #[] w fun e w' => e = .returned (.agg namesV) ∧ Below w.heap.size w w')
    (y mo d h mi s z : Int) (yn mn dn hn mn2 sn : Nat) (hN : Nums y mo d h mi s yn mn dn hn mn2 sn) (w : World) (r : RightS y mo d h mi s z) (ht : TabIs Tryd.prog w "internal/strconv.uint64pow10" .u64 pow10Tab) :
    Calls Tryd.prog 31 #[.agg #[.int .i64 y, .int .i64 mo, .int .i64 d, .int .i64 h, .int .i64 mi, .int .i64 s, .int .i64 z]] w fun e w' => e = .returned (.tuple #[.string (printB yn mn dn hn mn2 sn (sgn z) (z.natAbs / 60) (z.natAbs % 60)), .int .i64 0]) ∧ Below w.heap.size w w' := by
  have HR := Lib.hid r
  have HT := Lib.hid ht
  clear ht
  have hz0 : -959 ≤ z ∧ z ≤ 959 := r.2.2.2.2.2.2.2.2.2.2.2.2
  clear r
  have HN := Lib.hid hN
  obtain ⟨rfl, rfl, rfl, rfl, rfl, rfl, n1, n2, n3, n4, n5, n6, n7⟩ := hN
  have hidx : ∀ W, (Instr.index 99 (.agg namesV) (.int .i64 (mn : Int))).run Tryd.prog W = .ok (.string ⟨#[nmA mn, nmB mn, nmC mn]⟩) W := fun W => by rw [← nameB_L mn n3]; exact run_index_names W mn (.string (nameB mn)) (by omega) (by simpa using namesV_at mn n3)
  go_enter Tryd.func31, Tryd.ntmps31
  go_wp2_with fail
  refine (hRight _ _ _ _ _ _ _ HR.out _).mono ?_
  rintro e w1 ⟨rfl, hb1⟩
  have hg1 : w1.heap[w.heap.size]? = some (.cells #[.int .i64 yn, .int .i64 (mn + 1), .int .i64 dn, .int .i64 hn, .int .i64 mn2, .int .i64 sn, .int .i64 z] 74 (0, 0)) := (hb1.block _ (by simp)).trans (heap_alloc_new w _)
  have HB1 : Hid (Below w.heap.size w w1) := Lib.hid (((Below.refl _ _).alloc (Nat.le_refl _) _).trans (hb1.mono (by simp)))
  have HG1 := Lib.hid hg1
  have cz : w1.cell? ⟨w.heap.size, 6, none⟩ = some (.int .i64 z) := (cell_of_row _ _ 6 _ 74 (0, 0) hg1)
  clear hb1 hg1
  by_cases hz : z < 0
  · obtain ⟨zn, rfl⟩ : ∃ n : Nat, z = -(n : Int) := ⟨z.natAbs, by omega⟩
    have e1 : sgn (-(zn : Int)) = 45 := by unfold sgn; rw [if_pos hz]
    have e2 : (-(zn : Int)).natAbs = zn := by omega
    have E1 := Lib.hid e1
    have E2 := Lib.hid e2
    clear e1 e2
    go_wp2_with fail
    go_quiet (fail)
    go_wp2_with fail
    generalize hW : w1.drewN nq = W
    have hbW : Below w.heap.size w W := by rw [← hW]; exact below_drewN HB1.out _
    have hgW : W.heap[w.heap.size]? = some (.cells #[.int .i64 yn, .int .i64 (mn + 1), .int .i64 dn, .int .i64 hn, .int .i64 mn2, .int .i64 sn, .int .i64 (-(zn : Int))] 74 (0, 0)) := by rw [← hW]; exact HG1.out
    have htW : ∀ n os, TabIs Tryd.prog (grow (redrawn W n) os) "internal/strconv.uint64pow10" .u64 pow10Tab := fun n os => tab_below HT.out (below_after hbW (below_regrown W n os)) (Nat.le_refl _)
    have HTW := Lib.hid htW
    have HBW := Lib.hid hbW
    have cc := cells_grow (W := W) w.heap.size _ hgW
    have c0 := cc 0 _ rfl
    have c1 := cc 1 _ rfl
    have c2 := cc 2 _ rfl
    have c3 := cc 3 _ rfl
    have c4 := cc 4 _ rfl
    have c5 := cc 5 _ rfl
    clear cc hgW hbW htW hW cz HG1 HB1 HT
    obtain ⟨q, hq⟩ : ∃ q, q = zn / 60 := ⟨_, rfl⟩
    obtain ⟨rr, hr⟩ : ∃ r, r = zn % 60 := ⟨_, rfl⟩
    have hq1 : (zn : Int).tdiv 60 = (q : Int) := by rw [Int.tdiv_eq_ediv_of_nonneg (by omega)]; omega
    have hr1 : (zn : Int).tmod 60 = (rr : Int) := by rw [Int.tmod_eq_emod_of_nonneg (by omega)]; omega
    have hql : q < 100 := by omega
    have hrl : rr < 100 := by omega
    have HQ := Lib.hid hq
    have HRR := Lib.hid hr
    clear hq hr
    refine wp_region_quiet_below (by kernel_rfl) (by kernel_rfl) ?_
    repeat (go_big_quiet_step (first | (go_at_call 45; exact Calls.regrown_of (pad_two K _ _ _ (by assumption))) | (go_at_call 46; exact Calls.regrown_of (hMonths _)) | (go_at_call 47; exact Calls.regrown_of (itoa_year K _ _ n2 n1 (HTW.out _ _)))))
    refine wpQuiet_nil ?_
    intro _ hw'
    obtain ⟨p, rfl⟩ := hw'
    clear c0 c1 c2 c3 c4 c5 hq1 hr1
    go_wp2_with fail
    refine bodyPost_ret (results_tmp2 rfl _ _ _) rfl ⟨?_, below_after HBW.out (below_regrown _ p.d p.os)⟩
    rw [E1.out, E2.out, ← HQ.out, ← HRR.out]
    rfl
  · obtain ⟨zn, rfl⟩ : ∃ n : Nat, z = (n : Int) := ⟨z.natAbs, by omega⟩
    have e1 : sgn (zn : Int) = 43 := by unfold sgn; rw [if_neg hz]
    have e2 : (zn : Int).natAbs = zn := by omega
    have E1 := Lib.hid e1
    have E2 := Lib.hid e2
    clear e1 e2
    go_wp2_with fail
    go_quiet (fail)
    go_wp2_with fail
    generalize hW : w1.drewN nq = W
    have hbW : Below w.heap.size w W := by rw [← hW]; exact below_drewN HB1.out _
    have hgW : W.heap[w.heap.size]? = some (.cells #[.int .i64 yn, .int .i64 (mn + 1), .int .i64 dn, .int .i64 hn, .int .i64 mn2, .int .i64 sn, .int .i64 (zn : Int)] 74 (0, 0)) := by rw [← hW]; exact HG1.out
    have htW : ∀ n os, TabIs Tryd.prog (grow (redrawn W n) os) "internal/strconv.uint64pow10" .u64 pow10Tab := fun n os => tab_below HT.out (below_after hbW (below_regrown W n os)) (Nat.le_refl _)
    have HTW := Lib.hid htW
    have HBW := Lib.hid hbW
    have cc := cells_grow (W := W) w.heap.size _ hgW
    have c0 := cc 0 _ rfl
    have c1 := cc 1 _ rfl
    have c2 := cc 2 _ rfl
    have c3 := cc 3 _ rfl
    have c4 := cc 4 _ rfl
    have c5 := cc 5 _ rfl
    clear cc hgW hbW htW hW cz HG1 HB1 HT
    obtain ⟨q, hq⟩ : ∃ q, q = zn / 60 := ⟨_, rfl⟩
    obtain ⟨rr, hr⟩ : ∃ r, r = zn % 60 := ⟨_, rfl⟩
    have hq1 : (zn : Int).tdiv 60 = (q : Int) := by rw [Int.tdiv_eq_ediv_of_nonneg (by omega)]; omega
    have hr1 : (zn : Int).tmod 60 = (rr : Int) := by rw [Int.tmod_eq_emod_of_nonneg (by omega)]; omega
    have hql : q < 100 := by omega
    have hrl : rr < 100 := by omega
    have HQ := Lib.hid hq
    have HRR := Lib.hid hr
    clear hq hr
    refine wp_region_quiet_below (by kernel_rfl) (by kernel_rfl) ?_
    repeat (go_big_quiet_step (first | (go_at_call 45; exact Calls.regrown_of (pad_two K _ _ _ (by assumption))) | (go_at_call 46; exact Calls.regrown_of (hMonths _)) | (go_at_call 47; exact Calls.regrown_of (itoa_year K _ _ n2 n1 (HTW.out _ _)))))
    refine wpQuiet_nil ?_
    intro _ hw'
    obtain ⟨p, rfl⟩ := hw'
    clear c0 c1 c2 c3 c4 c5 hq1 hr1
    go_wp2_with fail
    refine bodyPost_ret (results_tmp2 rfl _ _ _) rfl ⟨?_, below_after HBW.out (below_regrown _ p.d p.os)⟩
    rw [E1.out, E2.out, ← HQ.out, ← HRR.out]
    rfl
end S8
end Go.Proofs.YtacalpgiopgkkaaDoor
