/-
  The walk of StampPrints.
-/
import Derived.Test.YthcgdbmcpnmeeaaDoorRPrint
import Derived.Test.YthcgdbmcpnmeeaaDoorRSecs
import Derived.Test.YthcgdbmcpnmeeaaDoorAwake
import Derived.Test.YthcgdbmcpnmeeaaDoorRYes
namespace Go.Proofs.YthcgdbmcpnmeeaaDoor
set_option linter.unusedVariables false
open Go.RowKit Go.Lib Go.Sort Go.Joins

theorem seconds_no (y mo d h mi s z : Int) (w : World) (n : ¬ RightS y mo d h mi s z) :
    Calls Tryd.prog 10 #[.agg #[.int .i64 y, .int .i64 mo, .int .i64 d, .int .i64 h, .int .i64 mi, .int .i64 s, .int .i64 z]] w fun e w' => e = .returned (.int .i64 0) ∧ Below w.heap.size w w' := by
  have N := Lib.hid n
  clear n
  go_enter Tryd.func10, Tryd.ntmps10
  go_wp2_with fail
  refine (right_no _ _ _ _ _ _ _ _ N.out).mono ?_
  rintro e w1 ⟨rfl, hb1⟩
  have HB1 : Hid (Below w.heap.size w w1) := Lib.hid (((Below.refl _ _).alloc (Nat.le_refl _) _).trans (hb1.mono (by simp)))
  clear hb1
  go_wp2_with fail
  go_ret
  exact ⟨rfl, HB1.out⟩

/-- what each call answers: a text and an error, whether it is a right stamp, and its seconds -/
theorem sides (K : ItoaC) (y mo d h mi s z : Int) : ∃ (t : ByteArray) (er : Int) (b : Bool) (n : Int),
    (∀ w, TabIs Tryd.prog w "internal/strconv.uint64pow10" .u64 pow10Tab → Calls Tryd.prog 5 #[.agg #[.int .i64 y, .int .i64 mo, .int .i64 d, .int .i64 h, .int .i64 mi, .int .i64 s, .int .i64 z]] w fun e w' => e = .returned (.tuple #[.string t, .int .i64 er]) ∧ Below w.heap.size w w') ∧
    (∀ w, Calls Tryd.prog 6 #[.agg #[.int .i64 y, .int .i64 mo, .int .i64 d, .int .i64 h, .int .i64 mi, .int .i64 s, .int .i64 z]] w fun e w' => e = .returned (.tuple #[.string t, .int .i64 er]) ∧ Below w.heap.size w w') ∧
    (∀ w, Calls Tryd.prog 8 #[.agg #[.int .i64 y, .int .i64 mo, .int .i64 d, .int .i64 h, .int .i64 mi, .int .i64 s, .int .i64 z]] w fun e w' => e = .returned (.bool b) ∧ Below w.heap.size w w') ∧
    (∀ w, Calls Tryd.prog 9 #[.agg #[.int .i64 y, .int .i64 mo, .int .i64 d, .int .i64 h, .int .i64 mi, .int .i64 s, .int .i64 z]] w fun e w' => e = .returned (.bool b) ∧ Below w.heap.size w w') ∧
    (∀ w, Calls Tryd.prog 10 #[.agg #[.int .i64 y, .int .i64 mo, .int .i64 d, .int .i64 h, .int .i64 mi, .int .i64 s, .int .i64 z]] w fun e w' => e = .returned (.int .i64 n) ∧ Below w.heap.size w w') ∧
    (∀ w, Calls Tryd.prog 11 #[.agg #[.int .i64 y, .int .i64 mo, .int .i64 d, .int .i64 h, .int .i64 mi, .int .i64 s, .int .i64 z]] w fun e w' => e = .returned (.int .i64 n) ∧ Below w.heap.size w w') := by
  by_cases r : RightS y mo d h mi s z
  · obtain ⟨yn, mn, dn, hn, mn2, sn, hN⟩ := nums_of r
    exact ⟨_, _, true, _, fun w ht => print_yes K (fun y mo d h mi s z r w => right_yes y mo d h mi s z w r) (fun w => (months_any w)) y mo d h mi s z yn mn dn hn mn2 sn hN w r ht, fun w => rprint_yes y mo d h mi s z yn mn dn hn mn2 sn hN w r, fun w => right_yes y mo d h mi s z w r, fun w => rright_yes y mo d h mi s z w r, fun w => seconds_any y mo d h mi s z w r, fun w => rsecs_any y mo d h mi s z w r⟩
  · exact ⟨_, _, false, _, fun w ht => print_no y mo d h mi s z w r, fun w => rprint_no y mo d h mi s z w r, fun w => right_no y mo d h mi s z w r, fun w => rright_no y mo d h mi s z w r, fun w => seconds_no y mo d h mi s z w r, fun w => rsecs_no y mo d h mi s z w r⟩

set_option maxHeartbeats 4000000 in
theorem prints_any (K : ItoaC) (y mo d h mi s z : Int) (w : World) (ht : TabIs Tryd.prog w "internal/strconv.uint64pow10" .u64 pow10Tab) : Calls Tryd.prog 3 #[.agg #[.int .i64 y, .int .i64 mo, .int .i64 d, .int .i64 h, .int .i64 mi, .int .i64 s, .int .i64 z]] w fun e w' => e = .returned (.bool true) ∧ Below w.heap.size w w' := by
  obtain ⟨t, er, b, n, h5, h6, h8, h9, h10, h11⟩ := sides K y mo d h mi s z
  have H5 := Lib.hid h5
  have H6 := Lib.hid h6
  have H8 := Lib.hid h8
  have H9 := Lib.hid h9
  have H10 := Lib.hid h10
  have H11 := Lib.hid h11
  have HT := Lib.hid (tab_below ht ((Below.refl w.heap.size w).alloc (Nat.le_refl _) (.cells #[.int .i64 y, .int .i64 mo, .int .i64 d, .int .i64 h, .int .i64 mi, .int .i64 s, .int .i64 z] 23)) (Nat.le_refl _))
  clear h5 h6 h8 h9 h10 h11 ht
  go_enter Tryd.func3, Tryd.ntmps3
  go_wp2_with fail
  refine (H5.out _ HT.out).mono ?_
  rintro e w1 ⟨rfl, hb1⟩
  have hg1 : w1.heap[w.heap.size]? = some (.cells #[.int .i64 y, .int .i64 mo, .int .i64 d, .int .i64 h, .int .i64 mi, .int .i64 s, .int .i64 z] 23 (0, 0)) := (hb1.block _ (by simp)).trans (heap_alloc_new w _)
  have HB1 : Hid (Below w.heap.size w w1) := Lib.hid (((Below.refl _ _).alloc (Nat.le_refl _) _).trans (hb1.mono (by simp)))
  have st1 := StAt.of_row hg1
  have HG1 := Lib.hid hg1
  obtain ⟨c0, c1, c2, c3, c4, c5, c6⟩ := st1
  clear hb1 hg1
  go_wp2_with fail
  refine (H6.out _).mono ?_
  rintro e w2 ⟨rfl, hb2⟩
  have hz1 : w.heap.size < w1.heap.size := (Array.getElem?_eq_some_iff.1 HG1.out).1
  have HB2 : Hid (Below w.heap.size w w2) := Lib.hid (below_after HB1.out hb2)
  have hg2 := (hb2.block _ hz1).trans HG1.out
  clear c0 c1 c2 c3 c4 c5 c6 hb2 HB1 HG1 hz1
  have cc := cells_grow (W := w2) w.heap.size _ hg2
  have c0 := cc 0 _ rfl
  have c1 := cc 1 _ rfl
  have c2 := cc 2 _ rfl
  have c3 := cc 3 _ rfl
  have c4 := cc 4 _ rfl
  have c5 := cc 5 _ rfl
  have c6 := cc 6 _ rfl
  clear cc hg2
  go_wp2_with fail
  refine wp_region_quiet_below (by kernel_rfl) (by kernel_rfl) ?_
  repeat (go_big_quiet_step (first | (go_at_call 7; exact Calls.regrown_of (awake_any _)) | (go_at_call 8; exact Calls.regrown_of (H8.out _)) | (go_at_call 9; exact Calls.regrown_of (H9.out _)) | (go_at_call 10; exact Calls.regrown_of (H10.out _)) | (go_at_call 11; exact Calls.regrown_of (H11.out _))))
  refine wpQuiet_nil ?_
  intro _ hw'
  obtain ⟨p, rfl⟩ := hw'
  clear c0 c1 c2 c3 c4 c5 c6
  go_wp2_with fail
  go_ret
  exact ⟨rfl, below_after HB2.out (below_regrown _ p.d p.os)⟩
end Go.Proofs.YthcgdbmcpnmeeaaDoor
