/-
  The contract of Right, of the program: a stamp that is not right.
-/
import Derived.Test.YthcgdbmcpnmeeaaDoorRight
import Derived.Lib.QuietBelow
import Derived.BigQuiet
namespace Go.Proofs.YthcgdbmcpnmeeaaDoor
set_option linter.unusedVariables false
open Go.RowKit Go.Sort

set_option maxHeartbeats 4000000 in
theorem right_no1 (y mo d h mi s z : Int) (w : World)  (a1 : y < 1900) : Calls Tryd.prog 8 #[.agg #[.int .i64 y, .int .i64 mo, .int .i64 d, .int .i64 h, .int .i64 mi, .int .i64 s, .int .i64 z]] w fun e w' => e = .returned (.bool false) ∧ Below w.heap.size w w' := by
  have df : decide (1900 ≤ y) = false := by simp; omega
  go_enter Tryd.func8, Tryd.ntmps8
  go_wp2_with fail
  simp only [List.append_eq, List.cons_append, List.nil_append]
  have hb0 := st_grow y mo d h mi s z w
  obtain ⟨c0, c1, c2, c3, c4, c5, c6⟩ := hb0
  refine wp_region_quiet_below (by kernel_rfl) (by exact lex18) ?_
  repeat (go_big_quiet_step (fail))
  refine wpQuiet_nil ?_
  intro _ hw'
  obtain ⟨p, rfl⟩ := hw'
  clear c0 c1 c2 c3 c4 c5 c6
  go_wp2_with fail
  go_ret
  exact ⟨rfl, ((Below.refl _ _).alloc (Nat.le_refl _) _).trans ((below_regrown _ p.d p.os).mono (by simp))⟩

set_option maxHeartbeats 4000000 in
theorem right_no2 (y mo d h mi s z : Int) (w : World) (a1 : 1900 ≤ y) (a2 : 2999 < y) : Calls Tryd.prog 8 #[.agg #[.int .i64 y, .int .i64 mo, .int .i64 d, .int .i64 h, .int .i64 mi, .int .i64 s, .int .i64 z]] w fun e w' => e = .returned (.bool false) ∧ Below w.heap.size w w' := by
  have df : decide (y ≤ 2999) = false := by simp; omega
  go_enter Tryd.func8, Tryd.ntmps8
  go_wp2_with fail
  simp only [List.append_eq, List.cons_append, List.nil_append]
  have hb0 := st_grow y mo d h mi s z w
  obtain ⟨c0, c1, c2, c3, c4, c5, c6⟩ := hb0
  refine wp_region_quiet_below (by kernel_rfl) (by exact lex18) ?_
  repeat (go_big_quiet_step (fail))
  refine wpQuiet_nil ?_
  intro _ hw'
  obtain ⟨p, rfl⟩ := hw'
  clear c0 c1 c2 c3 c4 c5 c6
  go_wp2_with fail
  go_ret
  exact ⟨rfl, ((Below.refl _ _).alloc (Nat.le_refl _) _).trans ((below_regrown _ p.d p.os).mono (by simp))⟩

set_option maxHeartbeats 4000000 in
theorem right_no3 (y mo d h mi s z : Int) (w : World) (a1 : 1900 ≤ y) (a2 : y ≤ 2999) (a3 : mo < 1) : Calls Tryd.prog 8 #[.agg #[.int .i64 y, .int .i64 mo, .int .i64 d, .int .i64 h, .int .i64 mi, .int .i64 s, .int .i64 z]] w fun e w' => e = .returned (.bool false) ∧ Below w.heap.size w w' := by
  have df : decide (1 ≤ mo) = false := by simp; omega
  go_enter Tryd.func8, Tryd.ntmps8
  go_wp2_with fail
  simp only [List.append_eq, List.cons_append, List.nil_append]
  have hb0 := st_grow y mo d h mi s z w
  obtain ⟨c0, c1, c2, c3, c4, c5, c6⟩ := hb0
  refine wp_region_quiet_below (by kernel_rfl) (by exact lex18) ?_
  repeat (go_big_quiet_step (fail))
  refine wpQuiet_nil ?_
  intro _ hw'
  obtain ⟨p, rfl⟩ := hw'
  clear c0 c1 c2 c3 c4 c5 c6
  go_wp2_with fail
  go_ret
  exact ⟨rfl, ((Below.refl _ _).alloc (Nat.le_refl _) _).trans ((below_regrown _ p.d p.os).mono (by simp))⟩

set_option maxHeartbeats 4000000 in
theorem right_no4 (y mo d h mi s z : Int) (w : World) (a1 : 1900 ≤ y) (a2 : y ≤ 2999) (a3 : 1 ≤ mo) (a4 : 12 < mo) : Calls Tryd.prog 8 #[.agg #[.int .i64 y, .int .i64 mo, .int .i64 d, .int .i64 h, .int .i64 mi, .int .i64 s, .int .i64 z]] w fun e w' => e = .returned (.bool false) ∧ Below w.heap.size w w' := by
  have df : decide (mo ≤ 12) = false := by simp; omega
  go_enter Tryd.func8, Tryd.ntmps8
  go_wp2_with fail
  simp only [List.append_eq, List.cons_append, List.nil_append]
  have hb0 := st_grow y mo d h mi s z w
  obtain ⟨c0, c1, c2, c3, c4, c5, c6⟩ := hb0
  refine wp_region_quiet_below (by kernel_rfl) (by exact lex18) ?_
  repeat (go_big_quiet_step (fail))
  refine wpQuiet_nil ?_
  intro _ hw'
  obtain ⟨p, rfl⟩ := hw'
  clear c0 c1 c2 c3 c4 c5 c6
  go_wp2_with fail
  go_ret
  exact ⟨rfl, ((Below.refl _ _).alloc (Nat.le_refl _) _).trans ((below_regrown _ p.d p.os).mono (by simp))⟩

set_option maxHeartbeats 4000000 in
theorem right_no5 (y mo d h mi s z : Int) (w : World) (a1 : 1900 ≤ y) (a2 : y ≤ 2999) (a3 : 1 ≤ mo) (a4 : mo ≤ 12) (a5 : d < 1) : Calls Tryd.prog 8 #[.agg #[.int .i64 y, .int .i64 mo, .int .i64 d, .int .i64 h, .int .i64 mi, .int .i64 s, .int .i64 z]] w fun e w' => e = .returned (.bool false) ∧ Below w.heap.size w w' := by
  have df : decide (1 ≤ d) = false := by simp; omega
  go_enter Tryd.func8, Tryd.ntmps8
  go_wp2_with fail
  simp only [List.append_eq, List.cons_append, List.nil_append]
  have hb0 := st_grow y mo d h mi s z w
  obtain ⟨c0, c1, c2, c3, c4, c5, c6⟩ := hb0
  refine wp_region_quiet_below (by kernel_rfl) (by exact lex18) ?_
  repeat (go_big_quiet_step (fail))
  refine wpQuiet_nil ?_
  intro _ hw'
  obtain ⟨p, rfl⟩ := hw'
  clear c0 c1 c2 c3 c4 c5 c6
  go_wp2_with fail
  go_ret
  exact ⟨rfl, ((Below.refl _ _).alloc (Nat.le_refl _) _).trans ((below_regrown _ p.d p.os).mono (by simp))⟩

set_option maxHeartbeats 4000000 in
theorem right_no6 (y mo d h mi s z : Int) (w : World) (a1 : 1900 ≤ y) (a2 : y ≤ 2999) (a3 : 1 ≤ mo) (a4 : mo ≤ 12) (a5 : 1 ≤ d) (a6 : dim y mo < d) : Calls Tryd.prog 8 #[.agg #[.int .i64 y, .int .i64 mo, .int .i64 d, .int .i64 h, .int .i64 mi, .int .i64 s, .int .i64 z]] w fun e w' => e = .returned (.bool false) ∧ Below w.heap.size w w' := by
  have df : decide (d ≤ dim y mo) = false := by simp; omega
  go_enter Tryd.func8, Tryd.ntmps8
  go_wp2_with fail
  simp only [List.append_eq, List.cons_append, List.nil_append]
  have hb0 := st_grow y mo d h mi s z w
  obtain ⟨c0, c1, c2, c3, c4, c5, c6⟩ := hb0
  refine wp_region_quiet_below (by kernel_rfl) (by exact lex18) ?_
  repeat (go_big_quiet_step ((go_at_call 19; exact Calls.regrown_of (days_any y mo _ (by omega) (by omega) a3 a4))))
  refine wpQuiet_nil ?_
  intro _ hw'
  obtain ⟨p, rfl⟩ := hw'
  clear c0 c1 c2 c3 c4 c5 c6
  go_wp2_with fail
  go_ret
  exact ⟨rfl, ((Below.refl _ _).alloc (Nat.le_refl _) _).trans ((below_regrown _ p.d p.os).mono (by simp))⟩

set_option maxHeartbeats 4000000 in
theorem right_no7 (y mo d h mi s z : Int) (w : World) (a1 : 1900 ≤ y) (a2 : y ≤ 2999) (a3 : 1 ≤ mo) (a4 : mo ≤ 12) (a5 : 1 ≤ d) (a6 : d ≤ dim y mo) (a7 : h < 0) : Calls Tryd.prog 8 #[.agg #[.int .i64 y, .int .i64 mo, .int .i64 d, .int .i64 h, .int .i64 mi, .int .i64 s, .int .i64 z]] w fun e w' => e = .returned (.bool false) ∧ Below w.heap.size w w' := by
  have df : decide (0 ≤ h) = false := by simp; omega
  go_enter Tryd.func8, Tryd.ntmps8
  go_wp2_with fail
  simp only [List.append_eq, List.cons_append, List.nil_append]
  have hb0 := st_grow y mo d h mi s z w
  obtain ⟨c0, c1, c2, c3, c4, c5, c6⟩ := hb0
  refine wp_region_quiet_below (by kernel_rfl) (by exact lex18) ?_
  repeat (go_big_quiet_step ((go_at_call 19; exact Calls.regrown_of (days_any y mo _ (by omega) (by omega) a3 a4))))
  refine wpQuiet_nil ?_
  intro _ hw'
  obtain ⟨p, rfl⟩ := hw'
  clear c0 c1 c2 c3 c4 c5 c6
  go_wp2_with fail
  go_ret
  exact ⟨rfl, ((Below.refl _ _).alloc (Nat.le_refl _) _).trans ((below_regrown _ p.d p.os).mono (by simp))⟩

set_option maxHeartbeats 4000000 in
theorem right_no8 (y mo d h mi s z : Int) (w : World) (a1 : 1900 ≤ y) (a2 : y ≤ 2999) (a3 : 1 ≤ mo) (a4 : mo ≤ 12) (a5 : 1 ≤ d) (a6 : d ≤ dim y mo) (a7 : 0 ≤ h) (a8 : 23 < h) : Calls Tryd.prog 8 #[.agg #[.int .i64 y, .int .i64 mo, .int .i64 d, .int .i64 h, .int .i64 mi, .int .i64 s, .int .i64 z]] w fun e w' => e = .returned (.bool false) ∧ Below w.heap.size w w' := by
  have df : decide (h ≤ 23) = false := by simp; omega
  go_enter Tryd.func8, Tryd.ntmps8
  go_wp2_with fail
  simp only [List.append_eq, List.cons_append, List.nil_append]
  have hb0 := st_grow y mo d h mi s z w
  obtain ⟨c0, c1, c2, c3, c4, c5, c6⟩ := hb0
  refine wp_region_quiet_below (by kernel_rfl) (by exact lex18) ?_
  repeat (go_big_quiet_step ((go_at_call 19; exact Calls.regrown_of (days_any y mo _ (by omega) (by omega) a3 a4))))
  refine wpQuiet_nil ?_
  intro _ hw'
  obtain ⟨p, rfl⟩ := hw'
  clear c0 c1 c2 c3 c4 c5 c6
  go_wp2_with fail
  go_ret
  exact ⟨rfl, ((Below.refl _ _).alloc (Nat.le_refl _) _).trans ((below_regrown _ p.d p.os).mono (by simp))⟩

set_option maxHeartbeats 4000000 in
theorem right_no9 (y mo d h mi s z : Int) (w : World) (a1 : 1900 ≤ y) (a2 : y ≤ 2999) (a3 : 1 ≤ mo) (a4 : mo ≤ 12) (a5 : 1 ≤ d) (a6 : d ≤ dim y mo) (a7 : 0 ≤ h) (a8 : h ≤ 23) (a9 : mi < 0) : Calls Tryd.prog 8 #[.agg #[.int .i64 y, .int .i64 mo, .int .i64 d, .int .i64 h, .int .i64 mi, .int .i64 s, .int .i64 z]] w fun e w' => e = .returned (.bool false) ∧ Below w.heap.size w w' := by
  have df : decide (0 ≤ mi) = false := by simp; omega
  go_enter Tryd.func8, Tryd.ntmps8
  go_wp2_with fail
  simp only [List.append_eq, List.cons_append, List.nil_append]
  have hb0 := st_grow y mo d h mi s z w
  obtain ⟨c0, c1, c2, c3, c4, c5, c6⟩ := hb0
  refine wp_region_quiet_below (by kernel_rfl) (by exact lex18) ?_
  repeat (go_big_quiet_step ((go_at_call 19; exact Calls.regrown_of (days_any y mo _ (by omega) (by omega) a3 a4))))
  refine wpQuiet_nil ?_
  intro _ hw'
  obtain ⟨p, rfl⟩ := hw'
  clear c0 c1 c2 c3 c4 c5 c6
  go_wp2_with fail
  go_ret
  exact ⟨rfl, ((Below.refl _ _).alloc (Nat.le_refl _) _).trans ((below_regrown _ p.d p.os).mono (by simp))⟩

set_option maxHeartbeats 4000000 in
theorem right_no10 (y mo d h mi s z : Int) (w : World) (a1 : 1900 ≤ y) (a2 : y ≤ 2999) (a3 : 1 ≤ mo) (a4 : mo ≤ 12) (a5 : 1 ≤ d) (a6 : d ≤ dim y mo) (a7 : 0 ≤ h) (a8 : h ≤ 23) (a9 : 0 ≤ mi) (a10 : 59 < mi) : Calls Tryd.prog 8 #[.agg #[.int .i64 y, .int .i64 mo, .int .i64 d, .int .i64 h, .int .i64 mi, .int .i64 s, .int .i64 z]] w fun e w' => e = .returned (.bool false) ∧ Below w.heap.size w w' := by
  have df : decide (mi ≤ 59) = false := by simp; omega
  go_enter Tryd.func8, Tryd.ntmps8
  go_wp2_with fail
  simp only [List.append_eq, List.cons_append, List.nil_append]
  have hb0 := st_grow y mo d h mi s z w
  obtain ⟨c0, c1, c2, c3, c4, c5, c6⟩ := hb0
  refine wp_region_quiet_below (by kernel_rfl) (by exact lex18) ?_
  repeat (go_big_quiet_step ((go_at_call 19; exact Calls.regrown_of (days_any y mo _ (by omega) (by omega) a3 a4))))
  refine wpQuiet_nil ?_
  intro _ hw'
  obtain ⟨p, rfl⟩ := hw'
  clear c0 c1 c2 c3 c4 c5 c6
  go_wp2_with fail
  go_ret
  exact ⟨rfl, ((Below.refl _ _).alloc (Nat.le_refl _) _).trans ((below_regrown _ p.d p.os).mono (by simp))⟩

set_option maxHeartbeats 4000000 in
theorem right_no11 (y mo d h mi s z : Int) (w : World) (a1 : 1900 ≤ y) (a2 : y ≤ 2999) (a3 : 1 ≤ mo) (a4 : mo ≤ 12) (a5 : 1 ≤ d) (a6 : d ≤ dim y mo) (a7 : 0 ≤ h) (a8 : h ≤ 23) (a9 : 0 ≤ mi) (a10 : mi ≤ 59) (a11 : s < 0) : Calls Tryd.prog 8 #[.agg #[.int .i64 y, .int .i64 mo, .int .i64 d, .int .i64 h, .int .i64 mi, .int .i64 s, .int .i64 z]] w fun e w' => e = .returned (.bool false) ∧ Below w.heap.size w w' := by
  have df : decide (0 ≤ s) = false := by simp; omega
  go_enter Tryd.func8, Tryd.ntmps8
  go_wp2_with fail
  simp only [List.append_eq, List.cons_append, List.nil_append]
  have hb0 := st_grow y mo d h mi s z w
  obtain ⟨c0, c1, c2, c3, c4, c5, c6⟩ := hb0
  refine wp_region_quiet_below (by kernel_rfl) (by exact lex18) ?_
  repeat (go_big_quiet_step ((go_at_call 19; exact Calls.regrown_of (days_any y mo _ (by omega) (by omega) a3 a4))))
  refine wpQuiet_nil ?_
  intro _ hw'
  obtain ⟨p, rfl⟩ := hw'
  clear c0 c1 c2 c3 c4 c5 c6
  go_wp2_with fail
  go_ret
  exact ⟨rfl, ((Below.refl _ _).alloc (Nat.le_refl _) _).trans ((below_regrown _ p.d p.os).mono (by simp))⟩

set_option maxHeartbeats 4000000 in
theorem right_no12 (y mo d h mi s z : Int) (w : World) (a1 : 1900 ≤ y) (a2 : y ≤ 2999) (a3 : 1 ≤ mo) (a4 : mo ≤ 12) (a5 : 1 ≤ d) (a6 : d ≤ dim y mo) (a7 : 0 ≤ h) (a8 : h ≤ 23) (a9 : 0 ≤ mi) (a10 : mi ≤ 59) (a11 : 0 ≤ s) (a12 : 59 < s) : Calls Tryd.prog 8 #[.agg #[.int .i64 y, .int .i64 mo, .int .i64 d, .int .i64 h, .int .i64 mi, .int .i64 s, .int .i64 z]] w fun e w' => e = .returned (.bool false) ∧ Below w.heap.size w w' := by
  have df : decide (s ≤ 59) = false := by simp; omega
  go_enter Tryd.func8, Tryd.ntmps8
  go_wp2_with fail
  simp only [List.append_eq, List.cons_append, List.nil_append]
  have hb0 := st_grow y mo d h mi s z w
  obtain ⟨c0, c1, c2, c3, c4, c5, c6⟩ := hb0
  refine wp_region_quiet_below (by kernel_rfl) (by exact lex18) ?_
  repeat (go_big_quiet_step ((go_at_call 19; exact Calls.regrown_of (days_any y mo _ (by omega) (by omega) a3 a4))))
  refine wpQuiet_nil ?_
  intro _ hw'
  obtain ⟨p, rfl⟩ := hw'
  clear c0 c1 c2 c3 c4 c5 c6
  go_wp2_with fail
  go_ret
  exact ⟨rfl, ((Below.refl _ _).alloc (Nat.le_refl _) _).trans ((below_regrown _ p.d p.os).mono (by simp))⟩

set_option maxHeartbeats 4000000 in
theorem right_no13 (y mo d h mi s z : Int) (w : World) (a1 : 1900 ≤ y) (a2 : y ≤ 2999) (a3 : 1 ≤ mo) (a4 : mo ≤ 12) (a5 : 1 ≤ d) (a6 : d ≤ dim y mo) (a7 : 0 ≤ h) (a8 : h ≤ 23) (a9 : 0 ≤ mi) (a10 : mi ≤ 59) (a11 : 0 ≤ s) (a12 : s ≤ 59) (a13 : z < -959) : Calls Tryd.prog 8 #[.agg #[.int .i64 y, .int .i64 mo, .int .i64 d, .int .i64 h, .int .i64 mi, .int .i64 s, .int .i64 z]] w fun e w' => e = .returned (.bool false) ∧ Below w.heap.size w w' := by
  have df : decide (-959 ≤ z) = false := by simp; omega
  go_enter Tryd.func8, Tryd.ntmps8
  go_wp2_with fail
  simp only [List.append_eq, List.cons_append, List.nil_append]
  have hb0 := st_grow y mo d h mi s z w
  obtain ⟨c0, c1, c2, c3, c4, c5, c6⟩ := hb0
  refine wp_region_quiet_below (by kernel_rfl) (by exact lex18) ?_
  repeat (go_big_quiet_step ((go_at_call 19; exact Calls.regrown_of (days_any y mo _ (by omega) (by omega) a3 a4))))
  refine wpQuiet_nil ?_
  intro _ hw'
  obtain ⟨p, rfl⟩ := hw'
  clear c0 c1 c2 c3 c4 c5 c6
  go_wp2_with fail
  go_ret
  exact ⟨rfl, ((Below.refl _ _).alloc (Nat.le_refl _) _).trans ((below_regrown _ p.d p.os).mono (by simp))⟩

set_option maxHeartbeats 4000000 in
theorem right_no14 (y mo d h mi s z : Int) (w : World) (a1 : 1900 ≤ y) (a2 : y ≤ 2999) (a3 : 1 ≤ mo) (a4 : mo ≤ 12) (a5 : 1 ≤ d) (a6 : d ≤ dim y mo) (a7 : 0 ≤ h) (a8 : h ≤ 23) (a9 : 0 ≤ mi) (a10 : mi ≤ 59) (a11 : 0 ≤ s) (a12 : s ≤ 59) (a13 : -959 ≤ z) (a14 : 959 < z) : Calls Tryd.prog 8 #[.agg #[.int .i64 y, .int .i64 mo, .int .i64 d, .int .i64 h, .int .i64 mi, .int .i64 s, .int .i64 z]] w fun e w' => e = .returned (.bool false) ∧ Below w.heap.size w w' := by
  have df : decide (z ≤ 959) = false := by simp; omega
  go_enter Tryd.func8, Tryd.ntmps8
  go_wp2_with fail
  simp only [List.append_eq, List.cons_append, List.nil_append]
  have hb0 := st_grow y mo d h mi s z w
  obtain ⟨c0, c1, c2, c3, c4, c5, c6⟩ := hb0
  refine wp_region_quiet_below (by kernel_rfl) (by exact lex18) ?_
  repeat (go_big_quiet_step ((go_at_call 19; exact Calls.regrown_of (days_any y mo _ (by omega) (by omega) a3 a4))))
  refine wpQuiet_nil ?_
  intro _ hw'
  obtain ⟨p, rfl⟩ := hw'
  clear c0 c1 c2 c3 c4 c5 c6
  go_wp2_with fail
  go_ret
  exact ⟨rfl, ((Below.refl _ _).alloc (Nat.le_refl _) _).trans ((below_regrown _ p.d p.os).mono (by simp))⟩

theorem right_no (y mo d h mi s z : Int) (w : World) (n : ¬ RightS y mo d h mi s z) : Calls Tryd.prog 8 #[.agg #[.int .i64 y, .int .i64 mo, .int .i64 d, .int .i64 h, .int .i64 mi, .int .i64 s, .int .i64 z]] w fun e w' => e = .returned (.bool false) ∧ Below w.heap.size w w' := by
  by_cases a1 : 1900 ≤ y
  case neg => exact right_no1 y mo d h mi s z w  (by omega)
  by_cases a2 : y ≤ 2999
  case neg => exact right_no2 y mo d h mi s z w a1 (by omega)
  by_cases a3 : 1 ≤ mo
  case neg => exact right_no3 y mo d h mi s z w a1 a2 (by omega)
  by_cases a4 : mo ≤ 12
  case neg => exact right_no4 y mo d h mi s z w a1 a2 a3 (by omega)
  by_cases a5 : 1 ≤ d
  case neg => exact right_no5 y mo d h mi s z w a1 a2 a3 a4 (by omega)
  by_cases a6 : d ≤ dim y mo
  case neg => exact right_no6 y mo d h mi s z w a1 a2 a3 a4 a5 (by omega)
  by_cases a7 : 0 ≤ h
  case neg => exact right_no7 y mo d h mi s z w a1 a2 a3 a4 a5 a6 (by omega)
  by_cases a8 : h ≤ 23
  case neg => exact right_no8 y mo d h mi s z w a1 a2 a3 a4 a5 a6 a7 (by omega)
  by_cases a9 : 0 ≤ mi
  case neg => exact right_no9 y mo d h mi s z w a1 a2 a3 a4 a5 a6 a7 a8 (by omega)
  by_cases a10 : mi ≤ 59
  case neg => exact right_no10 y mo d h mi s z w a1 a2 a3 a4 a5 a6 a7 a8 a9 (by omega)
  by_cases a11 : 0 ≤ s
  case neg => exact right_no11 y mo d h mi s z w a1 a2 a3 a4 a5 a6 a7 a8 a9 a10 (by omega)
  by_cases a12 : s ≤ 59
  case neg => exact right_no12 y mo d h mi s z w a1 a2 a3 a4 a5 a6 a7 a8 a9 a10 a11 (by omega)
  by_cases a13 : -959 ≤ z
  case neg => exact right_no13 y mo d h mi s z w a1 a2 a3 a4 a5 a6 a7 a8 a9 a10 a11 a12 (by omega)
  by_cases a14 : z ≤ 959
  case neg => exact right_no14 y mo d h mi s z w a1 a2 a3 a4 a5 a6 a7 a8 a9 a10 a11 a12 a13 (by omega)
  exact absurd ⟨a1, a2, a3, a4, a5, a6, a7, a8, a9, a10, a11, a12, a13, a14⟩ n
end Go.Proofs.YthcgdbmcpnmeeaaDoor
