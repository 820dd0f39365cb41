/-
  The contract of the reference's Right: a stamp that is not right.
-/
import Derived.Test.YthcgdbmcpnmeeaaDoorRLex
import Derived.BigQuiet
namespace Go.Proofs.YthcgdbmcpnmeeaaDoor
set_option linter.unusedVariables false
open Go.RowKit

set_option maxHeartbeats 2000000 in
theorem rright_no9 (y mo d h mi s z : Int) (w : World) (a1 : 1900 ≤ y) (a2 : y ≤ 2999) (a3 : 1 ≤ mo) (a4 : mo ≤ 12) (a5 : 1 ≤ d) (a6 : d ≤ dim y mo) (a7 : 0 ≤ h) (a8 : h ≤ 23) (a9 : mi < 0) : Calls Tryd.prog 9 #[.agg #[.int .i64 y, .int .i64 mo, .int .i64 d, .int .i64 h, .int .i64 mi, .int .i64 s, .int .i64 z]] w fun e w' => e = .returned (.bool false) ∧ Below w.heap.size w w' := by
  have df : decide (0 ≤ mi) = false := by simp; omega
  go_enter Tryd.func9, Tryd.ntmps9
  go_wp2_with fail
  simp only [List.append_eq, List.cons_append, List.nil_append]
  refine wp_region_quiet_lit (by kernel_rfl) (by exact lex12) ?_
  repeat (go_big_quiet_step ((go_at_call 20; exact Calls.quiet_of_same ((rdays_any y mo _ (by omega) (by omega) a3 a4).mono fun e w' h => ⟨h.1, h.2.symm⟩))))
  refine wpQuiet_nil ?_
  intro _ hw'
  obtain ⟨nq, hw''⟩ := hw'
  subst hw''
  go_wp2_with fail
  go_ret
  exact ⟨rfl, below_drewN ((Below.refl _ _).alloc (Nat.le_refl _) _) _⟩

set_option maxHeartbeats 2000000 in
theorem rright_no10 (y mo d h mi s z : Int) (w : World) (a1 : 1900 ≤ y) (a2 : y ≤ 2999) (a3 : 1 ≤ mo) (a4 : mo ≤ 12) (a5 : 1 ≤ d) (a6 : d ≤ dim y mo) (a7 : 0 ≤ h) (a8 : h ≤ 23) (a9 : 0 ≤ mi) (a10 : 59 < mi) : Calls Tryd.prog 9 #[.agg #[.int .i64 y, .int .i64 mo, .int .i64 d, .int .i64 h, .int .i64 mi, .int .i64 s, .int .i64 z]] w fun e w' => e = .returned (.bool false) ∧ Below w.heap.size w w' := by
  have df : decide (mi ≤ 59) = false := by simp; omega
  go_enter Tryd.func9, Tryd.ntmps9
  go_wp2_with fail
  simp only [List.append_eq, List.cons_append, List.nil_append]
  refine wp_region_quiet_lit (by kernel_rfl) (by exact lex12) ?_
  repeat (go_big_quiet_step ((go_at_call 20; exact Calls.quiet_of_same ((rdays_any y mo _ (by omega) (by omega) a3 a4).mono fun e w' h => ⟨h.1, h.2.symm⟩))))
  refine wpQuiet_nil ?_
  intro _ hw'
  obtain ⟨nq, hw''⟩ := hw'
  subst hw''
  go_wp2_with fail
  go_ret
  exact ⟨rfl, below_drewN ((Below.refl _ _).alloc (Nat.le_refl _) _) _⟩

set_option maxHeartbeats 2000000 in
theorem rright_no11 (y mo d h mi s z : Int) (w : World) (a1 : 1900 ≤ y) (a2 : y ≤ 2999) (a3 : 1 ≤ mo) (a4 : mo ≤ 12) (a5 : 1 ≤ d) (a6 : d ≤ dim y mo) (a7 : 0 ≤ h) (a8 : h ≤ 23) (a9 : 0 ≤ mi) (a10 : mi ≤ 59) (a11 : s < 0) : Calls Tryd.prog 9 #[.agg #[.int .i64 y, .int .i64 mo, .int .i64 d, .int .i64 h, .int .i64 mi, .int .i64 s, .int .i64 z]] w fun e w' => e = .returned (.bool false) ∧ Below w.heap.size w w' := by
  have df : decide (0 ≤ s) = false := by simp; omega
  go_enter Tryd.func9, Tryd.ntmps9
  go_wp2_with fail
  simp only [List.append_eq, List.cons_append, List.nil_append]
  refine wp_region_quiet_lit (by kernel_rfl) (by exact lex12) ?_
  repeat (go_big_quiet_step ((go_at_call 20; exact Calls.quiet_of_same ((rdays_any y mo _ (by omega) (by omega) a3 a4).mono fun e w' h => ⟨h.1, h.2.symm⟩))))
  refine wpQuiet_nil ?_
  intro _ hw'
  obtain ⟨nq, hw''⟩ := hw'
  subst hw''
  go_wp2_with fail
  go_ret
  exact ⟨rfl, below_drewN ((Below.refl _ _).alloc (Nat.le_refl _) _) _⟩
end Go.Proofs.YthcgdbmcpnmeeaaDoor
