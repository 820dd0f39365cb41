/-
  What is small enough: the law's own bound on a sight and a folder.
-/
import Derived.Test.YtligplnmgoailaaHdL
namespace Go.Proofs.Ytligplnmgoailaa
set_option linter.unusedVariables false
open Go.RowKit Go.Sort
attribute [local go_sem] Oper.semAt_some

def SmallIs (nu nf nh : Nat) (e : Ending) : Prop := ((nu < 400 ∧ nf < 400 ∧ nh < 500) ∧ e = .returned (.bool true)) ∨ (¬ (nu < 400 ∧ nf < 400 ∧ nh < 500) ∧ e = .returned (.bool false))

set_option maxHeartbeats 1000000 in
theorem small_any (bx nm : ByteArray) (vl va nx up : Int) (rd gone : Bool) (ua fa ha : Option Addr) (nu uc nf fc nh hc : Nat) (w : World) :
    Calls Try.prog 6 #[.agg (sightV bx vl rd (.slice ua nu uc) (.slice fa nf fc)), .agg (foldA nm va nx up gone (.slice ha nh hc))] w fun e w' => SmallIs nu nf nh e ∧ Below w.heap.size w w' := by
  unfold sightV foldA
  by_cases h1 : nu < 400
  · have hd1 : decide ((nu : Int) < 400) = true := decide_eq_true (by omega)
    by_cases h2 : nf < 400
    · have hd2 : decide ((nf : Int) < 400) = true := decide_eq_true (by omega)
      by_cases h3 : nh < 500
      · have hd3 : decide ((nh : Int) < 500) = true := decide_eq_true (by omega)
        have H := Lib.hid (show nu < 400 ∧ nf < 400 ∧ nh < 500 from ⟨h1, h2, h3⟩)
        clear h1 h2 h3
        go_enter Try.func6, Try.ntmps6
        go_wp2_with fail
        go_ret
        exact ⟨.inl ⟨H.out, rfl⟩, ((Below.refl _ _).alloc (Nat.le_refl _) _).alloc (by simp) _⟩
      · have hd3 : decide ((nh : Int) < 500) = false := decide_eq_false (by omega)
        have H := Lib.hid (show ¬ (nu < 400 ∧ nf < 400 ∧ nh < 500) from fun h => h3 h.2.2)
        clear h1 h2 h3
        go_enter Try.func6, Try.ntmps6
        go_wp2_with fail
        go_ret
        exact ⟨.inr ⟨H.out, rfl⟩, ((Below.refl _ _).alloc (Nat.le_refl _) _).alloc (by simp) _⟩
    · have hd2 : decide ((nf : Int) < 400) = false := decide_eq_false (by omega)
      have H := Lib.hid (show ¬ (nu < 400 ∧ nf < 400 ∧ nh < 500) from fun h => h2 h.2.1)
      clear h1 h2
      go_enter Try.func6, Try.ntmps6
      go_wp2_with fail
      go_ret
      exact ⟨.inr ⟨H.out, rfl⟩, ((Below.refl _ _).alloc (Nat.le_refl _) _).alloc (by simp) _⟩
  · have hd1 : decide ((nu : Int) < 400) = false := decide_eq_false (by omega)
    have H := Lib.hid (show ¬ (nu < 400 ∧ nf < 400 ∧ nh < 500) from fun h => h1 h.1)
    clear h1
    go_enter Try.func6, Try.ntmps6
    go_wp2_with fail
    go_ret
    exact ⟨.inr ⟨H.out, rfl⟩, ((Below.refl _ _).alloc (Nat.le_refl _) _).alloc (by simp) _⟩
end Go.Proofs.Ytligplnmgoailaa
