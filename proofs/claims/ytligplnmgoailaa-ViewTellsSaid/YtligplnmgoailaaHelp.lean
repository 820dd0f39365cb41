/-
  The contracts of Plain, Own and Kept.
-/
import Derived.Test.YtligplnmgoailaaOwn
namespace Go.Proofs.Ytligplnmgoailaa
set_option linter.unusedVariables false
open Go.RowKit

theorem eqN_any (x y : Int) (w : World) : Calls Try.prog 31 #[.int .u32 x, .int .u32 y] w fun e w' => e = .returned (.bool (x == y)) ∧ w' = w := by
  go_enter Try.func31, Try.ntmps31
  go_wp2_with fail
  go_ret
  exact ⟨rfl, rfl⟩

theorem take_same {α : Type} {la lb : List α} {k : Nat} (h : la.length = lb.length) (hk : k < la.length) (ht : la.take k = lb.take k) : (la.take (k + 1) = lb.take (k + 1)) ↔ la[k] = lb[k]'(by omega) := by
  rw [List.take_succ_eq_append_getElem hk, List.take_succ_eq_append_getElem (show k < lb.length by omega), ht, List.append_cancel_left_eq]
  simp

set_option maxHeartbeats 1000000 in
theorem sameN_any {va vb : Value} {la lb : List Int} {w : World} (ha : RowN w va la) (hb : RowN w vb lb) :
    Calls Try.prog 30 #[va, vb, .func (.func 31) #[] #[]] w fun e w' => e = .returned (.bool (decide (la = lb))) ∧ Below w.heap.size w w' := by
  obtain ⟨ba, oa, aa, capa, rfl, hca, hma, hpa, hcella⟩ := ha.shape
  obtain ⟨bb, ob, ab, capb, rfl, hcb, hmb, hpb, hcellb⟩ := hb.shape
  have hma' : la.length ≤ maxLen := by omega
  have hmb' : lb.length ≤ maxLen := by omega
  unfold maxLen at hma' hmb'
  have PA := Lib.hid hpa
  have PB := Lib.hid hpb
  have CA := Lib.hid hcella
  have CB := Lib.hid hcellb
  clear ha hb hpa hpb hcella hcellb
  by_cases hlen : la.length = lb.length
  · have HL := Lib.hid hlen
    have hl1 : ((la.length : Int) == (lb.length : Int)) = true := by simp; omega
    have hl2 : ((la.length : Int) != (lb.length : Int)) = false := by simp; omega
    clear hlen
    go_enter Try.func30, Try.ntmps30
    go_wp2_with fail
    go_loopw [7] (fun i wr => ∃ k : Nat, k ≤ la.length ∧ i = .int .i64 k ∧ Hid (la.take k = lb.take k) ∧ Below w.heap.size w wr) (fun i _ => la.length - (intOf i).toNat)
    case atStart => exact ⟨0, Nat.zero_le _, rfl, Lib.hid rfl, Below.refl _ _⟩
    case round =>
      obtain ⟨k, hk, rfl, ht, hst⟩ := hrel
      by_cases hka : k < la.length
      · have hkb : k < lb.length := by rw [← HL.out]; exact hka
        obtain ⟨rfl, hba⟩ := PA.out (by omega)
        obtain ⟨rfl, hbb⟩ := PB.out (by omega)
        have c1 : wr.cell? ⟨ba, oa + k, none⟩ = some (.int .u32 la[k]) := (hst.cell (p := ⟨ba, oa + k, none⟩) hba).trans (CA.out k hka)
        have c2 : wr.cell? ⟨bb, ob + k, none⟩ = some (.int .u32 lb[k]) := (hst.cell (p := ⟨bb, ob + k, none⟩) hbb).trans (CB.out k hkb)
        by_cases he : la[k] = lb[k]
        · have Ht := Lib.hid ((take_same HL.out hka ht.out).2 he)
          have hb1 : (la[k] == lb[k]) = true := by simp [he]
          clear he
          generalize la[k] = x at *
          generalize lb[k] = y at *
          go_wp2_with fail
          go_quiet ((go_at_call 31; exact Calls.quiet_of_same (eqN_any _ _ _)))
          go_wp2_with fail
          go_roundw
          case rel => exact ⟨k + 1, by omega, by go_num, Ht, below_drewN hst _⟩
          case measure => simp [intOf]; omega
        · have hne : Hid (¬ la = lb) := by
            intro h
            subst h
            exact he rfl
          have hb1 : (la[k] == lb[k]) = false := by simp [he]
          clear he
          generalize la[k] = x at *
          generalize lb[k] = y at *
          go_wp2_with fail
          go_quiet ((go_at_call 31; exact Calls.quiet_of_same (eqN_any _ _ _)))
          go_wp2_with fail
          go_ret
          exact ⟨ret_eq (show Value.bool false = _ by simp [hne.out]), below_drewN hst _⟩
      · obtain rfl : k = la.length := by omega
        have heq : Hid (la = lb) := by
          have := ht.out
          rwa [List.take_of_length_le (Nat.le_refl _), List.take_of_length_le (by rw [HL.out]; exact Nat.le_refl _)] at this
        go_wp2_with fail
        go_ret
        exact ⟨ret_eq (show Value.bool true = _ by simp [heq.out]), hst⟩
  · have hne : ¬ la = lb := by
      intro h
      subst h
      omega
    have Hne := Lib.hid hne
    clear hne
    have hd : ((la.length : Int) == (lb.length : Int)) = false := by simp; omega
    have hd2 : ((la.length : Int) != (lb.length : Int)) = true := by simp; omega
    go_enter Try.func30, Try.ntmps30
    go_wp2_with fail
    go_ret
    exact ⟨ret_eq (show Value.bool false = _ by simp [Hne.out]), Below.refl _ _⟩

theorem plainN_any {va vb : Value} {la lb : List Int} {w : World} (ha : RowN w va la) (hb : RowN w vb lb) :
    Calls Try.prog 16 #[va, vb] w fun e w' => e = .returned (.bool (decide (la = lb))) ∧ Below w.heap.size w w' := by
  go_enter Try.func16, Try.ntmps16
  go_wp2_with fail
  refine (sameN_any ha hb).mono ?_
  rintro e w1 ⟨rfl, hst⟩
  go_wp2_with fail
  go_ret
  exact ⟨rfl, hst⟩

end Go.Proofs.Ytligplnmgoailaa
