/-
  The contract of Rises.
-/
import Derived.Test.YtligplnmgoailaaOwn
namespace Go.Proofs.Ytligplnmgoailaa
set_option linter.unusedVariables false
open Go.RowKit

/-- do numbers rise, from 1 on? -/
def Up (l : List Int) : Prop := (∀ i (h : i < l.length), l[i] ≠ 0) ∧ ∀ i (h : i + 1 < l.length), l[i] < l[i + 1]
def UpK (l : List Int) (k : Nat) : Prop := (∀ i (h : i < l.length), i < k → l[i] ≠ 0) ∧ ∀ i (h : i + 1 < l.length), i + 1 < k → l[i] < l[i + 1]
theorem UpK.zero (l : List Int) : UpK l 0 := ⟨fun i h g => by omega, fun i h g => by omega⟩
theorem UpK.all {l : List Int} {k : Nat} (h : UpK l k) (hk : l.length ≤ k) : Up l := ⟨fun i g => h.1 i g (by omega), fun i g => h.2 i g (by omega)⟩
theorem UpK.next {l : List Int} {k : Nat} (h : UpK l k) (hk : k < l.length) (h0 : l[k] ≠ 0) (h1 : 0 < k → l[k - 1]'(by omega) < l[k]) : UpK l (k + 1) := by
  refine ⟨fun i g hi => ?_, fun i g hi => ?_⟩
  · by_cases e : i = k
    · subst e; exact h0
    · exact h.1 i g (by omega)
  · by_cases e : i + 1 = k
    · subst e; exact h1 (by omega)
    · exact h.2 i g (by omega)

/-- the answer of Rises -/
def RisesIs (l : List Int) (e : Ending) : Prop := (Up l ∧ e = .returned (.bool true)) ∨ (¬ Up l ∧ e = .returned (.bool false))

set_option maxHeartbeats 1000000 in
theorem rises_any (v : Value) (l : List Int) (w : World) (hr : RowN w v l) (hlen : l.length ≤ 9223372036854775807) :
    Calls Try.prog 26 #[v] w fun e w' => RisesIs l e ∧ Below w.heap.size w w' := by
  obtain ⟨b, off, a, cap, rfl, hc, hm, ha, hcell⟩ := hr.shape
  have Ha := Lib.hid ha
  have Hc := Lib.hid hcell
  have HR := Lib.hid hr.2
  clear ha hcell hr
  go_enter Try.func26, Try.ntmps26
  go_wp2_with fail
  go_loopw [3] (fun i wr => ∃ k : Nat, k ≤ l.length ∧ i = .int .i64 k ∧ UpK l k ∧ Below w.heap.size w wr) (fun i _ => l.length - (intOf i).toNat)
  case atStart => exact ⟨0, by omega, rfl, UpK.zero l, Below.refl _ _⟩
  case round =>
    obtain ⟨k, hk, rfl, hup, hb⟩ := hrel
    have HU := Lib.hid hup
    clear hup
    by_cases hlt : k < l.length
    · obtain ⟨rfl, hbl⟩ := Ha.out (by omega)
      have hq : wr.cell? ⟨b, off + k, none⟩ = some (.int .u32 l[k]) := (hb.cell (p := ⟨b, off + k, none⟩) hbl).trans (Hc.out k hlt)
      have hx := HR.out l[k] (List.getElem_mem hlt)
      by_cases h0 : l[k] = 0
      · have HN : Hid (¬ Up l) := Lib.hid fun u => u.1 k hlt h0
        have hz : (l[k] == 0) = true := by simp [h0]
        clear h0
        generalize l[k] = x at *
        go_wp2_with fail
        go_quiet (fail)
        go_wp2_with fail
        go_ret
        exact ⟨.inr ⟨HN.out, rfl⟩, below_drewN hb _⟩
      · have hz : (l[k] == 0) = false := by simp [h0]
        by_cases hk0 : 0 < k
        · have hkd : decide (0 < (k : Int)) = true := by simp; omega
          have hq2 : wr.cell? ⟨b, off + (k - 1), none⟩ = some (.int .u32 l[k - 1]) := (hb.cell (p := ⟨b, off + (k - 1), none⟩) hbl).trans (Hc.out (k - 1) (by omega))
          have hx2 := HR.out l[k - 1] (List.getElem_mem (by omega))
          have e1 : ((k : Int) - 1).toNat = k - 1 := by omega
          have hi1 : 0 ≤ (k : Int) - 1 := by omega
          have hi2 : (k : Int) - 1 < l.length := by omega
          by_cases hle : l[k - 1] < l[k]
          · have HX := Lib.hid (HU.out.next hlt h0 (fun _ => hle))
            clear h0
            have hd : decide (l[k] ≤ l[k - 1]) = false := by simp; exact hle
            generalize l[k] = x at *
            generalize l[k - 1] = y at *
            have hw : IntKind.i64.wrap ((k : Int) - 1) = (k : Int) - 1 := IntWalk.i64_in _ (by omega)
            go_wp2_with fail
            go_quiet (fail)
            go_wp2_with fail
            go_roundw
            case rel => exact ⟨k + 1, by omega, by go_num, HX.out, below_drewN hb _⟩
            case measure => simp [intOf]; omega
          · have HN : Hid (¬ Up l) := Lib.hid fun u => hle (by have := u.2 (k - 1) (by omega); simpa [Nat.sub_add_cancel hk0] using this)
            clear h0
            have hd : decide (l[k] ≤ l[k - 1]) = true := by simp; omega
            generalize l[k] = x at *
            generalize l[k - 1] = y at *
            have hw : IntKind.i64.wrap ((k : Int) - 1) = (k : Int) - 1 := IntWalk.i64_in _ (by omega)
            go_wp2_with fail
            go_quiet (fail)
            go_wp2_with fail
            go_ret
            exact ⟨.inr ⟨HN.out, rfl⟩, below_drewN hb _⟩
        · have hkd : decide (0 < (k : Int)) = false := by simp; omega
          have HX := Lib.hid (HU.out.next hlt h0 (fun g => by omega))
          clear h0
          generalize l[k] = x at *
          go_wp2_with fail
          go_quiet (fail)
          go_wp2_with fail
          go_roundw
          case rel => exact ⟨k + 1, by omega, by go_num, HX.out, below_drewN hb _⟩
          case measure => simp [intOf]; omega
    · have HX := Lib.hid (HU.out.all (by omega))
      go_wp2_with fail
      go_ret
      exact ⟨.inl ⟨HX.out, rfl⟩, hb⟩
end Go.Proofs.Ytligplnmgoailaa
