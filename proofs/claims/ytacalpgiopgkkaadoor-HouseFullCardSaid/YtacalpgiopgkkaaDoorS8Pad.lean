/-
  The contract of pad.
-/
import Derived.Test.YtacalpgiopgkkaaDoorS8PrintP
namespace Go.Proofs.YtacalpgiopgkkaaDoor
namespace S8
set_option linter.unusedVariables false
open Go.RowKit Go.Lib

/-- how long a text is -/
def szV : Value → Nat
  | .string b => b.data.toList.length
  | _ => 0

set_option maxHeartbeats 1000000 in
theorem pad_any (K : ItoaC) (n : Nat) (a : UInt8) (w : World) (hn : n < 100) : Calls Tryd.prog 45 #[.int .i64 n, .int .i64 2, .string ⟨#[a]⟩] w fun e w' => e = .returned (.string ⟨(padS a n).toArray⟩) ∧ Below w.heap.size w w' := by
  by_cases h10 : n < 10
  · have hd := dec_lt10 n h10
    have hp : padS a n = [a, dg n] := by unfold padS; rw [if_pos h10]
    rw [hp]
    go_enter Tryd.func45, Tryd.ntmps45
    go_wp2_with (go_at_call 47; refine (K.small n _ hn).mono ?_; rw [hd]; rintro e w' ⟨rfl, rfl⟩)
    go_loop [7] (fun s => s = .string ⟨#[dg n]⟩ ∨ s = .string ⟨#[a, dg n]⟩) (fun s => 2 - szV s)
    case atStart => exact Or.inl rfl
    case round =>
      rcases hrel with rfl | rfl
      · go_wp2_with fail
        go_round
        case rel => exact Or.inr rfl
        case measure => exact (by decide : 2 - 2 < 2 - 1)
      · go_wp2_with fail
        go_ret
        exact ⟨rfl, Below.refl _ _⟩
  · have hd := dec_lt100 n (by omega) hn
    have hp : padS a n = [dg (n / 10), dg (n % 10)] := by unfold padS; rw [if_neg h10]
    rw [hp]
    go_enter Tryd.func45, Tryd.ntmps45
    go_wp2_with (go_at_call 47; refine (K.small n _ hn).mono ?_; rw [hd]; rintro e w' ⟨rfl, rfl⟩)
    go_loop [7] (fun s => s = .string ⟨#[dg (n / 10), dg (n % 10)]⟩) (fun s => 0)
    case atStart => rfl
    case round =>
      subst hrel
      go_wp2_with fail
      go_ret
      exact ⟨rfl, Below.refl _ _⟩
theorem pad_two (K : ItoaC) (n : Nat) (a : UInt8) (w : World) (hn : n < 100) : Calls Tryd.prog 45 #[.int .i64 n, .int .i64 2, .string ⟨#[a]⟩] w fun e w' => e = .returned (.string ⟨#[padA a n, padB n]⟩) ∧ Below w.heap.size w w' := by
  have h := pad_any K n a w hn
  rw [padS_two] at h
  exact h
theorem itoa_year (K : ItoaC) (n : Nat) (w : World) (h0 : 1000 ≤ n) (hn : n < 10000) (ht : TabIs Tryd.prog w "internal/strconv.uint64pow10" .u64 pow10Tab) : Calls Tryd.prog 47 #[.int .i64 n] w fun e w' => e = .returned (.string ⟨#[yrA n, yrB n, yrC n, yrD n]⟩) ∧ Below w.heap.size w w' := by
  have h := K.big n w hn ht
  rw [dec_year n h0 hn] at h
  exact h
end S8
end Go.Proofs.YtacalpgiopgkkaaDoor
