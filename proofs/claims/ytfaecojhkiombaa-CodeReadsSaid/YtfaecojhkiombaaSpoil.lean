/-
  The contracts of Spoil, and the quiet ones of a reader's methods.
-/
import Derived.Test.YtfaecojhkiombaaRRead
namespace Go.Proofs.Ytfaecojhkiombaa
set_option linter.unusedVariables false
open Go.RowKit

theorem bits_xor (x : Nat) : ∃ m : Nat, bits .xor .u8 (x : Int) 85 = (m : Int) := by
  simp only [bits]
  rw [IntKind.wrap_u8]
  exact ⟨_, (Int.toNat_of_nonneg (Int.emod_nonneg _ (by decide))).symm⟩

theorem spoil_row {w : World} {B g n c : Nat} {L : List Nat} (ho : OwnB w B (.slice (some ⟨g, 0, none⟩) L.length c) L) (hn : n ≤ L.length) (hL : L.length ≤ 9223372036854775807) (k : Nat) :
    Calls Try.prog 17 #[.slice (some ⟨g, 0, none⟩) n k] w fun e w' => e = .returned (.tuple #[]) ∧ Beside (· = g) w w' := by
  have HO := Lib.hid ho
  clear ho
  go_enter Try.func17, Try.ntmps17
  go_wp2_with fail
  go_loopw [2] (fun i wr => ∃ (p : Nat) (M : List Nat), p ≤ n ∧ i = .int .i64 (p : Int) ∧ M.length = L.length ∧ OwnB wr B (.slice (some ⟨g, 0, none⟩) M.length c) M ∧ Beside (· = g) w wr) (fun i _ => ((n : Int) - intOf i).toNat)
  case atStart => exact ⟨0, L, by omega, rfl, rfl, HO.out, Beside.refl _ _⟩
  case round =>
    obtain ⟨p, M, hp, rfl, hM, hown, hbes⟩ := hrel
    by_cases hlt : p < n
    · have hpM : p < M.length := by omega
      have hcell := hown.cell rfl p hpM
      have hfree := hown.free rfl p
      have HO1 := Lib.hid hown
      have HB := Lib.hid hbes
      have HM := Lib.hid hM
      have hpi : (p : Int) < (n : Int) := by omega
      clear hown hbes hM
      generalize M[p] = x at *
      obtain ⟨m, hbx⟩ := bits_xor x
      have HS := Lib.hid (HO1.out.set rfl p m)
      go_wp2_with fail
      go_roundw
      case rel => exact ⟨p + 1, M.set p m, by omega, by go_num, by simp [HM.out], by simp only [List.length_set]; first | exact HS.out | (rw [hbx]; exact HS.out), HB.out.set _⟩
      case measure => simp [intOf]; omega
    · have hpi : ¬ (p : Int) < (n : Int) := by omega
      go_wp2_with fail
      go_end0
      exact ⟨rfl, hbes⟩

theorem spoil_nil (w : World) : Calls Try.prog 17 #[.slice none 0 0] w fun e w' => e = .returned (.tuple #[]) ∧ w = w' := by
  go_enter Try.func17, Try.ntmps17
  go_wp2_with fail
  refine wp_loop_rounds 1 ?_
  rw [rounds_succ]
  go_wp2_with fail
  go_end0
  exact ⟨rfl, rfl⟩

theorem spoil_own {w : World} {B : Nat} {v : Value} {L : List Nat} (ho : OwnB w B v L) (hL : L.length ≤ 9223372036854775807) :
    Calls Try.prog 17 #[v] w fun e w' => e = .returned (.tuple #[]) ∧ Beside (fun k => v.ownBlock = some k) w w' := by
  rcases ho.2 with ⟨rfl, h0⟩ | ⟨g, cap, cur, rfl, _⟩
  · exact (spoil_nil w).mono fun e w' ⟨h1, h2⟩ => ⟨h1, h2 ▸ Beside.refl _ _⟩
  · exact (spoil_row ho (Nat.le_refl _) hL cap).mono fun e w' ⟨h1, h2⟩ => ⟨h1, h2.mono fun k _ hk => by simp [Value.ownBlock, hk]⟩

theorem spoil_full {w : World} {B : Nat} {v : Value} {L m : List Nat} (ho : OwnF w B v L m) (hL : (L ++ m).length ≤ 9223372036854775807) :
    Calls Try.prog 17 #[v] w fun e w' => e = .returned (.tuple #[]) ∧ Beside (fun k => v.ownBlock = some k) w w' := by
  obtain ⟨g, rfl, ho, hB, hg, hm⟩ := ho
  rw [← List.length_append] at ho ⊢
  exact (spoil_row ho (by simp) hL _).mono fun e w' ⟨h1, h2⟩ => ⟨h1, h2.mono fun k _ hk => by simp [Value.ownBlock, hk]⟩

theorem end_q {w : World} {B g : Nat} {l : List Nat} {at_ err : Nat} (h : Reader w B g l at_ err) (hl : l.length ≤ 140737488351232) :
    Calls Try.prog 24 #[.pointer (some ⟨g, 0, none⟩)] w fun e w' => e = .returned (.int .i64 (endOf l.length at_ err : Nat)) ∧ ∃ n, w' = w.drewN n := by
  have hleft := left_ok h hl
  obtain ⟨ao, cap, rd, _, ha, _⟩ := h
  have c2 := rd.cell2
  by_cases he : err = 0
  · subst he
    have HL := Lib.hid hleft
    have HR := Lib.hid rd
    clear hleft rd
    go_enter Try.func24, Try.ntmps24
    go_wp2_with fail
    refine HL.out.mono ?_
    rintro e w1 ⟨rfl, n, rfl⟩
    have cc : (w.drewN n).cell? ⟨g, 2, none⟩ = some (.int .i64 0) := c2
    by_cases hat : at_ < l.length
    · have h0 : (0 : Int) < (l.length : Int) - (at_ : Int) := by omega
      go_wp2_with fail
      go_ret
      exact ⟨ret_eq (by simp [endOf, hat]), n, rfl⟩
    · have h0 : ¬ (0 : Int) < (l.length : Int) - (at_ : Int) := by omega
      go_wp2_with fail
      go_ret
      exact ⟨ret_eq (by simp [endOf, hat]), n, rfl⟩
  · have h1 : ((err : Int) == 0) = false := by simp; omega
    clear hleft rd
    go_enter Try.func24, Try.ntmps24
    go_wp2_with fail
    go_ret
    exact ⟨ret_eq (by simp [endOf, he]), 0, rfl⟩

theorem rend_q {w : World} {g at_ err cap : Nat} {ao : Option Addr} {len : Nat} (rd : RR w g (.slice ao len cap) at_ err) :
    Calls Try.prog 25 #[.pointer (some ⟨g, 0, none⟩)] w fun e w' => e = .returned (.int .i64 (endOf len at_ err : Nat)) ∧ ∃ n, w' = w.drewN n := by
  have c0 := rd.cell0
  have c1 := rd.cell1
  have c2 := rd.cell2
  clear rd
  by_cases he : err = 0
  · subst he
    by_cases hat : at_ < len
    · have h0 : decide ((at_ : Int) < (len : Int)) = true := by simp; omega
      have h1 : (at_ : Int) < (len : Int) := by omega
      go_enter Try.func25, Try.ntmps25
      go_wp2_with fail
      go_quiet (fail)
      go_wp2_with fail
      go_ret
      exact ⟨ret_eq (by simp [endOf, hat]), nq, rfl⟩
    · have h0 : decide ((at_ : Int) < (len : Int)) = false := by simp; omega
      go_enter Try.func25, Try.ntmps25
      go_wp2_with fail
      go_quiet (fail)
      go_wp2_with fail
      go_ret
      exact ⟨ret_eq (by simp [endOf, hat]), nq, rfl⟩
  · have h1 : ((err : Int) == 0) = false := by simp; omega
    go_enter Try.func25, Try.ntmps25
    go_wp2_with fail
    go_quiet (fail)
    go_wp2_with fail
    go_ret
    exact ⟨ret_eq (by simp [endOf, he]), nq, rfl⟩
end Go.Proofs.Ytfaecojhkiombaa
