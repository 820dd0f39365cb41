/-
  The contract of the reference's Number, at a length's digits.
-/
import Derived.Test.YtgafalobbhoaoaaAnn
namespace Go.Proofs.Ytgafalobbhoaoaa
set_option linter.unusedVariables false
open Go.RowKit

def numv (d : List Nat) : Nat := d.foldl (fun n c => n * 10 + (c - 48)) 0
theorem numv_snoc (l : List Nat) (c : Nat) : numv (l ++ [c]) = numv l * 10 + (c - 48) := by simp [numv, List.foldl_append]
theorem capv_numv (d : List Nat) : capv d = min (numv d) 16385 := by
  have h : ∀ (l : List Nat) (a b : Nat), a = min b 16385 → l.foldl (fun n c => min (n * 10 + (c - 48)) 16385) a = min (l.foldl (fun n c => n * 10 + (c - 48)) b) 16385 := by
    intro l
    induction l with
    | nil => intro a b h; exact h
    | cons c r ih => intro a b h; exact ih _ _ (by show min (a * 10 + (c - 48)) 16385 = min (b * 10 + (c - 48)) 16385; omega)
  exact h d 0 0 rfl
theorem numv_mono (a b : List Nat) : numv a ≤ numv (a ++ b) := by
  have h : ∀ (l : List Nat) (n : Nat), n ≤ l.foldl (fun n c => n * 10 + (c - 48)) n := by
    intro l
    induction l with
    | nil => intro n; exact Nat.le_refl _
    | cons c r ih => intro n; exact Nat.le_trans (show n ≤ n * 10 + (c - 48) by omega) (ih _)
  simp only [numv, List.foldl_append]
  exact h b _

/-- the bytes of a text, as numbers -/
def natsS (s : ByteArray) : List Nat := s.data.toList.map UInt8.toNat
theorem natsS_len (s : ByteArray) : (natsS s).length = s.size := by unfold natsS; rw [List.length_map, Array.length_toList]; rfl
theorem natsS_at (s : ByteArray) (k : Nat) (h : k < s.size) : (natsS s)[k]'(by rw [natsS_len]; exact h) = s[k].toNat := by unfold natsS; rw [List.getElem_map]; rfl
theorem natsS_take (s : ByteArray) (k : Nat) (h : k < s.size) : (natsS s).take (k + 1) = (natsS s).take k ++ [s[k].toNat] := by
  rw [List.take_succ_eq_append_getElem (by rw [natsS_len]; exact h), natsS_at s k h]

/-- what Number answers -/
def numR (n : Nat) : Value := if n ≤ 16384 then .tuple #[.int .u64 (n : Int), .bool true] else .tuple #[.int .u64 0, .bool false]
theorem numR_yes {n : Nat} (h : n ≤ 16384) : numR n = .tuple #[.int .u64 (n : Int), .bool true] := if_pos h
theorem numR_no {n : Nat} (h : ¬ n ≤ 16384) : numR n = .tuple #[.int .u64 0, .bool false] := if_neg h

set_option maxHeartbeats 2000000 in
theorem number_any (s : ByteArray) (w : World) (h0 : 0 < s.size) (h10 : s.size ≤ 10) (hz : s[0].toNat ≠ 48 ∨ s.size = 1) (hall : (natsS s).all isD = true) :
    Calls Try.prog 24 #[.string s, .int .u64 16384] w fun e w' => e = .returned (numR (numv (natsS s))) ∧ w = w' := by
  have HA := Lib.hid hall
  have hs1 : ((s.size : Int) == 0) = false := beq_false_of_ne (by omega)
  have hs2 : decide (20 < (s.size : Int)) = false := by simp; omega
  have hs0 : 0 < s.size := h0
  have hcs : (((s[0].toNat : Int) == 48) = false ∨ (((s[0].toNat : Int) == 48) = true ∧ decide (1 < (s.size : Int)) = false)) := by
    by_cases h : s[0].toNat = 48
    · right
      refine ⟨by simp [h], ?_⟩
      have : s.size = 1 := by omega
      simp [this]
    · left; exact beq_false_of_ne (by omega)
  have HCS := Lib.hid hcs
  clear hcs hall hz
  rcases HCS.out with g1 | ⟨g1, g2⟩
  all_goals
    clear HCS
    go_enter Try.func24, Try.ntmps24
    go_wp2_with fail
    go_loop [6, 7] (fun v i => ∃ k : Nat, k ≤ s.size ∧ i = .int .i64 (k : Int) ∧ v = .int .u64 ((numv ((natsS s).take k) : Nat) : Int) ∧ numv ((natsS s).take k) ≤ 16384) (fun _ i => s.size - (intOf i).toNat)
    case atStart => exact ⟨0, Nat.zero_le _, rfl, rfl, by simp [numv]⟩
    case round =>
      obtain ⟨k, hk, rfl, rfl, hle⟩ := hrel
      obtain ⟨v, hv⟩ : ∃ v, numv ((natsS s).take k) = v := ⟨_, rfl⟩
      rw [hv] at hle ⊢
      by_cases hlt : k < s.size
      · have htk := natsS_take s k hlt
        have hdig : isD (s[k].toNat) = true := by
          have := List.all_eq_true.1 HA.out (s[k].toNat) (by rw [← natsS_at s k hlt]; exact List.getElem_mem _)
          exact this
        simp only [isD, Bool.and_eq_true, decide_eq_true_eq] at hdig
        have hnx : numv ((natsS s).take (k + 1)) = v * 10 + (s[k].toNat - 48) := by rw [htk, numv_snoc, hv]
        obtain ⟨t, ht⟩ : ∃ t : Nat, s[k].toNat = t + 48 := ⟨s[k].toNat - 48, by omega⟩
        have ht9 : t ≤ 9 := by omega
        have hnx2 : numv ((natsS s).take (k + 1)) = v * 10 + t := by rw [hnx, ht]; omega
        have hd1 : decide ((s[k].toNat : Int) < 48) = false := by simp; omega
        have hd2 : decide (57 < (s[k].toNat : Int)) = false := by simp; omega
        have hti : (s[k].toNat : Int) - 48 = (t : Int) := by omega
        have HNX := Lib.hid hnx2
        by_cases hov : 16384 < v * 10 + t
        · have hbig : ¬ numv (natsS s) ≤ 16384 := by
            have := numv_mono ((natsS s).take (k + 1)) ((natsS s).drop (k + 1))
            rw [List.take_append_drop] at this
            omega
          have HBIG := Lib.hid hbig
          have hcase : (decide (1638 < (v : Int)) = true ∨ (decide (1638 < (v : Int)) = false ∧ ((v : Int) == 1638) = true ∧ decide (4 < (t : Int)) = true)) := by
            by_cases h : 1638 < v
            · left; simp; omega
            · right; refine ⟨by simp; omega, by simp; omega, by simp; omega⟩
          have HCC := Lib.hid hcase
          clear hcase hnx hnx2 htk hdig ht hv hbig hov
          rcases HCC.out with e1 | ⟨e1, e2, e3⟩
          all_goals
            clear HCC
            go_wp2_with fail
            exact bodyPost_ret (v := .tuple #[.int .u64 0, .bool false]) (by simp [results, Try.results24, go_sem]) rfl ⟨by rw [numR_no HBIG.out], rfl⟩
        · have hcase : (decide (1638 < (v : Int)) = false ∧ ((v : Int) == 1638) = false) ∨ (decide (1638 < (v : Int)) = false ∧ ((v : Int) == 1638) = true ∧ decide (4 < (t : Int)) = false) := by
            by_cases h : v = 1638
            · right; refine ⟨by simp; omega, by simp; omega, by simp; omega⟩
            · left; refine ⟨by simp; omega, by simp; omega⟩
          have HCC := Lib.hid hcase
          clear hcase hnx hnx2 htk hdig ht hv
          rcases HCC.out with ⟨e1, e2⟩ | ⟨e1, e2, e3⟩
          all_goals
            clear HCC
            go_wp2_with fail
            go_round
            case rel => exact ⟨k + 1, by omega, by go_num, congrArg (Value.int .u64) (by rw [HNX.out]; omega), by rw [HNX.out]; omega⟩
            case measure => simp [intOf]; omega
      · have hks : k = s.size := by omega
        have hfull : numv (natsS s) = v := by rw [← hv, hks, ← natsS_len, List.take_length]
        have HF := Lib.hid hfull
        clear hfull hks hv
        go_wp2_with fail
        exact bodyPost_ret (v := .tuple #[.int .u64 (v : Int), .bool true]) (by simp [results, Try.results24, go_sem]) rfl ⟨by rw [HF.out, numR_yes hle], rfl⟩
end Go.Proofs.Ytgafalobbhoaoaa
