/-
  The reference's tests of a text; its Quote; the sign of a kind.
-/
import Derived.Test.YtghibofnfjnfcaaGreatDoorRefA
namespace Go.Proofs.YtghibofnfjnfcaaGreatDoor
set_option linter.unusedVariables false
open Go.RowKit
theorem inQuo_is {c : Nat} : inQuoN c = true ↔ c ≠ 0 ∧ c ≤ 127 ∧ c ≠ 13 ∧ c ≠ 10 := by
  unfold inQuoN
  simp
  omega
def nz (c : Nat) : Bool := c != 0

set_option maxRecDepth 100000 in
set_option maxHeartbeats 1000000 in
theorem ratomic_any (T : List Nat) (hT : ∀ c ∈ T, c < 256) (hn : T.length ≤ 140737488351232) (w : World) : Calls Tryz.prog 12 #[.string (strN T)] w fun e w' => e = .returned (.bool (atomL T)) ∧ w' = w := by
  obtain ⟨s, hS⟩ : ∃ s, s = strN T := ⟨_, rfl⟩
  obtain ⟨n, hN⟩ : ∃ n, T.length = n := ⟨_, rfl⟩
  have hsz : s.size = n := by subst hS hN; exact strN_size T
  have HAT : Hid (∀ (k : Nat) (h : k < s.size) (h2 : k < T.length), s[k].toNat = T[k]) := Lib.hid (by subst hS; exact fun k h h2 => strN_at hT k h)
  have HN := Lib.hid hN
  have HT := Lib.hid hT
  rw [← hS]
  clear hS hN hT
  go_enter Tryz.func12, Tryz.ntmps12
  go_wp2_with fail
  go_loopw [3] (fun i wr => ∃ k : Nat, i = .int .i64 k ∧ k ≤ n ∧ wr = w ∧ ∀ j (h : j < T.length), j < k → inAtomN T[j] = true) (fun i _ => n - (RowKit.intOf i).toNat)
  case atStart => exact ⟨0, rfl, by omega, rfl, fun j h g => by omega⟩
  case round =>
    obtain ⟨k, rfl, hk, rfl, hall⟩ := hrel
    have HA := Lib.hid hall
    clear hall
    by_cases hkn : k < n
    · have hkz : (k : Int) < (n : Int) := by omega
      have hkl : k < T.length := by rw [HN.out]; exact hkn
      have hks : k < s.size := by omega
      obtain ⟨c, hc⟩ : ∃ c, s[k].toNat = c := ⟨_, rfl⟩
      have hlc : T[k] = c := by rw [← hc]; exact (HAT.out k hks hkl).symm
      have hc2 : c < 256 := by rw [← hc]; exact (s[k]).toNat_lt
      cases hv : inAtomN c with
      | true =>
        have HA2 : Hid (∀ j (h : j < T.length), j < k + 1 → inAtomN T[j] = true) := Lib.hid (fun j h g => by
          by_cases e : j = k
          · subst e; rw [hlc]; exact hv
          · exact HA.out j h (by omega))
        have HV := Lib.hid (ratom_any c hc2)
        rw [hv] at HV
        clear hlc hv
        go_wp2_with fail
        refine (HV.out _).mono ?_
        rintro e w2 ⟨rfl, rfl⟩
        go_wp2_with fail
        go_roundw
        case rel => exact ⟨k + 1, by go_num, by omega, by first | rfl | trivial, HA2.out⟩
        case measure => simp [RowKit.intOf]; omega
      | false =>
        have HF : Hid (atomL T = false) := Lib.hid (by
          have h1 : T.all inAtomN = false := by
            rw [← Bool.not_eq_true]
            intro ha
            have := List.all_eq_true.1 ha _ (List.getElem_mem hkl)
            rw [hlc, hv] at this
            cases this
          unfold atomL; rw [h1]; (try rfl); (try simp))
        have HV := Lib.hid (ratom_any c hc2)
        rw [hv] at HV
        clear hlc hv
        go_wp2_with fail
        refine (HV.out _).mono ?_
        rintro e w2 ⟨rfl, rfl⟩
        go_wp2_with fail
        go_ret
        exact ⟨by rw [HF.out]; (try first | rfl | simp), rfl⟩
    · have hkz : ¬ ((k : Int) < (n : Int)) := by omega
      have hall : T.all inAtomN = true := List.all_eq_true.2 fun c hc => by
        obtain ⟨j, hj, rfl⟩ := List.mem_iff_getElem.1 hc
        exact HA.out j hj (by have := HN.out; omega)
      have HALL := Lib.hid hall
      clear hall
      by_cases h0 : n = 0
      · have HF : Hid (atomL T = false) := Lib.hid (by
          have : T = [] := List.eq_nil_of_length_eq_zero (by have := HN.out; omega)
          subst this; rfl)
        obtain rfl : n = 0 := h0
        go_wp2_with fail
        go_ret
        exact ⟨by rw [HF.out]; (try first | rfl | simp | (simp; omega)), rfl⟩
      · have HF : Hid (atomL T = true) := Lib.hid (by
          unfold atomL; rw [HALL.out]
          cases hT : T with
          | nil => exact absurd (by have := HN.out; rw [hT] at this; exact this.symm) h0
          | cons a r => rfl)
        obtain ⟨m, hm⟩ : ∃ m, n = m + 1 := ⟨n - 1, by omega⟩
        have hdec : decide ((0 : Int) < (n : Int)) = true := decide_eq_true (by omega)
        clear h0
        go_wp2_with fail
        go_ret
        exact ⟨by rw [HF.out]; exact ret_eq (congrArg Value.bool (by first | rfl | exact hdec | (simp; omega))), rfl⟩

set_option maxRecDepth 100000 in
set_option maxHeartbeats 1000000 in
theorem rquotable_any (T : List Nat) (hT : ∀ c ∈ T, c < 256) (hn : T.length ≤ 140737488351232) (w : World) : Calls Tryz.prog 20 #[.string (strN T)] w fun e w' => e = .returned (.bool (quoL T)) ∧ w' = w := by
  obtain ⟨s, hS⟩ : ∃ s, s = strN T := ⟨_, rfl⟩
  obtain ⟨n, hN⟩ : ∃ n, T.length = n := ⟨_, rfl⟩
  have hsz : s.size = n := by subst hS hN; exact strN_size T
  have HAT : Hid (∀ (k : Nat) (h : k < s.size) (h2 : k < T.length), s[k].toNat = T[k]) := Lib.hid (by subst hS; exact fun k h h2 => strN_at hT k h)
  have HN := Lib.hid hN
  have HT := Lib.hid hT
  rw [← hS]
  clear hS hN hT
  go_enter Tryz.func20, Tryz.ntmps20
  go_wp2_with fail
  go_loopw [3] (fun i wr => ∃ k : Nat, i = .int .i64 k ∧ k ≤ n ∧ wr = w ∧ ∀ j (h : j < T.length), j < k → inQuoN T[j] = true) (fun i _ => n - (RowKit.intOf i).toNat)
  case atStart => exact ⟨0, rfl, by omega, rfl, fun j h g => by omega⟩
  case round =>
    obtain ⟨k, rfl, hk, rfl, hall⟩ := hrel
    have HA := Lib.hid hall
    clear hall
    by_cases hkn : k < n
    · have hkz : (k : Int) < (n : Int) := by omega
      have hkl : k < T.length := by rw [HN.out]; exact hkn
      have hks : k < s.size := by omega
      obtain ⟨c, hc⟩ : ∃ c, s[k].toNat = c := ⟨_, rfl⟩
      have hlc : T[k] = c := by rw [← hc]; exact (HAT.out k hks hkl).symm
      have hc2 : c < 256 := by rw [← hc]; exact (s[k]).toNat_lt
      cases hv : inQuoN c with
      | true =>
        have HA2 : Hid (∀ j (h : j < T.length), j < k + 1 → inQuoN T[j] = true) := Lib.hid (fun j h g => by
          by_cases e : j = k
          · subst e; rw [hlc]; exact hv
          · exact HA.out j h (by omega))
        have hq := inQuo_is.1 hv
        have g1 : ((c : Int) == 0) = false := beq_false_of_ne (by omega)
        have g2 : ¬ (127 : Int) < (c : Int) := by omega
        have g3 : ((c : Int) == 13) = false := beq_false_of_ne (by omega)
        have g4 : ((c : Int) == 10) = false := beq_false_of_ne (by omega)
        have n1 : ¬ c = 0 := by omega
        have n3 : ¬ c = 13 := by omega
        have n4 : ¬ c = 10 := by omega
        clear hlc hv hq
        go_wp2_with fail
        go_roundw
        case rel => exact ⟨k + 1, by go_num, by omega, by first | rfl | trivial, HA2.out⟩
        case measure => simp [RowKit.intOf]; omega
      | false =>
        have HF : Hid (quoL T = false) := Lib.hid (by
          have h1 : T.all inQuoN = false := by
            rw [← Bool.not_eq_true]
            intro ha
            have := List.all_eq_true.1 ha _ (List.getElem_mem hkl)
            rw [hlc, hv] at this
            cases this
          unfold quoL; rw [h1]; (try rfl); (try simp))
        have hq : c = 0 ∨ 127 < c ∨ c = 13 ∨ c = 10 := by
          by_cases h : c ≠ 0 ∧ c ≤ 127 ∧ c ≠ 13 ∧ c ≠ 10
          · rw [inQuo_is.2 h] at hv; cases hv
          · omega
        clear hlc hv
        by_cases h1 : c = 0
        · subst h1
          clear hq
          go_wp2_with fail
          go_ret
          exact ⟨by rw [HF.out]; (try first | rfl | simp), rfl⟩
        by_cases h2 : 127 < c
        · have g1 : ((c : Int) == 0) = false := beq_false_of_ne (by omega)
          have g2 : (127 : Int) < (c : Int) := by omega
          have n1 : ¬ c = 0 := by omega
          clear hq h1 h2
          go_wp2_with fail
          go_ret
          exact ⟨by rw [HF.out]; (try first | rfl | simp), rfl⟩
        by_cases h3 : c = 13
        · subst h3
          clear hq h1 h2
          go_wp2_with fail
          go_ret
          exact ⟨by rw [HF.out]; (try first | rfl | simp), rfl⟩
        · obtain rfl : c = 10 := by omega
          clear hq h1 h2 h3
          go_wp2_with fail
          go_ret
          exact ⟨by rw [HF.out]; (try first | rfl | simp), rfl⟩
    · have hkz : ¬ ((k : Int) < (n : Int)) := by omega
      have hall : T.all inQuoN = true := List.all_eq_true.2 fun c hc => by
        obtain ⟨j, hj, rfl⟩ := List.mem_iff_getElem.1 hc
        exact HA.out j hj (by have := HN.out; omega)
      have HALL := Lib.hid hall
      clear hall
      go_wp2_with fail
      go_ret
      exact ⟨by unfold quoL; rw [HALL.out]; (try first | rfl | simp), rfl⟩

set_option maxRecDepth 100000 in
set_option maxHeartbeats 1000000 in
theorem rliteral_any (T : List Nat) (hT : ∀ c ∈ T, c < 256) (hn : T.length ≤ 140737488351232) (w : World) : Calls Tryz.prog 21 #[.string (strN T)] w fun e w' => e = .returned (.bool (litL T)) ∧ w' = w := by
  obtain ⟨s, hS⟩ : ∃ s, s = strN T := ⟨_, rfl⟩
  obtain ⟨n, hN⟩ : ∃ n, T.length = n := ⟨_, rfl⟩
  have hsz : s.size = n := by subst hS hN; exact strN_size T
  have HAT : Hid (∀ (k : Nat) (h : k < s.size) (h2 : k < T.length), s[k].toNat = T[k]) := Lib.hid (by subst hS; exact fun k h h2 => strN_at hT k h)
  have HN := Lib.hid hN
  have HT := Lib.hid hT
  rw [← hS]
  clear hS hN hT
  go_enter Tryz.func21, Tryz.ntmps21
  go_wp2_with fail
  go_loopw [3] (fun i wr => ∃ k : Nat, i = .int .i64 k ∧ k ≤ n ∧ wr = w ∧ ∀ j (h : j < T.length), j < k → nz T[j] = true) (fun i _ => n - (RowKit.intOf i).toNat)
  case atStart => exact ⟨0, rfl, by omega, rfl, fun j h g => by omega⟩
  case round =>
    obtain ⟨k, rfl, hk, rfl, hall⟩ := hrel
    have HA := Lib.hid hall
    clear hall
    by_cases hkn : k < n
    · have hkz : (k : Int) < (n : Int) := by omega
      have hkl : k < T.length := by rw [HN.out]; exact hkn
      have hks : k < s.size := by omega
      obtain ⟨c, hc⟩ : ∃ c, s[k].toNat = c := ⟨_, rfl⟩
      have hlc : T[k] = c := by rw [← hc]; exact (HAT.out k hks hkl).symm
      have hc2 : c < 256 := by rw [← hc]; exact (s[k]).toNat_lt
      cases hv : nz c with
      | true =>
        have HA2 : Hid (∀ j (h : j < T.length), j < k + 1 → nz T[j] = true) := Lib.hid (fun j h g => by
          by_cases e : j = k
          · subst e; rw [hlc]; exact hv
          · exact HA.out j h (by omega))
        have g1 : ¬ (c : Int) = 0 := by unfold nz at hv; simp at hv; omega
        clear hlc hv
        go_wp2_with fail
        go_roundw
        case rel => exact ⟨k + 1, by go_num, by omega, by first | rfl | trivial, HA2.out⟩
        case measure => simp [RowKit.intOf]; omega
      | false =>
        have HF : Hid (litL T = false) := Lib.hid (by
          have h1 : T.all (· != 0) = false := by
            rw [← Bool.not_eq_true]
            intro ha
            have := List.all_eq_true.1 ha _ (List.getElem_mem hkl)
            rw [hlc] at this
            unfold nz at hv
            rw [hv] at this
            cases this
          unfold litL; rw [h1]; simp)
        obtain rfl : c = 0 := by unfold nz at hv; simpa using hv
        clear hlc hv
        go_wp2_with fail
        go_ret
        exact ⟨by rw [HF.out]; (try first | rfl | simp), rfl⟩
    · have hkz : ¬ ((k : Int) < (n : Int)) := by omega
      have hall : T.all nz = true := List.all_eq_true.2 fun c hc => by
        obtain ⟨j, hj, rfl⟩ := List.mem_iff_getElem.1 hc
        exact HA.out j hj (by have := HN.out; omega)
      have HALL := Lib.hid hall
      clear hall
      have HL : Hid (litL T = decide (n ≤ 16384)) := Lib.hid (by unfold litL; rw [show T.all (· != 0) = true from HALL.out, HN.out]; simp)
      by_cases h1 : n ≤ 16384
      · have g1 : (n : Int) ≤ 16384 := by omega
        have HF : Hid (litL T = true) := Lib.hid (by rw [HL.out]; exact decide_eq_true h1)
        clear h1
        go_wp2_with fail
        go_ret
        exact ⟨by rw [HF.out]; (try first | rfl | simp), rfl⟩
      · have g1 : ¬ (n : Int) ≤ 16384 := by omega
        have HF : Hid (litL T = false) := Lib.hid (by rw [HL.out]; exact decide_eq_false h1)
        clear h1
        go_wp2_with fail
        go_ret
        exact ⟨by rw [HF.out]; (try first | rfl | simp), rfl⟩

theorem rquote_any (T : List Nat) (hT : ∀ c ∈ T, c < 256) (hn : T.length ≤ 140737488351232) (w : World) :
    Calls Tryz.prog 14 #[.string (strN T)] w fun e w' => e = .returned (.agg #[.int .i64 (if quoL T then 2 else 3), .string (strN T)]) ∧ Below w.heap.size w w' := by
  have HQ := Lib.hid (fun W => rquotable_any T hT hn W)
  clear hT
  cases hq : quoL T with
  | true =>
    rw [hq] at HQ
    clear hq
    go_enter Tryz.func14, Tryz.ntmps14
    go_wp2_with (go_at_call 20; refine (HQ.out _).mono ?_; rintro e w2 ⟨rfl, rfl⟩)
    refine bodyPost_ret (v := .agg #[.int .i64 2, .string (strN T)]) (by simp [results, Tryz.results14, go_sem]) rfl ?_
    exact ⟨by first | rfl | simp, (Below.refl _ _).alloc (Nat.le_refl _) _⟩
  | false =>
    rw [hq] at HQ
    clear hq
    go_enter Tryz.func14, Tryz.ntmps14
    go_wp2_with (go_at_call 20; refine (HQ.out _).mono ?_; rintro e w2 ⟨rfl, rfl⟩)
    refine bodyPost_ret (v := .agg #[.int .i64 3, .string (strN T)]) (by simp [results, Tryz.results14, go_sem]) rfl ?_
    exact ⟨by first | rfl | simp, (Below.refl _ _).alloc (Nat.le_refl _) _⟩
def signN (k : Nat) : Nat := if k = 4 then 40 else if k = 5 then 41 else if k = 7 then 91 else if k = 8 then 93 else 32
theorem rsign_any (k : Nat) (hk : 4 ≤ k ∧ k ≤ 8) (w : World) : Calls Tryz.prog 23 #[.int .i64 (k : Nat)] w fun e w' => e = .returned (.int .u8 (signN k : Nat)) ∧ w' = w := by
  have : k = 4 ∨ k = 5 ∨ k = 6 ∨ k = 7 ∨ k = 8 := by omega
  clear hk
  rcases this with rfl | rfl | rfl | rfl | rfl
  all_goals
    go_enter Tryz.func23, Tryz.ntmps23
    go_wp2_with fail
    go_ret
    exact ⟨rfl, rfl⟩
end Go.Proofs.YtghibofnfjnfcaaGreatDoor
