/-
  A token is right; Quote.
-/
import Derived.Test.YtghibofnfjnfcaaGreatDoorRepH
import Derived.Lib.IndexLaws
namespace Go.Proofs.YtghibofnfjnfcaaGreatDoor
set_option linter.unusedVariables false
open Go.RowKit

set_option maxRecDepth 100000 in
set_option maxHeartbeats 1000000 in
theorem quotable_any (T : List Nat) (hT : ∀ c ∈ T, c < 256) (hn : T.length ≤ 140737488351232) (w : World) : Calls Tryz.prog 26 #[.string (strN T)] w fun e w' => e = .returned (.bool (quoL T)) ∧ w' = w := by
  obtain ⟨s, hS⟩ : ∃ s, s = strN T := ⟨_, rfl⟩
  obtain ⟨n, hN⟩ : ∃ n, T.length = n := ⟨_, rfl⟩
  have hsz : s.size = n := by subst hS hN; exact strN_size T
  have HAT : Hid (∀ (k : Nat) (h : k < s.size) (h2 : k < T.length), s[k].toNat = T[k]) := Lib.hid (by subst hS; exact fun k h h2 => strN_at hT k h)
  have HN := Lib.hid hN
  have HT := Lib.hid hT
  have HEM : Hid (s.toList.isEmpty = T.isEmpty) := Lib.hid (by rw [hS, strN_toList]; cases T <;> rfl)
  have HS := Lib.hid hS
  rw [← hS]
  clear hS hN hT
  go_enter Tryz.func26, Tryz.ntmps26
  go_wp2_with fail
  go_loopw [6] (fun i wr => ∃ k : Nat, i = .int .i64 k ∧ k ≤ n ∧ wr = w ∧ ∀ j (h : j < T.length), j < k → inQuoN T[j] = true) (fun i _ => n - (intOf i).toNat)
  case atStart => exact ⟨0, rfl, by omega, rfl, fun j h g => by omega⟩
  case round =>
    obtain ⟨k, rfl, hk, rfl, hall⟩ := hrel
    have HA := Lib.hid hall
    clear hall
    by_cases hkn : k < n
    · have hkz : (k : Int) < (n : Int) := by omega
      have hkl : k < T.length := by rw [HN.out]; exact hkn
      have hks : k < s.size := by omega
      obtain ⟨c, hc⟩ : ∃ c, s[k].toNat = c := ⟨_, rfl⟩
      have hlc : T[k] = c := by rw [← hc]; exact (HAT.out k hks hkl).symm
      have hc2 : c < 256 := by rw [← hc]; exact (s[k]).toNat_lt
      cases hv : inQuoN c with
      | true =>
        have HV := Lib.hid (inQuo_any c hc2)
        rw [hv] at HV
        have HA2 : Hid (∀ j (h : j < T.length), j < k + 1 → inQuoN T[j] = true) := Lib.hid (fun j h g => by
          by_cases e : j = k
          · subst e; rw [hlc]; exact hv
          · exact HA.out j h (by omega))
        clear hlc hv
        go_wp2_with fail
        refine (HV.out _).mono ?_
        rintro e w2 ⟨rfl, rfl⟩
        go_wp2_with fail
        go_roundw
        case rel => exact ⟨k + 1, by simp, by omega, by first | rfl | trivial, HA2.out⟩
        case measure => simp [RowKit.intOf]; omega
      | false =>
        have HV := Lib.hid (inQuo_any c hc2)
        rw [hv] at HV
        have HF : Hid (quoL T = false) := Lib.hid (by
          have h1 : T.all inQuoN = false := by
            rw [← Bool.not_eq_true]
            intro ha
            have := List.all_eq_true.1 ha _ (List.getElem_mem hkl)
            rw [hlc, hv] at this
            cases this
          unfold quoL; rw [h1]; (try rfl))
        clear hlc hv
        go_wp2_with fail
        refine (HV.out _).mono ?_
        rintro e w2 ⟨rfl, rfl⟩
        go_wp2_with fail
        go_ret
        exact ⟨by rw [HF.out]; (try first | rfl | simp), rfl⟩
    · have hkz : ¬ ((k : Int) < (n : Int)) := by omega
      have hall : T.all inQuoN = true := List.all_eq_true.2 fun c hc => by
        obtain ⟨j, hj, rfl⟩ := List.mem_iff_getElem.1 hc
        exact HA.out j hj (by have := HN.out; omega)
      have HALL := Lib.hid hall
      clear hall
      go_wp2_with fail
      go_ret
      exact ⟨by unfold quoL; rw [HALL.out]; (try first | rfl | simp), rfl⟩

set_option maxRecDepth 100000 in
set_option maxHeartbeats 1000000 in
theorem atomic_any (T : List Nat) (hT : ∀ c ∈ T, c < 256) (hn : T.length ≤ 140737488351232) (w : World) : Calls Tryz.prog 11 #[.string (strN T)] w fun e w' => e = .returned (.bool (atomL T)) ∧ w' = w := by
  obtain ⟨s, hS⟩ : ∃ s, s = strN T := ⟨_, rfl⟩
  obtain ⟨n, hN⟩ : ∃ n, T.length = n := ⟨_, rfl⟩
  have hsz : s.size = n := by subst hS hN; exact strN_size T
  have HAT : Hid (∀ (k : Nat) (h : k < s.size) (h2 : k < T.length), s[k].toNat = T[k]) := Lib.hid (by subst hS; exact fun k h h2 => strN_at hT k h)
  have HN := Lib.hid hN
  have HT := Lib.hid hT
  have HEM : Hid (s.toList.isEmpty = T.isEmpty) := Lib.hid (by rw [hS, strN_toList]; cases T <;> rfl)
  have HS := Lib.hid hS
  rw [← hS]
  clear hS hN hT
  go_enter Tryz.func11, Tryz.ntmps11
  go_wp2_with fail
  go_loopw [6] (fun i wr => ∃ k : Nat, i = .int .i64 k ∧ k ≤ n ∧ wr = w ∧ ∀ j (h : j < T.length), j < k → inAtomN T[j] = true) (fun i _ => n - (intOf i).toNat)
  case atStart => exact ⟨0, rfl, by omega, rfl, fun j h g => by omega⟩
  case round =>
    obtain ⟨k, rfl, hk, rfl, hall⟩ := hrel
    have HA := Lib.hid hall
    clear hall
    by_cases hkn : k < n
    · have hkz : (k : Int) < (n : Int) := by omega
      have hkl : k < T.length := by rw [HN.out]; exact hkn
      have hks : k < s.size := by omega
      obtain ⟨c, hc⟩ : ∃ c, s[k].toNat = c := ⟨_, rfl⟩
      have hlc : T[k] = c := by rw [← hc]; exact (HAT.out k hks hkl).symm
      have hc2 : c < 256 := by rw [← hc]; exact (s[k]).toNat_lt
      cases hv : inAtomN c with
      | true =>
        have HV := Lib.hid (inAtom_any c hc2)
        rw [hv] at HV
        have HA2 : Hid (∀ j (h : j < T.length), j < k + 1 → inAtomN T[j] = true) := Lib.hid (fun j h g => by
          by_cases e : j = k
          · subst e; rw [hlc]; exact hv
          · exact HA.out j h (by omega))
        clear hlc hv
        go_wp2_with fail
        refine (HV.out _).mono ?_
        rintro e w2 ⟨rfl, rfl⟩
        go_wp2_with fail
        go_roundw
        case rel => exact ⟨k + 1, by simp, by omega, by first | rfl | trivial, HA2.out⟩
        case measure => simp [RowKit.intOf]; omega
      | false =>
        have HV := Lib.hid (inAtom_any c hc2)
        rw [hv] at HV
        have HF : Hid (atomL T = false) := Lib.hid (by
          have h1 : T.all inAtomN = false := by
            rw [← Bool.not_eq_true]
            intro ha
            have := List.all_eq_true.1 ha _ (List.getElem_mem hkl)
            rw [hlc, hv] at this
            cases this
          unfold atomL; rw [h1]; (try rfl))
        clear hlc hv
        go_wp2_with fail
        refine (HV.out _).mono ?_
        rintro e w2 ⟨rfl, rfl⟩
        go_wp2_with fail
        go_ret
        exact ⟨by rw [HF.out]; (try first | rfl | simp), rfl⟩
    · have hkz : ¬ ((k : Int) < (n : Int)) := by omega
      have hall : T.all inAtomN = true := List.all_eq_true.2 fun c hc => by
        obtain ⟨j, hj, rfl⟩ := List.mem_iff_getElem.1 hc
        exact HA.out j hj (by have := HN.out; omega)
      have HALL := Lib.hid hall
      clear hall
      have he := HEM.out
      have HF : Hid (atomL T = !T.isEmpty) := Lib.hid (by unfold atomL; rw [HALL.out]; rfl)
      generalize T.isEmpty = b at *
      cases b
      · go_wp2_with fail
        go_ret
        exact ⟨by rw [HF.out]; (try first | rfl | simp), rfl⟩
      · go_wp2_with fail
        go_ret
        exact ⟨by rw [HF.out]; (try first | rfl | simp), rfl⟩

/-- a token as it came: its kind may be any number -/
abbrev TkI := Int × List Nat
def kdN (z : Int) : Nat := if 1 ≤ z ∧ z ≤ 8 then z.toNat else 0
def nrm (t : TkI) : Tk := (kdN t.1, t.2)
theorem kdN_eq {z : Int} {k : Nat} (h : kdN z = k) (hk : k ≠ 0) : z = k := by
  unfold kdN at h
  split at h <;> omega
theorem kdN_nat {k : Nat} (h1 : 1 ≤ k) (h2 : k ≤ 8) : kdN (k : Int) = k := by unfold kdN; rw [if_pos (by omega)]; omega
theorem nul_none {T : List Nat} (hT : ∀ c ∈ T, c < 256) : decide (Lib.indexByte (strN T).data.toList 0 < 0) = T.all (· != 0) := by
  have hm : ∀ k : Nat, (strN T).data.toList[k]? = (T.map UInt8.ofNat)[k]? := fun k => by simp [strN]
  by_cases h : Lib.indexByte (strN T).data.toList 0 < 0
  · rw [decide_eq_true h]
    have h1 : Lib.indexByte (strN T).data.toList 0 = -1 := by have := Lib.indexByte_ge (strN T).data.toList 0; omega
    refine (List.all_eq_true.2 fun c hc => ?_).symm
    obtain ⟨j, hj, rfl⟩ := List.mem_iff_getElem.1 hc
    have := Lib.indexByte_none h1 j
    rw [hm] at this
    simp only [bne_iff_ne, ne_eq]
    intro e
    apply this
    simp [hj, e]
  · rw [decide_eq_false h]
    obtain ⟨o, ho⟩ : ∃ o : Nat, Lib.indexByte (strN T).data.toList 0 = o := ⟨(Lib.indexByte (strN T).data.toList 0).toNat, by omega⟩
    have h2 := (Lib.indexByte_some ho).1
    rw [hm, List.getElem?_map] at h2
    obtain ⟨c, hc, h0⟩ := Option.map_eq_some_iff.1 h2
    have hmem := List.mem_of_getElem? hc
    have hc2 := hT c hmem
    have : c = 0 := by
      have := congrArg UInt8.toNat h0
      simp only [UInt8.toNat_ofNat'] at this
      have h00 : (0 : UInt8).toNat = 0 := rfl
      omega
    subst this
    symm
    rw [← Bool.not_eq_true]
    intro ha
    have := List.all_eq_true.1 ha 0 hmem
    simp at this

set_option maxRecDepth 100000 in
set_option maxHeartbeats 4000000 in
theorem right_any (z : Int) (T : List Nat) (hT : ∀ c ∈ T, c < 256) (hn : T.length ≤ 140737488351232) (w : World) :
    Calls Tryz.prog 18 #[.agg #[.int .i64 z, .string (strN T)]] w fun e w' => e = .returned (.bool (rightT (nrm (z, T)))) ∧ Below w.heap.size w w' := by
  have HA := Lib.hid (fun W => atomic_any T hT hn W)
  have HQ := Lib.hid (fun W => quotable_any T hT hn W)
  have HI := Lib.hid (fun W => Tryz.strings_IndexByte (strN T) 0 W)
  have HNUL := Lib.hid (nul_none hT)
  have hem : (strN T).toList.isEmpty = T.isEmpty := by rw [strN_toList]; cases T <;> rfl
  have hsz : (strN T).size = T.length := strN_size T
  clear hT
  by_cases h1 : z = 1
  · subst h1
    have HR : Hid (rightT (nrm (1, T)) = atomL T) := Lib.hid rfl
    go_enter Tryz.func18, Tryz.ntmps18
    go_wp2_with (go_at_call 11; refine (HA.out _).mono ?_; rintro e w2 ⟨rfl, rfl⟩)
    go_ret
    exact ⟨by rw [HR.out]; (try first | rfl | simp), (Below.refl _ _).alloc (Nat.le_refl _) _⟩
  by_cases h2 : z = 2
  · subst h2
    have HR : Hid (rightT (nrm (2, T)) = quoL T) := Lib.hid rfl
    clear h1
    go_enter Tryz.func18, Tryz.ntmps18
    go_wp2_with (go_at_call 26; refine (HQ.out _).mono ?_; rintro e w2 ⟨rfl, rfl⟩)
    go_ret
    exact ⟨by rw [HR.out]; (try first | rfl | simp), (Below.refl _ _).alloc (Nat.le_refl _) _⟩
  by_cases h3 : z = 3
  · subst h3
    have HR : Hid (rightT (nrm (3, T)) = litL T) := Lib.hid rfl
    clear h1 h2
    by_cases hl : T.length ≤ 16384
    · have HL : Hid (litL T = decide (Lib.indexByte (strN T).data.toList 0 < 0)) := Lib.hid (by unfold litL; rw [decide_eq_true hl, HNUL.out]; rfl)
      have hlz : (T.length : Int) ≤ 16384 := by omega
      clear hl
      go_enter Tryz.func18, Tryz.ntmps18
      go_wp2_with (go_at_call 31; refine (HI.out _).mono ?_; rintro e w2 ⟨rfl, rfl⟩)
      go_ret
      exact ⟨by rw [HR.out, HL.out]; rfl, (Below.refl _ _).alloc (Nat.le_refl _) _⟩
    · have HL : Hid (litL T = false) := Lib.hid (by unfold litL; rw [decide_eq_false hl]; rfl)
      have hlz : ¬ (T.length : Int) ≤ 16384 := by omega
      clear hl
      go_enter Tryz.func18, Tryz.ntmps18
      go_wp2_with fail
      go_ret
      exact ⟨by rw [HR.out, HL.out]; rfl, (Below.refl _ _).alloc (Nat.le_refl _) _⟩
  by_cases h48 : 4 ≤ z ∧ z ≤ 8
  · have HR : Hid (rightT (nrm (z, T)) = T.isEmpty) := Lib.hid (by
      have : z = 4 ∨ z = 5 ∨ z = 6 ∨ z = 7 ∨ z = 8 := by omega
      rcases this with rfl | rfl | rfl | rfl | rfl <;> rfl)
    have hz : z = 4 ∨ z = 5 ∨ z = 6 ∨ z = 7 ∨ z = 8 := by omega
    clear h1 h2 h3 h48
    rcases hz with rfl | rfl | rfl | rfl | rfl
    all_goals
      go_enter Tryz.func18, Tryz.ntmps18
      go_wp2_with fail
      go_ret
      exact ⟨by rw [HR.out]; (try first | rfl | simp), (Below.refl _ _).alloc (Nat.le_refl _) _⟩
  · have HR : Hid (rightT (nrm (z, T)) = false) := Lib.hid (by
      have : kdN z = 0 := by unfold kdN; rw [if_neg (by omega)]
      unfold nrm
      simp only [this]
      rfl)
    have h4 : ¬ z = 4 := by omega
    have h5 : ¬ z = 5 := by omega
    have h6 : ¬ z = 6 := by omega
    have h7 : ¬ z = 7 := by omega
    have h8 : ¬ z = 8 := by omega
    clear h48
    go_enter Tryz.func18, Tryz.ntmps18
    go_wp2_with fail
    go_ret
    exact ⟨by rw [HR.out]; (try first | rfl | simp), (Below.refl _ _).alloc (Nat.le_refl _) _⟩
end Go.Proofs.YtghibofnfjnfcaaGreatDoor
