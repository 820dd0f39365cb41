/-
  The contracts of the reference's small functions.
-/
import Derived.Test.YtghibofnfjnfcaaDoorSign
import Derived.Test.YtghibofnfjnfcaaDoorCntP
import Derived.Test.YtghibofnfjnfcaaDoorLexM
namespace Go.Proofs.YtghibofnfjnfcaaDoor
set_option linter.unusedVariables false
open Go.RowKit

set_option maxRecDepth 100000 in
set_option maxHeartbeats 1000000 in
theorem alone_any (c : Nat) (hc : c < 256) (w : World) : Calls Tryd.prog 15 #[.int .u8 (c : Int)] w fun e w' => e = .returned (.int .i64 (singleN c : Nat)) ∧ w = w' := by
  by_cases h1 : c = 40
  · subst h1
    go_enter Tryd.func15, Tryd.ntmps15
    go_wp2_with fail
    go_ret
    exact ⟨rfl, rfl⟩
  by_cases h2 : c = 41
  · subst h2
    go_enter Tryd.func15, Tryd.ntmps15
    go_wp2_with fail
    go_ret
    exact ⟨rfl, rfl⟩
  by_cases h3 : c = 91
  · subst h3
    go_enter Tryd.func15, Tryd.ntmps15
    go_wp2_with fail
    go_ret
    exact ⟨rfl, rfl⟩
  by_cases h4 : c = 93
  · subst h4
    go_enter Tryd.func15, Tryd.ntmps15
    go_wp2_with fail
    go_ret
    exact ⟨rfl, rfl⟩
  by_cases h5 : c = 32
  · subst h5
    go_enter Tryd.func15, Tryd.ntmps15
    go_wp2_with fail
    go_ret
    exact ⟨rfl, rfl⟩
  have g1 : ((c : Int) == 40) = false := beq_false_of_ne (by omega)
  have g2 : ((c : Int) == 41) = false := beq_false_of_ne (by omega)
  have g3 : ((c : Int) == 91) = false := beq_false_of_ne (by omega)
  have g4 : ((c : Int) == 93) = false := beq_false_of_ne (by omega)
  have g5 : ((c : Int) == 32) = false := beq_false_of_ne (by omega)
  have e : singleN c = 0 := by unfold singleN; rw [if_neg h1, if_neg h2, if_neg h3, if_neg h4, if_neg h5]
  rw [e]
  clear h1 h2 h3 h4 h5 e
  go_enter Tryd.func15, Tryd.ntmps15
  go_wp2_with fail
  go_ret
  exact ⟨rfl, rfl⟩

set_option maxRecDepth 100000 in
set_option maxHeartbeats 1000000 in
theorem ratom_any (c : Nat) (hc : c < 256) (w : World) : Calls Tryd.prog 16 #[.int .u8 (c : Int)] w fun e w' => e = .returned (.bool (inAtomN c)) ∧ w = w' := by
  have hs := alone_any c hc
  have HS := Lib.hid hs
  clear hs
  by_cases h1 : 32 < c
  · by_cases h2 : c ≤ 126
    · by_cases h3 : singleN c = 0
      · rw [h3] at HS
        by_cases h4 : c = 123
        · subst h4
          go_enter Tryd.func16, Tryd.ntmps16
          go_wp2_with fail
          refine (HS.out _).mono ?_
          rintro e w1 ⟨rfl, rfl⟩
          go_wp2_with fail
          go_ret
          exact ⟨rfl, rfl⟩
        by_cases h5 : c = 34
        · subst h5
          go_enter Tryd.func16, Tryd.ntmps16
          go_wp2_with fail
          refine (HS.out _).mono ?_
          rintro e w1 ⟨rfl, rfl⟩
          go_wp2_with fail
          go_ret
          exact ⟨rfl, rfl⟩
        have e : inAtomN c = true := by unfold inAtomN; simp [h1, h2, h3, h4, h5]
        have g1 : 32 < (c : Int) := by omega
        have g2 : (c : Int) ≤ 126 := by omega
        have g4 : ¬ (c : Int) = 123 := by omega
        have g5 : ¬ (c : Int) = 34 := by omega
        rw [e]
        clear e
        go_enter Tryd.func16, Tryd.ntmps16
        go_wp2_with fail
        refine (HS.out _).mono ?_
        rintro e w1 ⟨rfl, rfl⟩
        go_wp2_with fail
        go_ret
        exact ⟨ret_eq (by simp [g4, g5] <;> omega), rfl⟩
      · have e : inAtomN c = false := by unfold inAtomN; simp [h3]
        have g1 : 32 < (c : Int) := by omega
        have g2 : (c : Int) ≤ 126 := by omega
        have g3 : ¬ ((singleN c : Nat) : Int) = 0 := by omega
        rw [e]
        clear e h3
        generalize ((singleN c : Nat) : Int) = sg at *
        go_enter Tryd.func16, Tryd.ntmps16
        go_wp2_with fail
        refine (HS.out _).mono ?_
        rintro e w1 ⟨rfl, rfl⟩
        go_wp2_with fail
        go_ret
        exact ⟨ret_eq (by simp), rfl⟩
    · have g1 : 32 < (c : Int) := by omega
      have g2 : 126 < (c : Int) := by omega
      have e : inAtomN c = false := by unfold inAtomN; simp [h2]
      rw [e]
      clear e
      go_enter Tryd.func16, Tryd.ntmps16
      go_wp2_with fail
      go_ret
      exact ⟨ret_eq (by simp <;> omega), rfl⟩
  · have g1 : (c : Int) ≤ 32 := by omega
    have e : inAtomN c = false := by unfold inAtomN; simp [h1]
    rw [e]
    clear e
    go_enter Tryd.func16, Tryd.ntmps16
    go_wp2_with fail
    go_ret
    exact ⟨ret_eq (by simp <;> omega), rfl⟩

theorem byte_one (c : Nat) (hc : c < 256) (h : 0 < (⟨#[UInt8.ofNat c]⟩ : ByteArray).size) : (⟨#[UInt8.ofNat c]⟩ : ByteArray)[0].toNat = c := by
  show (UInt8.ofNat c).toNat = c
  simp
  omega
set_option maxRecDepth 100000 in
set_option maxHeartbeats 1000000 in
theorem qbl_any (c : Nat) (hc : c < 256) (w : World) : Calls Tryd.prog 24 #[.string ⟨#[UInt8.ofNat c]⟩] w fun e w' => e = .returned (.bool (inQuoN c)) ∧ w = w' := by
  have hsz0 : (⟨#[UInt8.ofNat c]⟩ : ByteArray).size = 1 := rfl
  have hb := byte_one c hc (by rw [hsz0]; decide)
  generalize hs : (⟨#[UInt8.ofNat c]⟩ : ByteArray) = s at *
  clear hs
  by_cases h0 : c = 0
  · subst h0
    rw [show inQuoN 0 = false from rfl]
    go_enter Tryd.func24, Tryd.ntmps24
    go_wp2_with fail
    refine wp_loop_rounds 2 ?_
    rw [rounds_succ]
    go_wp2_with fail
    go_ret
    exact ⟨rfl, rfl⟩
  by_cases h13 : c = 13
  · subst h13
    rw [show inQuoN 13 = false from rfl]
    go_enter Tryd.func24, Tryd.ntmps24
    go_wp2_with fail
    refine wp_loop_rounds 2 ?_
    rw [rounds_succ]
    go_wp2_with fail
    go_ret
    exact ⟨rfl, rfl⟩
  by_cases h10 : c = 10
  · subst h10
    rw [show inQuoN 10 = false from rfl]
    go_enter Tryd.func24, Tryd.ntmps24
    go_wp2_with fail
    refine wp_loop_rounds 2 ?_
    rw [rounds_succ]
    go_wp2_with fail
    go_ret
    exact ⟨rfl, rfl⟩
  have g0 : ¬ (c : Int) = 0 := by omega
  have g1 : ¬ (c : Int) = 13 := by omega
  have g2 : ¬ (c : Int) = 10 := by omega
  have g0b : ((c : Int) == 0) = false := beq_false_of_ne g0
  have g1b : ((c : Int) == 13) = false := beq_false_of_ne g1
  have g2b : ((c : Int) == 10) = false := beq_false_of_ne g2
  by_cases h3 : c ≤ 127
  · have g3 : ¬ 127 < (c : Int) := by omega
    have g3b : decide (127 < (c : Int)) = false := decide_eq_false g3
    have e : inQuoN c = true := by unfold inQuoN; simp [h13, h10, h3]; omega
    rw [e]
    clear e
    go_enter Tryd.func24, Tryd.ntmps24
    go_wp2_with fail
    refine wp_loop_rounds 2 ?_
    rw [rounds_succ]
    go_wp2_with fail
    rw [rounds_succ]
    go_wp2_with fail
    go_ret
    exact ⟨rfl, rfl⟩
  · have g3 : 127 < (c : Int) := by omega
    have g3b : decide (127 < (c : Int)) = true := decide_eq_true g3
    have e : inQuoN c = false := by unfold inQuoN; simp [h3]
    rw [e]
    clear e
    go_enter Tryd.func24, Tryd.ntmps24
    go_wp2_with fail
    refine wp_loop_rounds 2 ?_
    rw [rounds_succ]
    go_wp2_with fail
    go_ret
    exact ⟨rfl, rfl⟩

/-- Number -/
def natsS (s : ByteArray) : List Nat := s.data.toList.map UInt8.toNat
theorem natsS_len (s : ByteArray) : (natsS s).length = s.size := by unfold natsS; rw [List.length_map, Array.length_toList]; rfl
theorem natsS_at (s : ByteArray) (k : Nat) (h : k < s.size) : (natsS s)[k]'(by rw [natsS_len]; exact h) = s[k].toNat := by unfold natsS; rw [List.getElem_map]; rfl
theorem natsS_take (s : ByteArray) (k : Nat) (h : k < s.size) : (natsS s).take (k + 1) = (natsS s).take k ++ [s[k].toNat] := by
  rw [List.take_succ_eq_append_getElem (by rw [natsS_len]; exact h), natsS_at s k h]
theorem natsS_strN (l : List Nat) (hl : ∀ n ∈ l, n < 256) : natsS (strN l) = l := by
  unfold natsS strN
  simp only [List.map_map]
  conv => rhs; rw [← List.map_id l]
  refine List.map_congr_left fun n hn => ?_
  have := hl n hn
  simp
  omega
theorem valN_snoc (l : List Nat) (c : Nat) : valN (l ++ [c]) = valN l * 10 + (c - 48) := by simp [valN, List.foldl_append]
theorem valN_mono (a b : List Nat) : valN a ≤ valN (a ++ b) := by
  unfold valN
  rw [List.foldl_append]
  generalize a.foldl (fun a d => a * 10 + (d - 48)) 0 = n
  induction b generalizing n with
  | nil => exact Nat.le_refl _
  | cons d b ih => rw [List.foldl_cons]; exact Nat.le_trans (by omega) (ih _)
def numR (n : Nat) : Value := if n ≤ 16384 then .tuple #[.int .u64 (n : Int), .bool true] else .tuple #[.int .u64 0, .bool false]
theorem numR_yes {n : Nat} (h : n ≤ 16384) : numR n = .tuple #[.int .u64 (n : Int), .bool true] := if_pos h
theorem numR_no {n : Nat} (h : ¬ n ≤ 16384) : numR n = .tuple #[.int .u64 0, .bool false] := if_neg h

set_option maxHeartbeats 2000000 in
theorem number_any (s : ByteArray) (w : World) (h0 : 0 < s.size) (h10 : s.size ≤ 20) (hz : s[0].toNat ≠ 48 ∨ s.size = 1) (hall : (natsS s).all digB = true) :
    Calls Tryd.prog 25 #[.string s, .int .u64 16384] w fun e w' => e = .returned (numR (valN (natsS s))) ∧ w = w' := by
  have HA := Lib.hid hall
  have hs1 : ((s.size : Int) == 0) = false := beq_false_of_ne (by omega)
  have hs2 : decide (20 < (s.size : Int)) = false := by simp; omega
  have hs0 : 0 < s.size := h0
  have hcs : (((s[0].toNat : Int) == 48) = false ∨ (((s[0].toNat : Int) == 48) = true ∧ decide (1 < (s.size : Int)) = false)) := by
    by_cases h : s[0].toNat = 48
    · right
      refine ⟨by simp [h], ?_⟩
      have : s.size = 1 := by omega
      simp [this]
    · left; exact beq_false_of_ne (by omega)
  have HCS := Lib.hid hcs
  clear hcs hall hz
  rcases HCS.out with g1 | ⟨g1, g2⟩
  all_goals
    clear HCS
    go_enter Tryd.func25, Tryd.ntmps25
    go_wp2_with fail
    go_loop [6, 7] (fun v i => ∃ k : Nat, k ≤ s.size ∧ i = .int .i64 (k : Int) ∧ v = .int .u64 ((valN ((natsS s).take k) : Nat) : Int) ∧ valN ((natsS s).take k) ≤ 16384) (fun _ i => s.size - (intOf i).toNat)
    case atStart => exact ⟨0, Nat.zero_le _, rfl, rfl, by simp [valN]⟩
    case round =>
      obtain ⟨k, hk, rfl, rfl, hle⟩ := hrel
      obtain ⟨v, hv⟩ : ∃ v, valN ((natsS s).take k) = v := ⟨_, rfl⟩
      rw [hv] at hle ⊢
      by_cases hlt : k < s.size
      · have htk := natsS_take s k hlt
        have hdig : digB (s[k].toNat) = true := by
          have := List.all_eq_true.1 HA.out (s[k].toNat) (by rw [← natsS_at s k hlt]; exact List.getElem_mem _)
          exact this
        rw [digB_iff] at hdig
        have hnx : valN ((natsS s).take (k + 1)) = v * 10 + (s[k].toNat - 48) := by rw [htk, valN_snoc, hv]
        obtain ⟨t, ht⟩ : ∃ t : Nat, s[k].toNat = t + 48 := ⟨s[k].toNat - 48, by omega⟩
        have ht9 : t ≤ 9 := by omega
        have hnx2 : valN ((natsS s).take (k + 1)) = v * 10 + t := by rw [hnx, ht]; omega
        have hd1 : decide ((s[k].toNat : Int) < 48) = false := by simp; omega
        have hd2 : decide (57 < (s[k].toNat : Int)) = false := by simp; omega
        have hti : (s[k].toNat : Int) - 48 = (t : Int) := by omega
        have HNX := Lib.hid hnx2
        by_cases hov : 16384 < v * 10 + t
        · have hbig : ¬ valN (natsS s) ≤ 16384 := by
            have := valN_mono ((natsS s).take (k + 1)) ((natsS s).drop (k + 1))
            rw [List.take_append_drop] at this
            omega
          have HBIG := Lib.hid hbig
          have hcase : (decide (1638 < (v : Int)) = true ∨ (decide (1638 < (v : Int)) = false ∧ ((v : Int) == 1638) = true ∧ decide (4 < (t : Int)) = true)) := by
            by_cases h : 1638 < v
            · left; simp; omega
            · right; refine ⟨by simp; omega, by simp; omega, by simp; omega⟩
          have HCC := Lib.hid hcase
          clear hcase hnx hnx2 htk hdig ht hv hbig hov
          rcases HCC.out with e1 | ⟨e1, e2, e3⟩
          all_goals
            clear HCC
            go_wp2_with fail
            exact bodyPost_ret (v := .tuple #[.int .u64 0, .bool false]) (by simp [results, Tryd.results25, go_sem]) rfl ⟨by rw [numR_no HBIG.out], rfl⟩
        · have hcase : (decide (1638 < (v : Int)) = false ∧ ((v : Int) == 1638) = false) ∨ (decide (1638 < (v : Int)) = false ∧ ((v : Int) == 1638) = true ∧ decide (4 < (t : Int)) = false) := by
            by_cases h : v = 1638
            · right; refine ⟨by simp; omega, by simp; omega, by simp; omega⟩
            · left; refine ⟨by simp; omega, by simp; omega⟩
          have HCC := Lib.hid hcase
          clear hcase hnx hnx2 htk hdig ht hv
          rcases HCC.out with ⟨e1, e2⟩ | ⟨e1, e2, e3⟩
          all_goals
            clear HCC
            go_wp2_with fail
            go_round
            case rel => exact ⟨k + 1, by omega, by go_num, congrArg (Value.int .u64) (by rw [HNX.out]; omega), by rw [HNX.out]; omega⟩
            case measure => simp [intOf]; omega
      · have hks : k = s.size := by omega
        have hfull : valN (natsS s) = v := by rw [← hv, hks, ← natsS_len, List.take_length]
        have HF := Lib.hid hfull
        clear hfull hks hv
        go_wp2_with fail
        exact bodyPost_ret (v := .tuple #[.int .u64 (v : Int), .bool true]) (by simp [results, Tryd.results25, go_sem]) rfl ⟨by rw [HF.out, numR_yes hle], rfl⟩
theorem number_long (s : ByteArray) (w : World) (h20 : 20 < s.size) (hs : s.size ≤ 1000000) : Calls Tryd.prog 25 #[.string s, .int .u64 16384] w fun e w' => e = .returned (.tuple #[.int .u64 0, .bool false]) ∧ w = w' := by
  have hs1 : ((s.size : Int) == 0) = false := beq_false_of_ne (by omega)
  have hs2 : (20 : Int) < (s.size : Int) := by omega
  go_enter Tryd.func25, Tryd.ntmps25
  go_wp2_with fail
  exact bodyPost_ret (v := .tuple #[.int .u64 0, .bool false]) (by simp [results, Tryd.results25, go_sem]) rfl ⟨rfl, rfl⟩
end Go.Proofs.YtghibofnfjnfcaaDoor
