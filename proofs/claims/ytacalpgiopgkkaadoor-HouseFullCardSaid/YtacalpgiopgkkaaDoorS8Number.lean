/-
  The contract of number: what digits alone say.
-/
import Derived.Test.YtacalpgiopgkkaaDoorS8Kit
namespace Go.Proofs.YtacalpgiopgkkaaDoor
namespace S8
set_option linter.unusedVariables false
open Go.RowKit

theorem ret_eqN {u v : Value} (h : u = v) : Ending.returned u = Ending.returned v := by rw [h]
def digB (c : UInt8) : Bool := decide (48 ≤ (c.toNat : Int)) && decide ((c.toNat : Int) ≤ 57)
/-- the number that digits say -/
def valL (l : List UInt8) : Int := l.foldl (fun n c => n * 10 + ((c.toNat : Int) - 48)) 0
theorem valL_snoc (l : List UInt8) (c : UInt8) : valL (l ++ [c]) = valL l * 10 + ((c.toNat : Int) - 48) := by simp [valL, List.foldl_append]
theorem valL_bd (l : List UInt8) (h : l.all digB = true) : 0 ≤ valL l ∧ valL l + 1 ≤ (10 : Int) ^ l.length := by
  have H : ∀ r : List UInt8, r.reverse.all digB = true → 0 ≤ valL r.reverse ∧ valL r.reverse + 1 ≤ (10 : Int) ^ r.length := by
    intro r
    induction r with
    | nil => intro _; exact ⟨by decide, by decide⟩
    | cons c r ih =>
      intro h
      rw [List.reverse_cons, List.all_append] at h
      simp only [Bool.and_eq_true, List.all_cons, List.all_nil, Bool.and_true] at h
      have := ih h.1
      have hc := h.2
      simp only [digB, Bool.and_eq_true, decide_eq_true_eq] at hc
      rw [List.reverse_cons, valL_snoc, List.length_cons, Int.pow_succ]
      omega
  have := H l.reverse (by simpa using h)
  simpa using this
theorem valL_small (l : List UInt8) (h : l.all digB = true) (hl : l.length ≤ 4) : 0 ≤ valL l ∧ valL l ≤ 9999 := by
  have := valL_bd l h
  have : (10 : Int) ^ l.length ≤ 10 ^ 4 := by
    rcases Nat.lt_or_ge l.length 1 with h | h
    · have : l.length = 0 := by omega
      rw [this]; decide
    · have : l.length = 1 ∨ l.length = 2 ∨ l.length = 3 ∨ l.length = 4 := by omega
      rcases this with h | h | h | h <;> rw [h] <;> decide
  omega
theorem take_snoc (s : ByteArray) (k : Nat) (h : k < s.size) : s.data.toList.take (k + 1) = s.data.toList.take k ++ [s[k]] := by
  rw [List.take_succ_eq_append_getElem (by simpa using h)]; rfl

set_option maxHeartbeats 800000 in
theorem number_yes (s : ByteArray) (w : World) (hs : s.size ≤ 4) (hd : s.data.toList.all digB = true) :
    Calls Tryd.prog 63 #[.string s] w fun e w' => e = .returned (.tuple #[.int .i64 (valL s.data.toList), .bool true]) ∧ w = w' := by
  have HD := Lib.hid hd
  clear hd
  go_enter Tryd.func63, Tryd.ntmps63
  go_wp2_with fail
  go_loop [4, 8] (fun n i => ∃ k : Nat, k ≤ s.size ∧ i = .int .i64 k ∧ n = .int .i64 (valL (s.data.toList.take k))) (fun _ i => s.size - (intOf i).toNat)
  case atStart => exact ⟨0, Nat.zero_le _, rfl, rfl⟩
  case round =>
    obtain ⟨k, hk, rfl, rfl⟩ := hrel
    have hl : (s.data.toList.take k).length ≤ k := List.length_take_le _ _
    have hb := valL_small (s.data.toList.take k) (List.all_eq_true.2 fun x hx => List.all_eq_true.1 HD.out x (List.mem_of_mem_take hx)) (by omega)
    by_cases hlt : k < s.size
    · have hmem : s[k] ∈ s.data.toList := by
        have : s[k] = s.data.toList[k]'(by simpa using hlt) := rfl
        rw [this]; exact List.getElem_mem _
      have hc := List.all_eq_true.1 HD.out _ hmem
      simp only [digB, Bool.and_eq_true, decide_eq_true_eq] at hc
      obtain ⟨c1, c2⟩ := hc
      have HS : Hid (valL (s.data.toList.take (k + 1)) = valL (s.data.toList.take k) * 10 + ((s[k].toNat : Int) - 48)) := by rw [take_snoc s k hlt]; exact valL_snoc _ _
      clear hmem hl
      go_wp2_with fail
      go_round
      case rel => exact ⟨k + 1, by omega, by go_num, by rw [HS.out]; try go_num⟩
      case measure => simp [intOf]; omega
    · go_wp2_with fail
      have he : valL (s.data.toList.take k) = valL s.data.toList := by rw [List.take_of_length_le (by simp; omega)]
      exact bodyPost_ret (v := .tuple #[.int .i64 (valL (s.data.toList.take k)), .bool true]) (by simp [results, Tryd.results63, go_sem]) rfl ⟨ret_eqN (by rw [he]), rfl⟩

set_option maxHeartbeats 800000 in
theorem number_no (s : ByteArray) (w : World) (hs : s.size ≤ 4) (hd : s.data.toList.all digB = false) :
    Calls Tryd.prog 63 #[.string s] w fun e w' => e = .returned (.tuple #[.int .i64 0, .bool false]) ∧ w = w' := by
  have HD := Lib.hid hd
  clear hd
  go_enter Tryd.func63, Tryd.ntmps63
  go_wp2_with fail
  go_loop [4, 8] (fun n i => ∃ k : Nat, k ≤ s.size ∧ i = .int .i64 k ∧ n = .int .i64 (valL (s.data.toList.take k)) ∧ (s.data.toList.take k).all digB = true) (fun _ i => s.size - (intOf i).toNat)
  case atStart => exact ⟨0, Nat.zero_le _, rfl, rfl, rfl⟩
  case round =>
    obtain ⟨k, hk, rfl, rfl, hall⟩ := hrel
    have HA := Lib.hid hall
    clear hall
    have hl : (s.data.toList.take k).length ≤ k := List.length_take_le _ _
    have hb := valL_small (s.data.toList.take k) HA.out (by omega)
    by_cases hlt : k < s.size
    · have HT : Hid ((s.data.toList.take (k + 1)).all digB = ((s.data.toList.take k).all digB && digB s[k])) := by rw [take_snoc s k hlt]; simp [Hid]
      by_cases hdg : digB s[k] = true
      · have HS : Hid (valL (s.data.toList.take (k + 1)) = valL (s.data.toList.take k) * 10 + ((s[k].toNat : Int) - 48)) := by rw [take_snoc s k hlt]; exact valL_snoc _ _
        have HG := Lib.hid hdg
        simp only [digB, Bool.and_eq_true, decide_eq_true_eq] at hdg
        obtain ⟨c1, c2⟩ := hdg
        clear hl
        go_wp2_with fail
        go_round
        case rel => exact ⟨k + 1, by omega, by go_num, by rw [HS.out]; try go_num, by rw [HT.out, HA.out, HG.out]; rfl⟩
        case measure => simp [intOf]; omega
      · have hx : (s[k].toNat : Int) < 48 ∨ 57 < (s[k].toNat : Int) := by
          simp only [digB, Bool.and_eq_true, decide_eq_true_eq] at hdg
          omega
        clear hdg
        rcases hx with hx | hx
        · go_wp2_with fail
          exact bodyPost_ret (v := .tuple #[.int .i64 0, .bool false]) (by simp [results, Tryd.results63, go_sem]) rfl ⟨rfl, rfl⟩
        · have hy : ¬ (s[k].toNat : Int) < 48 := by omega
          go_wp2_with fail
          exact bodyPost_ret (v := .tuple #[.int .i64 0, .bool false]) (by simp [results, Tryd.results63, go_sem]) rfl ⟨rfl, rfl⟩
    · exfalso
      have h1 := HA.out
      rw [List.take_of_length_le (by simp; omega), HD.out] at h1
      cases h1
end S8
end Go.Proofs.YtacalpgiopgkkaaDoor
