/-
  Words: cut, word, rightBoundary, strings.Cut at one sign.
-/
import Derived.Test.YtnncldnpkfjhbaaGreatDoorMg8
import Derived.BigRegion
namespace Go.Proofs.YtnncldnpkfjhbaaGreatDoor
set_option linter.unusedVariables false
open Go.RowKit Go.Lib Go.Shelf

/-- what a text is ahead of a sign, behind it, and whether it has one -/
def cutP (c : UInt8) : List UInt8 → List UInt8 × List UInt8 × Bool
  | [] => ([], [], false)
  | x :: r => if x = c then ([], r, true) else (x :: (cutP c r).1, (cutP c r).2.1, (cutP c r).2.2)
theorem cutP_facts (c : UInt8) : ∀ l, (((cutP c l).2.2 = false ∧ Lib.indexByte l c = -1 ∧ cutP c l = (l, [], false)) ∨ ((cutP c l).2.2 = true ∧ Lib.indexByte l c = (cutP c l).1.length ∧ l = (cutP c l).1 ++ c :: (cutP c l).2.1))
  | [] => .inl ⟨rfl, rfl, rfl⟩
  | x :: r => by
    by_cases h : x = c
    · right
      have e : cutP c (x :: r) = ([], r, true) := by rw [cutP, if_pos h]
      rw [e]
      exact ⟨rfl, by simp [Lib.indexByte, h], by simp [h]⟩
    · have e : cutP c (x :: r) = (x :: (cutP c r).1, (cutP c r).2.1, (cutP c r).2.2) := by rw [cutP, if_neg h]
      rw [e]
      rcases cutP_facts c r with ⟨h1, h2, h3⟩ | ⟨h1, h2, h3⟩
      · left
        refine ⟨h1, ?_, ?_⟩
        · unfold Lib.indexByte
          simp [h, h2]
        · rw [h3]
      · right
        refine ⟨h1, ?_, ?_⟩
        · unfold Lib.indexByte
          simp only [h2]
          rw [if_neg (by simp [h]), if_neg (by simp)]
          simp
        · simp only [List.cons_append]
          rw [← h3]
theorem cutP_le (c : UInt8) (l : List UInt8) : (cutP c l).1.length ≤ l.length ∧ (cutP c l).2.1.length ≤ l.length := by
  rcases cutP_facts c l with ⟨-, -, h⟩ | ⟨-, -, h⟩
  · rw [h]; exact ⟨Nat.le_refl _, Nat.zero_le _⟩
  · have := congrArg List.length h
    simp at this
    constructor <;> omega
theorem strL_of (s : ByteArray) : strL s.data.toList = s := rfl
theorem strL_size (l : List UInt8) : (strL l).size = l.length := by simp [strL, ByteArray.size]
theorem strL_take (a b : List UInt8) : (strL (a ++ b)).extract 0 a.length = strL a := by
  rw [← strL_of ((strL (a ++ b)).extract 0 a.length), ByteArray.data_extract, Array.toList_extract, List.extract_eq_take_drop]
  show strL (((a ++ b).drop 0).take (a.length - 0)) = strL a
  simp
theorem extract_list (s : ByteArray) (k : Nat) : (s.extract k s.size).data.toList = s.data.toList.drop k := by
  rw [ByteArray.data_extract, Array.toList_extract, List.extract_eq_take_drop]
  rw [List.take_of_length_le]
  rw [List.length_drop, szl]
  omega
theorem strL_dropc (c : UInt8) (a b : List UInt8) : (strL (a ++ c :: b)).extract (a.length + 1) (strL (a ++ c :: b)).size = strL b := by
  rw [← strL_of ((strL (a ++ c :: b)).extract (a.length + 1) (strL (a ++ c :: b)).size), extract_list]
  show strL ((a ++ c :: b).drop (a.length + 1)) = strL b
  congr 1
  rw [List.drop_append]
  simp

set_option maxHeartbeats 1000000 in
set_option maxRecDepth 100000 in
theorem lcut_any (c : UInt8) (l : List UInt8) (hl : l.length ≤ 1000000) (w : World) :
    Calls Tryz.prog 74 #[.string (strL l), .string ⟨#[c]⟩] w fun e w' => e = .returned (.tuple #[.string (strL (cutP c l).1), .string (strL (cutP c l).2.1), .bool (cutP c l).2.2]) ∧ Below w.heap.size w w' := by
  have hi := Tryz.stringslite_Index_one (strL l) c w
  rw [show (strL l).data.toList = l from rfl] at hi
  rcases cutP_facts c l with ⟨h0, h1, h2⟩ | ⟨h0, h1, h2⟩
  · rw [h1] at hi
    rw [h2]
    obtain ⟨S, hS⟩ : ∃ S, strL l = S := ⟨_, rfl⟩
    simp only
    rw [hS] at hi ⊢
    clear hS h0 h1 h2
    go_enter Tryz.func74, Tryz.ntmps74
    go_wp2_with (go_at_call 99; refine hi.mono ?_; rintro e w1 ⟨rfl, rfl⟩)
    refine bodyPost_ret (v := .tuple #[.string S, .string ⟨#[]⟩, .bool false]) (by simp [results, Tryz.results74, go_sem]) rfl ?_
    exact ⟨rfl, Below.refl _ _⟩
  · obtain ⟨a, ha⟩ : ∃ a, (cutP c l).1 = a := ⟨_, rfl⟩
    obtain ⟨b, hb⟩ : ∃ b, (cutP c l).2.1 = b := ⟨_, rfl⟩
    rw [h1, ha] at hi
    rw [h0, ha, hb]
    rw [ha, hb] at h2
    clear h0 h1 ha hb
    have e1 : (strL l).extract 0 a.length = strL a := by rw [h2]; exact strL_take a _
    have e2 : (strL l).extract (a.length + 1) (strL l).size = strL b := by rw [h2]; exact strL_dropc c a b
    have e3 : (strL l).size = a.length + 1 + b.length := by rw [strL_size, h2]; simp; omega
    have e4 : l.length = a.length + 1 + b.length := by rw [h2]; simp; omega
    obtain ⟨S, hS⟩ : ∃ S, strL l = S := ⟨_, rfl⟩
    rw [hS] at hi e1 e2 e3 ⊢
    obtain ⟨n, hn⟩ : ∃ n, a.length = n := ⟨_, rfl⟩
    rw [hn] at hi e1 e2 e3
    obtain ⟨m, hm⟩ : ∃ m, n + 1 = m := ⟨_, rfl⟩
    obtain ⟨k, hk⟩ : ∃ k, S.size = k := ⟨_, rfl⟩
    rw [hm, hk] at e2 e3
    have z1 : (0 : Int) ≤ (n : Int) := by omega
    have z2 : (n : Int) + 1 = (m : Int) := by omega
    have z3 : (m : Int) ≤ (k : Int) := by omega
    have z4 : (n : Int) ≤ (k : Int) := by omega
    have z5 : (0 : Int) ≤ (m : Int) := by omega
    have z6 : (k : Int) ≤ 1000000 := by omega
    have E := Lib.hid (And.intro e1 e2)
    clear e1 e2 e3 e4 h2 hS hm hn
    go_enter Tryz.func74, Tryz.ntmps74
    go_wp2_with (go_at_call 99; refine hi.mono ?_; rintro e w1 ⟨rfl, rfl⟩)
    go_region
    go_wp2
    refine bodyPost_ret (v := .tuple #[.string (S.extract 0 n), .string (S.extract m k), .bool true]) (by simp [results, Tryz.results74, go_sem]) rfl ?_
    exact ⟨by rw [E.out.1, E.out.2], (Below.refl _ _).drew⟩
set_option maxRecDepth 100000 in
/-- strings.Cut at one sign -/
theorem scut_any (c : UInt8) (l : List UInt8) (hl : l.length ≤ 1000000) (w : World) :
    Calls Tryz.prog 45 #[.string (strL l), .string ⟨#[c]⟩] w fun e w' => e = .returned (.tuple #[.string (strL (cutP c l).1), .string (strL (cutP c l).2.1), .bool (cutP c l).2.2]) ∧ Below w.heap.size w w' := by
  have hi := lcut_any c l hl w
  generalize strL (cutP c l).1 = A at *
  generalize strL (cutP c l).2.1 = B at *
  generalize (cutP c l).2.2 = t at *
  generalize strL l = S at *
  go_enter Tryz.func45, Tryz.ntmps45
  go_wp2_with (go_at_call 74; refine hi.mono ?_; rintro e w1 ⟨rfl, hb⟩; have HB := Lib.hid hb; clear hb)
  refine bodyPost_ret (v := .tuple #[.string A, .string B, .bool t]) (by simp [results, Tryz.results45, go_sem]) rfl ?_
  exact ⟨rfl, HB.out⟩

/-- without blanks and tabs at both ends -/
def cutL (l : List UInt8) : List UInt8 := Lib.trimS l [32, 9]
theorem mcut_any (s : ByteArray) (w : World) (hs : s.size ≤ 1000000) :
    Calls Tryz.prog 46 #[.string s] w fun e w' => e = .returned (.string (strL (cutL s.data.toList))) ∧ Below w.heap.size w w' := by
  have hi : Calls Tryz.prog 43 #[.string s, .string ⟨#[32, 9]⟩] w fun e w' => e = .returned (.string (strL (cutL s.data.toList))) ∧ Below w.heap.size w w' := cut_any s w (by omega)
  generalize strL (cutL s.data.toList) = A at *
  go_enter Tryz.func46, Tryz.ntmps46
  go_wp2_with (go_at_call 43; refine hi.mono ?_; rintro e w1 ⟨rfl, hb⟩; have HB := Lib.hid hb; clear hb)
  go_ret
  exact ⟨rfl, HB.out⟩

/-- may a word have this sign? -/
def okW (c : UInt8) : Bool := !decide ((c.toNat : Int) ≤ 32) && !decide ((126 : Int) < (c.toNat : Int)) && !decide ((0 : Int) ≤ Lib.indexByte [40, 41, 60, 62, 64, 44, 59, 58, 92, 34, 91, 93, 63, 61] c)
def wordB (l : List UInt8) : Bool := l.all okW && !l.isEmpty
theorem all_take_true {f : UInt8 → Bool} {s : ByteArray} {k : Nat} (h : k < s.size) (h1 : (s.data.toList.take k).all f = true) (h2 : f s[k] = true) : (s.data.toList.take (k + 1)).all f = true := by
  rw [takec s k h, List.all_append, h1]; simp [h2]
theorem all_take_false {f : UInt8 → Bool} {s : ByteArray} {k : Nat} (h : k < s.size) (h2 : f s[k] = false) : s.data.toList.all f = false := by
  rw [List.all_eq_false]
  refine ⟨s[k], ?_, by rw [h2]; simp⟩
  have : s[k] = s.data.toList[k]'(by simpa using h) := rfl
  rw [this]; exact List.getElem_mem _

set_option maxHeartbeats 2000000 in
set_option maxRecDepth 100000 in
theorem word_any (s : ByteArray) (w : World) (hs : s.size ≤ 1000000) :
    Calls Tryz.prog 47 #[.string s] w fun e w' => e = .returned (.bool (wordB s.data.toList)) ∧ w = w' := by
  go_enter Tryz.func47, Tryz.ntmps47
  go_wp2_with fail
  go_loop [6, 3] (fun v x => ∃ k : Nat, k ≤ s.size ∧ v = .int .i64 (k : Nat) ∧ (s.data.toList.take k).all okW = true) (fun v _ => s.size - (RowKit.intOf v).toNat)
  case atStart => exact ⟨0, Nat.zero_le _, rfl, rfl⟩
  case round =>
    obtain ⟨k, hk, rfl, hall⟩ := hrel
    have HA := Lib.hid hall
    clear hall
    by_cases hlt : k < s.size
    · have hix := Tryz.strings_IndexByte ⟨#[40, 41, 60, 62, 64, 44, 59, 58, 92, 34, 91, 93, 63, 61]⟩ (s[k].toNat : Int) w
      have hu : ((s[k].toNat : Int)).toNat.toUInt8 = s[k] := by simp
      rw [hu] at hix
      obtain ⟨z, hz⟩ : ∃ z, Lib.indexByte [40, 41, 60, 62, 64, 44, 59, 58, 92, 34, 91, 93, 63, 61] s[k] = z := ⟨_, rfl⟩
      have hok : okW s[k] = (!decide ((s[k].toNat : Int) ≤ 32) && !decide ((126 : Int) < (s[k].toNat : Int)) && !decide ((0 : Int) ≤ z)) := by unfold okW; rw [hz]
      have HIX : Hid (Calls Tryz.prog 75 #[.string ⟨#[40, 41, 60, 62, 64, 44, 59, 58, 92, 34, 91, 93, 63, 61]⟩, .int .u8 (s[k].toNat : Int)] w fun e w' => e = .returned (.int .i64 z) ∧ w' = w) := Lib.hid (by rw [← hz]; exact hix)
      clear hix hu hz
      have HOK := Lib.hid hok
      have hkz : (k : Int) < (s.size : Int) := by omega
      clear hok
      by_cases h1 : (s[k].toNat : Int) ≤ 32
      · have d1 : decide ((s[k].toNat : Int) ≤ 32) = true := decide_eq_true h1
        have HF : Hid (wordB s.data.toList = false) := Lib.hid (by unfold wordB; rw [all_take_false hlt (by rw [HOK.out, d1]; rfl)]; rfl)
        go_wp2_with fail
        go_ret
        exact ⟨by rw [HF.out]; rfl, rfl⟩
      · have d1 : decide ((s[k].toNat : Int) ≤ 32) = false := decide_eq_false h1
        by_cases h2 : (126 : Int) < (s[k].toNat : Int)
        · have d2 : decide ((126 : Int) < (s[k].toNat : Int)) = true := decide_eq_true h2
          have HF : Hid (wordB s.data.toList = false) := Lib.hid (by unfold wordB; rw [all_take_false hlt (by rw [HOK.out, d1, d2]; rfl)]; rfl)
          go_wp2_with fail
          go_ret
          exact ⟨by rw [HF.out]; rfl, rfl⟩
        · have d2 : decide ((126 : Int) < (s[k].toNat : Int)) = false := decide_eq_false h2
          by_cases h3 : (0 : Int) ≤ z
          · have d3 : decide ((0 : Int) ≤ z) = true := decide_eq_true h3
            have HF : Hid (wordB s.data.toList = false) := Lib.hid (by unfold wordB; rw [all_take_false hlt (by rw [HOK.out, d1, d2, d3]; rfl)]; rfl)
            go_wp2_with (go_at_call 75; refine HIX.out.mono ?_; rintro e w' ⟨rfl, rfl⟩)
            go_ret
            exact ⟨by rw [HF.out]; rfl, rfl⟩
          · have d3 : decide ((0 : Int) ≤ z) = false := decide_eq_false h3
            have HT := Lib.hid (all_take_true (f := okW) hlt HA.out (by rw [HOK.out, d1, d2, d3]; rfl))
            go_wp2_with (go_at_call 75; refine HIX.out.mono ?_; rintro e w' ⟨rfl, rfl⟩)
            go_round
            case rel => exact ⟨k + 1, by omega, by go_num, HT.out⟩
            case measure => simp [RowKit.intOf]; omega
    · obtain rfl : k = s.size := by omega
      have ha : s.data.toList.all okW = true := by have := HA.out; rwa [List.take_of_length_le (by rw [szl]; exact Nat.le_refl _)] at this
      have HF : Hid (wordB s.data.toList = !s.toList.isEmpty) := Lib.hid (by unfold wordB; rw [ha, ByteArray.toList_eq]; rfl)
      clear ha
      go_wp2_with fail
      go_ret
      exact ⟨by rw [HF.out]; rfl, rfl⟩

/-- may a boundary have this sign? -/
def okB (c : UInt8) : Bool := !decide ((c.toNat : Int) < 32) && !decide ((126 : Int) < (c.toNat : Int))
def boundB (l : List UInt8) : Bool := l.all okB && !l.isEmpty && decide (l.length ≤ 70)

set_option maxHeartbeats 2000000 in
set_option maxRecDepth 100000 in
theorem rightb_any (s : ByteArray) (w : World) (hs : s.size ≤ 1000000) :
    Calls Tryz.prog 77 #[.string s] w fun e w' => e = .returned (.bool (boundB s.data.toList)) ∧ w = w' := by
  go_enter Tryz.func77, Tryz.ntmps77
  go_wp2_with fail
  go_loop [6, 3] (fun v x => ∃ k : Nat, k ≤ s.size ∧ v = .int .i64 (k : Nat) ∧ (s.data.toList.take k).all okB = true) (fun v _ => s.size - (RowKit.intOf v).toNat)
  case atStart => exact ⟨0, Nat.zero_le _, rfl, rfl⟩
  case round =>
    obtain ⟨k, hk, rfl, hall⟩ := hrel
    have HA := Lib.hid hall
    clear hall
    by_cases hlt : k < s.size
    · have HOK : Hid (okB s[k] = (!decide ((s[k].toNat : Int) < 32) && !decide ((126 : Int) < (s[k].toNat : Int)))) := Lib.hid rfl
      have hkz : (k : Int) < (s.size : Int) := by omega
      by_cases h1 : (s[k].toNat : Int) < 32
      · have d1 : decide ((s[k].toNat : Int) < 32) = true := decide_eq_true h1
        have HF : Hid (boundB s.data.toList = false) := Lib.hid (by unfold boundB; rw [all_take_false hlt (by rw [HOK.out, d1]; rfl)]; rfl)
        go_wp2_with fail
        go_ret
        exact ⟨by rw [HF.out]; rfl, rfl⟩
      · have d1 : decide ((s[k].toNat : Int) < 32) = false := decide_eq_false h1
        by_cases h2 : (126 : Int) < (s[k].toNat : Int)
        · have d2 : decide ((126 : Int) < (s[k].toNat : Int)) = true := decide_eq_true h2
          have HF : Hid (boundB s.data.toList = false) := Lib.hid (by unfold boundB; rw [all_take_false hlt (by rw [HOK.out, d1, d2]; rfl)]; rfl)
          go_wp2_with fail
          go_ret
          exact ⟨by rw [HF.out]; rfl, rfl⟩
        · have d2 : decide ((126 : Int) < (s[k].toNat : Int)) = false := decide_eq_false h2
          have HT := Lib.hid (all_take_true (f := okB) hlt HA.out (by rw [HOK.out, d1, d2]; rfl))
          go_wp2_with fail
          go_round
          case rel => exact ⟨k + 1, by omega, by go_num, HT.out⟩
          case measure => simp [RowKit.intOf]; omega
    · obtain rfl : k = s.size := by omega
      have ha : s.data.toList.all okB = true := by have := HA.out; rwa [List.take_of_length_le (by rw [szl]; exact Nat.le_refl _)] at this
      have HF : Hid (boundB s.data.toList = (!s.toList.isEmpty && decide (s.size ≤ 70))) := Lib.hid (by unfold boundB; rw [ha, ByteArray.toList_eq, szl]; rfl)
      clear ha
      by_cases h0 : s.size = 0
      · have he : s.toList.isEmpty = true := by rw [ByteArray.toList_eq]; have h9 : s.data.toList = [] := List.eq_nil_of_length_eq_zero (by rw [szl]; exact h0); rw [h9]; rfl
        have HF2 : Hid (boundB s.data.toList = false) := Lib.hid (by rw [HF.out, he]; rfl)
        clear h0
        go_wp2_with fail
        go_ret
        exact ⟨by rw [HF2.out]; rfl, rfl⟩
      · have he : s.toList.isEmpty = false := by
          rw [ByteArray.toList_eq]
          cases hl : s.data.toList with
          | nil => exact absurd (by rw [← szl, hl]; rfl) h0
          | cons => rfl
        by_cases h7 : s.size ≤ 70
        · have h7z : (s.size : Int) ≤ 70 := by omega
          have h7d : decide ((s.size : Int) ≤ 70) = true := decide_eq_true h7z
          have HF2 : Hid (boundB s.data.toList = true) := Lib.hid (by rw [HF.out, he, decide_eq_true h7]; rfl)
          clear h0 h7
          go_wp2_with fail
          go_ret
          exact ⟨by rw [HF2.out]; rfl, rfl⟩
        · have h7z : ¬ (s.size : Int) ≤ 70 := by omega
          have h7d : decide ((s.size : Int) ≤ 70) = false := decide_eq_false h7z
          have HF2 : Hid (boundB s.data.toList = false) := Lib.hid (by rw [HF.out, he, decide_eq_false h7]; rfl)
          clear h0 h7
          go_wp2_with fail
          go_ret
          exact ⟨by rw [HF2.out]; rfl, rfl⟩
end Go.Proofs.YtnncldnpkfjhbaaGreatDoor
