/-
  Fold: a flag as it is told.
-/
import Derived.Test.YtacalpgiopgkkaaDoorS9Small
import Derived.Test.YtacalpgiopgkkaaDoorS9Sign
import Derived.Test.YtacalpgiopgkkaaDoorS9Shelf
namespace Go.Proofs.YtacalpgiopgkkaaDoor
namespace S9
set_option linter.unusedVariables false
open Go.RowKit

theorem small_t (l : Tx) (hl : l.length ≤ 140737488351232) (w : World) : Calls Tryd.prog 24 #[.string (strL l)] w fun e w' => e = .returned (.string (strL (foldL l))) ∧ Below w.heap.size w w' := by
  have h := smallN_any (strL l) (by simpa [strL, ByteArray.size] using hl) w
  simpa [strL] using h
def sysV : Value := .agg #[.string (strL [92, 65, 110, 115, 119, 101, 114, 101, 100]), .string (strL [92, 68, 101, 108, 101, 116, 101, 100]), .string (strL [92, 68, 114, 97, 102, 116]), .string (strL [92, 70, 108, 97, 103, 103, 101, 100]), .string (strL [92, 83, 101, 101, 110])]
def sysA (a b c d e : ByteArray) : Value := .agg #[.string a, .string b, .string c, .string d, .string e]
set_option maxRecDepth 100000 in
theorem system_any (w : World) : Calls Tryd.prog 48 #[] w fun e w' => e = .returned sysV ∧ Below w.heap.size w w' := by
  go_enter Tryd.func48, Tryd.ntmps48
  go_wp2_with fail
  refine bodyPost_ret (v := sysV) (results_cell_row rfl _ _ w.heap.size 102 #[.string ⟨#[92, 65, 110, 115, 119, 101, 114, 101, 100]⟩, .string ⟨#[92, 68, 101, 108, 101, 116, 101, 100]⟩, .string ⟨#[92, 68, 114, 97, 102, 116]⟩, .string ⟨#[92, 70, 108, 97, 103, 103, 101, 100]⟩, .string ⟨#[92, 83, 101, 101, 110]⟩] (0, 0) _ rfl (heap_alloc_new w _) Tryd.underlying102 rfl (by kernel_rfl)) rfl ⟨rfl, (Below.refl _ _).alloc (Nat.le_refl _) _⟩
/-- what Fold answers -/
def foldV : Option Tx → Value
  | some s => .tuple #[.string (strL s), .int .i64 0]
  | none => .tuple #[.string ⟨#[]⟩, .int .i64 9]
def noSys (l : Tx) (k : Nat) : Prop := ∀ j (h : j < sysL.length), j < k → foldL sysL[j] ≠ foldL l
theorem foldF_sys {l : Tx} {k : Nat} (h : noSys l k) (hk : k < sysL.length) (he : foldL sysL[k] = foldL l) : foldF l = some sysL[k] := by
  unfold foldF
  have : sysL.find? (fun s => foldL s == foldL l) = some sysL[k] := by
    rw [List.find?_eq_some_iff_getElem]
    exact ⟨by simpa using he, k, hk, rfl, fun j hj => by simpa using h j (by omega) hj⟩
  rw [this]
theorem foldF_no {l : Tx} (h : noSys l 5) : foldF l = if plainL l then some (foldL l) else none := by
  unfold foldF
  have : sysL.find? (fun s => foldL s == foldL l) = none := by
    rw [List.find?_eq_none]
    intro s hs
    obtain ⟨j, hj, rfl⟩ := List.mem_iff_getElem.1 hs
    simpa using h j hj (by simpa [sysL] using hj)
  rw [this]
theorem noSys.next {l : Tx} {k : Nat} (h : noSys l k) (hk : k < sysL.length) (hn : foldL sysL[k] ≠ foldL l) : noSys l (k + 1) := fun j hj g => by
  by_cases e : j = k
  · subst e; exact hn
  · exact h j hj (by omega)
theorem run_index_sys (w : World) (vs : Array Value) (h5 : vs.size = 5) (i : Nat) (v : Value) (hi : i < 5) (hv : vs[i]? = some v) :
    (Instr.index 102 (.agg vs) (.int .i64 (i : Int))).run Tryd.prog w = .ok v w := by
  have h1 : (0 : Int) ≤ i ∧ (i : Int) < 5 := by omega
  simp [Instr.index, run_underlying Tryd.underlying102, asIntOf, h1, part, go_sem]
  simp [hv]
  intro h; omega
theorem str_eq (a b : Tx) : ((strL a).toList == (strL b).toList) = decide (a = b) := by
  rw [Go.ByteArray.toList_eq, Go.ByteArray.toList_eq]
  show (a == b) = decide (a = b)
  rw [Bool.eq_iff_iff]; simp
/-- one of the five, folded -/
theorem sys_small (j : Nat) (hj : j < sysL.length) (W : World) : Calls Tryd.prog 24 #[.string (strL sysL[j])] W fun e w' => e = .returned (.string (strL (foldL sysL[j]))) ∧ Below W.heap.size W w' :=
  small_t _ (by have : ∀ x ∈ sysL, x.length ≤ 140737488351232 := by decide
                exact this _ (List.getElem_mem hj)) W
set_option maxRecDepth 100000 in
set_option maxHeartbeats 4000000 in
theorem flag_any (l : Tx) (hl : l.length ≤ 140737488351232) (w : World) : Calls Tryd.prog 33 #[.string (strL l)] w fun e w' => e = .returned (foldV (foldF l)) ∧ Below w.heap.size w w' := by
  have HS := Lib.hid (small_t l hl)
  obtain ⟨s, hS⟩ : ∃ s, strL l = s := ⟨_, rfl⟩
  obtain ⟨f, hF⟩ : ∃ f, strL (foldL l) = f := ⟨_, rfl⟩
  obtain ⟨n, hn⟩ : ∃ n, l.length = n := ⟨_, rfl⟩
  have hsz : s.size = n := by subst hS hn; rfl
  rw [hS, hF] at HS
  rw [hS]
  have HS' := Lib.hid hS
  have HF' := Lib.hid hF
  have HN := Lib.hid hn
  have HQ : ∀ j (hj : j < sysL.length), Hid (∀ W, Calls Tryd.prog 24 #[.string (strL sysL[j])] W fun e w' => e = .returned (.string (strL (foldL sysL[j]))) ∧ Below W.heap.size W w') := fun j hj => Lib.hid (sys_small j hj)
  have HAT : Hid (∀ W, Calls Tryd.prog 49 #[.string (strL l)] W fun e w' => e = .returned (.bool (atomL l)) ∧ w' = W) := Lib.hid (atom_any l hl)
  rw [hS] at HAT
  clear hS hF hn
  obtain ⟨a0, hA0⟩ : ∃ a, strL (sysL[0]'(by decide)) = a := ⟨_, rfl⟩
  obtain ⟨b0, hB0⟩ : ∃ b, strL (foldL (sysL[0]'(by decide))) = b := ⟨_, rfl⟩
  have HC0 := HQ 0 (by decide)
  have HE0 : Hid ((b0.toList == f.toList) = decide (foldL (sysL[0]'(by decide)) = foldL l)) := Lib.hid (by rw [← hB0, ← HF'.out]; exact str_eq _ _)
  rw [hA0, hB0] at HC0
  have HA0 := Lib.hid hA0
  obtain ⟨a1, hA1⟩ : ∃ a, strL (sysL[1]'(by decide)) = a := ⟨_, rfl⟩
  obtain ⟨b1, hB1⟩ : ∃ b, strL (foldL (sysL[1]'(by decide))) = b := ⟨_, rfl⟩
  have HC1 := HQ 1 (by decide)
  have HE1 : Hid ((b1.toList == f.toList) = decide (foldL (sysL[1]'(by decide)) = foldL l)) := Lib.hid (by rw [← hB1, ← HF'.out]; exact str_eq _ _)
  rw [hA1, hB1] at HC1
  have HA1 := Lib.hid hA1
  obtain ⟨a2, hA2⟩ : ∃ a, strL (sysL[2]'(by decide)) = a := ⟨_, rfl⟩
  obtain ⟨b2, hB2⟩ : ∃ b, strL (foldL (sysL[2]'(by decide))) = b := ⟨_, rfl⟩
  have HC2 := HQ 2 (by decide)
  have HE2 : Hid ((b2.toList == f.toList) = decide (foldL (sysL[2]'(by decide)) = foldL l)) := Lib.hid (by rw [← hB2, ← HF'.out]; exact str_eq _ _)
  rw [hA2, hB2] at HC2
  have HA2 := Lib.hid hA2
  obtain ⟨a3, hA3⟩ : ∃ a, strL (sysL[3]'(by decide)) = a := ⟨_, rfl⟩
  obtain ⟨b3, hB3⟩ : ∃ b, strL (foldL (sysL[3]'(by decide))) = b := ⟨_, rfl⟩
  have HC3 := HQ 3 (by decide)
  have HE3 : Hid ((b3.toList == f.toList) = decide (foldL (sysL[3]'(by decide)) = foldL l)) := Lib.hid (by rw [← hB3, ← HF'.out]; exact str_eq _ _)
  rw [hA3, hB3] at HC3
  have HA3 := Lib.hid hA3
  obtain ⟨a4, hA4⟩ : ∃ a, strL (sysL[4]'(by decide)) = a := ⟨_, rfl⟩
  obtain ⟨b4, hB4⟩ : ∃ b, strL (foldL (sysL[4]'(by decide))) = b := ⟨_, rfl⟩
  have HC4 := HQ 4 (by decide)
  have HE4 : Hid ((b4.toList == f.toList) = decide (foldL (sysL[4]'(by decide)) = foldL l)) := Lib.hid (by rw [← hB4, ← HF'.out]; exact str_eq _ _)
  rw [hA4, hB4] at HC4
  have HA4 := Lib.hid hA4
  have hsv : sysV = sysA a0 a1 a2 a3 a4 := by rw [← hA0, ← hA1, ← hA2, ← hA3, ← hA4]; rfl
  have HSV := Lib.hid (fun W => hsv ▸ system_any W)
  clear hsv hA0 hA1 hA2 hA3 hA4 hB0 hB1 hB2 hB3 hB4 HQ
  go_enter Tryd.func33, Tryd.ntmps33
  go_wp2_with fail
  refine (HS.out _).mono ?_
  rintro e w1 ⟨rfl, hb1⟩
  have HB1 := Lib.hid hb1
  clear hb1
  go_wp2_with fail
  refine (HSV.out _).mono ?_
  rintro e w2 ⟨rfl, hb2⟩
  have HB2 := Lib.hid (HB1.out.trans (hb2.mono HB1.out.size))
  clear hb2
  unfold sysA
  go_wp2_with fail
  go_loopw [10] (fun i wr => ∃ k : Nat, i = .int .i64 k ∧ k ≤ 5 ∧ noSys l k ∧ Below w.heap.size w wr) (fun i _ => 5 - (RowKit.intOf i).toNat)
  case atStart => exact ⟨0, rfl, by omega, fun j h g => by omega, HB2.out⟩
  case round =>
    obtain ⟨k, rfl, hk, hno, hbw⟩ := hrel
    have HBW := Lib.hid hbw
    have HNO := Lib.hid hno
    clear hbw hno
    have hk6 : k = 0 ∨ k = 1 ∨ k = 2 ∨ k = 3 ∨ k = 4 ∨ k = 5 := by omega
    rcases hk6 with rfl | rfl | rfl | rfl | rfl | rfl
    · by_cases he : foldL (sysL[0]'(by decide)) = foldL l
      · have hq : (b0.toList == f.toList) = true := by rw [HE0.out]; exact decide_eq_true he
        have HR := Lib.hid (foldF_sys HNO.out (by decide) he)
        clear he
        go_wp2_with fail
        rw [show (Value.int IntKind.i64 0) = Value.int IntKind.i64 ((0 : Nat) : Int) from rfl, run_index_sys wr #[.string a0, .string a1, .string a2, .string a3, .string a4] rfl 0 (.string a0) (by omega) rfl]
        go_wp2_with fail
        refine (HC0.out _).mono ?_
        rintro e w3 ⟨rfl, hb3⟩
        have HB3 := Lib.hid (HBW.out.trans (hb3.mono HBW.out.size))
        clear hb3
        go_wp2_with fail
        refine bodyPost_ret (v := .tuple #[.string a0, .int .i64 0]) (by simp [results, Tryd.results33, go_sem]) rfl ⟨?_, HB3.out⟩
        rw [HR.out, ← HA0.out]; rfl
      · have hq : (b0.toList == f.toList) = false := by rw [HE0.out]; exact decide_eq_false he
        have HNX := Lib.hid (noSys.next HNO.out (by decide) he)
        clear he
        go_wp2_with fail
        rw [show (Value.int IntKind.i64 0) = Value.int IntKind.i64 ((0 : Nat) : Int) from rfl, run_index_sys wr #[.string a0, .string a1, .string a2, .string a3, .string a4] rfl 0 (.string a0) (by omega) rfl]
        go_wp2_with fail
        refine (HC0.out _).mono ?_
        rintro e w3 ⟨rfl, hb3⟩
        have HB3 := Lib.hid (HBW.out.trans (hb3.mono HBW.out.size))
        clear hb3
        go_wp2_with fail
        go_roundw
        case rel => exact ⟨1, by simp, by omega, HNX.out, HB3.out⟩
        case measure => simp [RowKit.intOf]
    · by_cases he : foldL (sysL[1]'(by decide)) = foldL l
      · have hq : (b1.toList == f.toList) = true := by rw [HE1.out]; exact decide_eq_true he
        have HR := Lib.hid (foldF_sys HNO.out (by decide) he)
        clear he
        go_wp2_with fail
        rw [show (Value.int IntKind.i64 1) = Value.int IntKind.i64 ((1 : Nat) : Int) from rfl, run_index_sys wr #[.string a0, .string a1, .string a2, .string a3, .string a4] rfl 1 (.string a1) (by omega) rfl]
        go_wp2_with fail
        refine (HC1.out _).mono ?_
        rintro e w3 ⟨rfl, hb3⟩
        have HB3 := Lib.hid (HBW.out.trans (hb3.mono HBW.out.size))
        clear hb3
        go_wp2_with fail
        refine bodyPost_ret (v := .tuple #[.string a1, .int .i64 0]) (by simp [results, Tryd.results33, go_sem]) rfl ⟨?_, HB3.out⟩
        rw [HR.out, ← HA1.out]; rfl
      · have hq : (b1.toList == f.toList) = false := by rw [HE1.out]; exact decide_eq_false he
        have HNX := Lib.hid (noSys.next HNO.out (by decide) he)
        clear he
        go_wp2_with fail
        rw [show (Value.int IntKind.i64 1) = Value.int IntKind.i64 ((1 : Nat) : Int) from rfl, run_index_sys wr #[.string a0, .string a1, .string a2, .string a3, .string a4] rfl 1 (.string a1) (by omega) rfl]
        go_wp2_with fail
        refine (HC1.out _).mono ?_
        rintro e w3 ⟨rfl, hb3⟩
        have HB3 := Lib.hid (HBW.out.trans (hb3.mono HBW.out.size))
        clear hb3
        go_wp2_with fail
        go_roundw
        case rel => exact ⟨2, by simp, by omega, HNX.out, HB3.out⟩
        case measure => simp [RowKit.intOf]
    · by_cases he : foldL (sysL[2]'(by decide)) = foldL l
      · have hq : (b2.toList == f.toList) = true := by rw [HE2.out]; exact decide_eq_true he
        have HR := Lib.hid (foldF_sys HNO.out (by decide) he)
        clear he
        go_wp2_with fail
        rw [show (Value.int IntKind.i64 2) = Value.int IntKind.i64 ((2 : Nat) : Int) from rfl, run_index_sys wr #[.string a0, .string a1, .string a2, .string a3, .string a4] rfl 2 (.string a2) (by omega) rfl]
        go_wp2_with fail
        refine (HC2.out _).mono ?_
        rintro e w3 ⟨rfl, hb3⟩
        have HB3 := Lib.hid (HBW.out.trans (hb3.mono HBW.out.size))
        clear hb3
        go_wp2_with fail
        refine bodyPost_ret (v := .tuple #[.string a2, .int .i64 0]) (by simp [results, Tryd.results33, go_sem]) rfl ⟨?_, HB3.out⟩
        rw [HR.out, ← HA2.out]; rfl
      · have hq : (b2.toList == f.toList) = false := by rw [HE2.out]; exact decide_eq_false he
        have HNX := Lib.hid (noSys.next HNO.out (by decide) he)
        clear he
        go_wp2_with fail
        rw [show (Value.int IntKind.i64 2) = Value.int IntKind.i64 ((2 : Nat) : Int) from rfl, run_index_sys wr #[.string a0, .string a1, .string a2, .string a3, .string a4] rfl 2 (.string a2) (by omega) rfl]
        go_wp2_with fail
        refine (HC2.out _).mono ?_
        rintro e w3 ⟨rfl, hb3⟩
        have HB3 := Lib.hid (HBW.out.trans (hb3.mono HBW.out.size))
        clear hb3
        go_wp2_with fail
        go_roundw
        case rel => exact ⟨3, by simp, by omega, HNX.out, HB3.out⟩
        case measure => simp [RowKit.intOf]
    · by_cases he : foldL (sysL[3]'(by decide)) = foldL l
      · have hq : (b3.toList == f.toList) = true := by rw [HE3.out]; exact decide_eq_true he
        have HR := Lib.hid (foldF_sys HNO.out (by decide) he)
        clear he
        go_wp2_with fail
        rw [show (Value.int IntKind.i64 3) = Value.int IntKind.i64 ((3 : Nat) : Int) from rfl, run_index_sys wr #[.string a0, .string a1, .string a2, .string a3, .string a4] rfl 3 (.string a3) (by omega) rfl]
        go_wp2_with fail
        refine (HC3.out _).mono ?_
        rintro e w3 ⟨rfl, hb3⟩
        have HB3 := Lib.hid (HBW.out.trans (hb3.mono HBW.out.size))
        clear hb3
        go_wp2_with fail
        refine bodyPost_ret (v := .tuple #[.string a3, .int .i64 0]) (by simp [results, Tryd.results33, go_sem]) rfl ⟨?_, HB3.out⟩
        rw [HR.out, ← HA3.out]; rfl
      · have hq : (b3.toList == f.toList) = false := by rw [HE3.out]; exact decide_eq_false he
        have HNX := Lib.hid (noSys.next HNO.out (by decide) he)
        clear he
        go_wp2_with fail
        rw [show (Value.int IntKind.i64 3) = Value.int IntKind.i64 ((3 : Nat) : Int) from rfl, run_index_sys wr #[.string a0, .string a1, .string a2, .string a3, .string a4] rfl 3 (.string a3) (by omega) rfl]
        go_wp2_with fail
        refine (HC3.out _).mono ?_
        rintro e w3 ⟨rfl, hb3⟩
        have HB3 := Lib.hid (HBW.out.trans (hb3.mono HBW.out.size))
        clear hb3
        go_wp2_with fail
        go_roundw
        case rel => exact ⟨4, by simp, by omega, HNX.out, HB3.out⟩
        case measure => simp [RowKit.intOf]
    · by_cases he : foldL (sysL[4]'(by decide)) = foldL l
      · have hq : (b4.toList == f.toList) = true := by rw [HE4.out]; exact decide_eq_true he
        have HR := Lib.hid (foldF_sys HNO.out (by decide) he)
        clear he
        go_wp2_with fail
        rw [show (Value.int IntKind.i64 4) = Value.int IntKind.i64 ((4 : Nat) : Int) from rfl, run_index_sys wr #[.string a0, .string a1, .string a2, .string a3, .string a4] rfl 4 (.string a4) (by omega) rfl]
        go_wp2_with fail
        refine (HC4.out _).mono ?_
        rintro e w3 ⟨rfl, hb3⟩
        have HB3 := Lib.hid (HBW.out.trans (hb3.mono HBW.out.size))
        clear hb3
        go_wp2_with fail
        refine bodyPost_ret (v := .tuple #[.string a4, .int .i64 0]) (by simp [results, Tryd.results33, go_sem]) rfl ⟨?_, HB3.out⟩
        rw [HR.out, ← HA4.out]; rfl
      · have hq : (b4.toList == f.toList) = false := by rw [HE4.out]; exact decide_eq_false he
        have HNX := Lib.hid (noSys.next HNO.out (by decide) he)
        clear he
        go_wp2_with fail
        rw [show (Value.int IntKind.i64 4) = Value.int IntKind.i64 ((4 : Nat) : Int) from rfl, run_index_sys wr #[.string a0, .string a1, .string a2, .string a3, .string a4] rfl 4 (.string a4) (by omega) rfl]
        go_wp2_with fail
        refine (HC4.out _).mono ?_
        rintro e w3 ⟨rfl, hb3⟩
        have HB3 := Lib.hid (HBW.out.trans (hb3.mono HBW.out.size))
        clear hb3
        go_wp2_with fail
        go_roundw
        case rel => exact ⟨5, by simp, by omega, HNX.out, HB3.out⟩
        case measure => simp [RowKit.intOf]
    · have HR := Lib.hid (foldF_no HNO.out)
      go_wp2_with fail
      refine (HAT.out _).mono ?_
      rintro e w3 ⟨rfl, rfl⟩
      cases hat : atomL l with
      | false =>
        have HP : Hid (plainL l = false) := Lib.hid (by unfold plainL; rw [hat]; rfl)
        clear hat
        go_wp2_with fail
        refine bodyPost_ret (v := .tuple #[.string ⟨#[]⟩, .int .i64 9]) (by simp [results, Tryd.results33, go_sem]) rfl ⟨?_, HBW.out⟩
        rw [HR.out, HP.out]; rfl
      | true =>
        have HASC := Lib.hid (plain_ascii hat)
        by_cases h24 : 24 < n
        · have HP : Hid (plainL l = false) := Lib.hid (by unfold plainL; rw [decide_eq_false (show ¬ l.length ≤ 24 by have := HN.out; omega), Bool.and_false, Bool.false_and])
          have g24 : decide ((24 : Int) < (n : Int)) = true := decide_eq_true (by omega)
          clear hat
          go_wp2_with fail
          refine bodyPost_ret (v := .tuple #[.string ⟨#[]⟩, .int .i64 9]) (by simp [results, Tryd.results33, go_sem]) rfl ⟨?_, HBW.out⟩
          rw [HR.out, HP.out]; rfl
        · have g24 : decide ((24 : Int) < (n : Int)) = false := decide_eq_false (by omega)
          have HP : Hid (plainL l = !badL l) := Lib.hid (by unfold plainL; rw [hat, decide_eq_true (show l.length ≤ 24 by have := HN.out; omega)]; rfl)
          have hca := fun W => Tryd.strings_ContainsAny_laid s ⟨#[92, 37, 42]⟩ W (by omega) (by decide) (by rw [← HS'.out]; exact HASC.out) (fun j b h => by have := List.mem_of_getElem? h; simp at this; rcases this with rfl | rfl | rfl <;> decide)
          have hbad : Lib.containsAny s.data.toList [92, 37, 42] = badL l := by rw [← HS'.out]; exact bad_any l
          have hca2 : ∀ W, Calls Tryd.prog 50 #[.string s, .string ⟨#[92, 37, 42]⟩] W fun e w' => e = .returned (.bool (badL l)) ∧ Below W.heap.size W w' := fun W => by rw [← hbad]; exact hca W
          have HCA := Lib.hid hca2
          clear hat hca hca2 hbad
          go_wp2_with fail
          refine (HCA.out _).mono ?_
          rintro e w4 ⟨rfl, hb4⟩
          have HB4 := Lib.hid (HBW.out.trans (hb4.mono HBW.out.size))
          clear hb4
          cases hb : badL l with
          | true =>
            rw [hb] at HP
            clear hb
            go_wp2_with fail
            refine bodyPost_ret (v := .tuple #[.string ⟨#[]⟩, .int .i64 9]) (by simp [results, Tryd.results33, go_sem]) rfl ⟨?_, HB4.out⟩
            rw [HR.out, HP.out]; rfl
          | false =>
            rw [hb] at HP
            clear hb
            go_wp2_with fail
            refine bodyPost_ret (v := .tuple #[.string f, .int .i64 0]) (by simp [results, Tryd.results33, go_sem]) rfl ⟨?_, HB4.out⟩
            rw [HR.out, HP.out, ← HF'.out]; rfl
end S9
end Go.Proofs.YtacalpgiopgkkaaDoor
