/-
  The flag Seen, folded; the key that asks for it is right.
-/
import Derived.Test.YtopocmihbmaamaaGreatDoorKey
namespace Go.Proofs.YtopocmihbmaamaaGreatDoor
set_option linter.unusedVariables false
open Go.RowKit

theorem small_t (l : Tx) (hl : l.length ≤ 140737488351232) (w : World) : Calls Tryz.prog 35 #[.string (strL l)] w fun e w' => e = .returned (.string (strL (foldL l))) ∧ Below w.heap.size w w' := by
  have h := smallN_any (strL l) (by simpa [strL, ByteArray.size] using hl) w
  simpa [strL] using h
def sysA (a b c d e : ByteArray) : Value := .agg #[.string a, .string b, .string c, .string d, .string e]
set_option maxRecDepth 100000 in
theorem system_any (w : World) : Calls Tryz.prog 36 #[] w fun e w' => e = .returned (sysA (strL [92, 65, 110, 115, 119, 101, 114, 101, 100]) (strL [92, 68, 101, 108, 101, 116, 101, 100]) (strL [92, 68, 114, 97, 102, 116]) (strL [92, 70, 108, 97, 103, 103, 101, 100]) (strL [92, 83, 101, 101, 110])) ∧ Below w.heap.size w w' := by
  go_enter Tryz.func36, Tryz.ntmps36
  go_wp2_with fail
  refine bodyPost_ret (v := sysA (strL [92, 65, 110, 115, 119, 101, 114, 101, 100]) (strL [92, 68, 101, 108, 101, 116, 101, 100]) (strL [92, 68, 114, 97, 102, 116]) (strL [92, 70, 108, 97, 103, 103, 101, 100]) (strL [92, 83, 101, 101, 110])) (results_cell_row rfl _ _ w.heap.size 52 #[.string ⟨#[92, 65, 110, 115, 119, 101, 114, 101, 100]⟩, .string ⟨#[92, 68, 101, 108, 101, 116, 101, 100]⟩, .string ⟨#[92, 68, 114, 97, 102, 116]⟩, .string ⟨#[92, 70, 108, 97, 103, 103, 101, 100]⟩, .string ⟨#[92, 83, 101, 101, 110]⟩] (0, 0) _ rfl (heap_alloc_new w _) Tryz.underlying52 rfl (by kernel_rfl)) rfl ⟨rfl, (Below.refl _ _).alloc (Nat.le_refl _) _⟩
theorem run_index_sys (w : World) (vs : Array Value) (h5 : vs.size = 5) (i : Nat) (v : Value) (hi : i < 5) (hv : vs[i]? = some v) :
    (Instr.index 52 (.agg vs) (.int .i64 (i : Int))).run Tryz.prog w = .ok v w := by
  have h1 : (0 : Int) ≤ i ∧ (i : Int) < 5 := by omega
  simp [Instr.index, run_underlying Tryz.underlying52, asIntOf, h1, part, go_sem]
  simp [hv]
  intro h; omega
theorem str_eq (a b : Tx) : ((strL a).toList == (strL b).toList) = decide (a = b) := by
  rw [Go.ByteArray.toList_eq, Go.ByteArray.toList_eq]
  show (a == b) = decide (a = b)
  rw [Bool.eq_iff_iff]; simp
set_option maxRecDepth 100000 in
set_option maxHeartbeats 4000000 in
theorem seen_any (w : World) : Calls Tryz.prog 28 #[.string ⟨#[92, 83, 101, 101, 110]⟩] w fun e w' => e = .returned (.tuple #[.string ⟨#[92, 83, 101, 101, 110]⟩, .int .i64 0]) ∧ Below w.heap.size w w' := by
  rw [show (⟨#[92, 83, 101, 101, 110]⟩ : ByteArray) = strL [92, 83, 101, 101, 110] from rfl]
  have HC0 : Hid (∀ W, Calls Tryz.prog 35 #[.string (strL [92, 65, 110, 115, 119, 101, 114, 101, 100])] W fun e w' => e = .returned (.string (strL [92, 97, 110, 115, 119, 101, 114, 101, 100])) ∧ Below W.heap.size W w') := Lib.hid (fun W => small_t [92, 65, 110, 115, 119, 101, 114, 101, 100] (by decide) W)
  have he0 : ((strL [92, 97, 110, 115, 119, 101, 114, 101, 100]).toList == (strL [92, 115, 101, 101, 110]).toList) = false := by rw [str_eq]; decide
  have HC1 : Hid (∀ W, Calls Tryz.prog 35 #[.string (strL [92, 68, 101, 108, 101, 116, 101, 100])] W fun e w' => e = .returned (.string (strL [92, 100, 101, 108, 101, 116, 101, 100])) ∧ Below W.heap.size W w') := Lib.hid (fun W => small_t [92, 68, 101, 108, 101, 116, 101, 100] (by decide) W)
  have he1 : ((strL [92, 100, 101, 108, 101, 116, 101, 100]).toList == (strL [92, 115, 101, 101, 110]).toList) = false := by rw [str_eq]; decide
  have HC2 : Hid (∀ W, Calls Tryz.prog 35 #[.string (strL [92, 68, 114, 97, 102, 116])] W fun e w' => e = .returned (.string (strL [92, 100, 114, 97, 102, 116])) ∧ Below W.heap.size W w') := Lib.hid (fun W => small_t [92, 68, 114, 97, 102, 116] (by decide) W)
  have he2 : ((strL [92, 100, 114, 97, 102, 116]).toList == (strL [92, 115, 101, 101, 110]).toList) = false := by rw [str_eq]; decide
  have HC3 : Hid (∀ W, Calls Tryz.prog 35 #[.string (strL [92, 70, 108, 97, 103, 103, 101, 100])] W fun e w' => e = .returned (.string (strL [92, 102, 108, 97, 103, 103, 101, 100])) ∧ Below W.heap.size W w') := Lib.hid (fun W => small_t [92, 70, 108, 97, 103, 103, 101, 100] (by decide) W)
  have he3 : ((strL [92, 102, 108, 97, 103, 103, 101, 100]).toList == (strL [92, 115, 101, 101, 110]).toList) = false := by rw [str_eq]; decide
  have HC4 : Hid (∀ W, Calls Tryz.prog 35 #[.string (strL [92, 83, 101, 101, 110])] W fun e w' => e = .returned (.string (strL [92, 115, 101, 101, 110])) ∧ Below W.heap.size W w') := Lib.hid (fun W => small_t [92, 83, 101, 101, 110] (by decide) W)
  have he4 : ((strL [92, 115, 101, 101, 110]).toList == (strL [92, 115, 101, 101, 110]).toList) = true := by rw [str_eq]; decide
  have HSV := Lib.hid (fun W => system_any W)
  generalize strL [92, 65, 110, 115, 119, 101, 114, 101, 100] = a0 at *
  generalize strL [92, 68, 101, 108, 101, 116, 101, 100] = a1 at *
  generalize strL [92, 68, 114, 97, 102, 116] = a2 at *
  generalize strL [92, 70, 108, 97, 103, 103, 101, 100] = a3 at *
  generalize strL [92, 83, 101, 101, 110] = a4 at *
  generalize strL [92, 97, 110, 115, 119, 101, 114, 101, 100] = b0 at *
  generalize strL [92, 100, 101, 108, 101, 116, 101, 100] = b1 at *
  generalize strL [92, 100, 114, 97, 102, 116] = b2 at *
  generalize strL [92, 102, 108, 97, 103, 103, 101, 100] = b3 at *
  generalize strL [92, 115, 101, 101, 110] = b4 at *
  have hx0 : ∀ W, (Instr.index 52 (.agg #[.string a0, .string a1, .string a2, .string a3, .string a4]) (.int .i64 0)).run Tryz.prog W = .ok (.string a0) W := fun W => run_index_sys W _ rfl 0 _ (by omega) rfl
  have hx1 : ∀ W, (Instr.index 52 (.agg #[.string a0, .string a1, .string a2, .string a3, .string a4]) (.int .i64 1)).run Tryz.prog W = .ok (.string a1) W := fun W => run_index_sys W _ rfl 1 _ (by omega) rfl
  have hx2 : ∀ W, (Instr.index 52 (.agg #[.string a0, .string a1, .string a2, .string a3, .string a4]) (.int .i64 2)).run Tryz.prog W = .ok (.string a2) W := fun W => run_index_sys W _ rfl 2 _ (by omega) rfl
  have hx3 : ∀ W, (Instr.index 52 (.agg #[.string a0, .string a1, .string a2, .string a3, .string a4]) (.int .i64 3)).run Tryz.prog W = .ok (.string a3) W := fun W => run_index_sys W _ rfl 3 _ (by omega) rfl
  have hx4 : ∀ W, (Instr.index 52 (.agg #[.string a0, .string a1, .string a2, .string a3, .string a4]) (.int .i64 4)).run Tryz.prog W = .ok (.string a4) W := fun W => run_index_sys W _ rfl 4 _ (by omega) rfl
  go_enter Tryz.func28, Tryz.ntmps28
  go_wp2_with fail
  refine (HC4.out _).mono ?_
  rintro e w1 ⟨rfl, hb1⟩
  have HB1 := Lib.hid hb1
  clear hb1
  go_wp2_with fail
  refine (HSV.out _).mono ?_
  rintro e w2 ⟨rfl, hb2⟩
  have HB2 := Lib.hid (HB1.out.trans (hb2.mono HB1.out.size))
  clear hb2
  unfold sysA
  go_wp2_with fail
  refine wp_loop_rounds 6 ?_
  rw [rounds_succ]
  go_wp2_with fail
  refine (HC0.out _).mono ?_
  rintro e w3 ⟨rfl, hb⟩
  have HB3 := Lib.hid (HB2.out.trans (hb.mono HB2.out.size))
  clear hb
  go_wp2_with fail
  rw [rounds_succ]
  go_wp2_with fail
  refine (HC1.out _).mono ?_
  rintro e w4 ⟨rfl, hb⟩
  have HB4 := Lib.hid (HB3.out.trans (hb.mono HB3.out.size))
  clear hb
  go_wp2_with fail
  rw [rounds_succ]
  go_wp2_with fail
  refine (HC2.out _).mono ?_
  rintro e w5 ⟨rfl, hb⟩
  have HB5 := Lib.hid (HB4.out.trans (hb.mono HB4.out.size))
  clear hb
  go_wp2_with fail
  rw [rounds_succ]
  go_wp2_with fail
  refine (HC3.out _).mono ?_
  rintro e w6 ⟨rfl, hb⟩
  have HB6 := Lib.hid (HB5.out.trans (hb.mono HB5.out.size))
  clear hb
  go_wp2_with fail
  rw [rounds_succ]
  go_wp2_with fail
  refine (HC4.out _).mono ?_
  rintro e w7 ⟨rfl, hb⟩
  have HB7 := Lib.hid (HB6.out.trans (hb.mono HB6.out.size))
  clear hb
  go_wp2_with fail
  refine bodyPost_ret (v := .tuple #[.string a4, .int .i64 0]) (by simp [results, Tryz.results28, go_sem]) rfl ?_
  exact ⟨rfl, HB7.out⟩
set_option maxRecDepth 100000 in
set_option maxHeartbeats 4000000 in
theorem own_seen (p : Nat) (w : World) (hk : KeyR w p 3 ⟨#[92, 83, 101, 101, 110]⟩ 0) : Calls Tryz.prog 11 #[.pointer (some ⟨p, 0, none⟩)] w fun e w' => e = .returned (.bool true) ∧ Below w.heap.size w w' := by
  have HK := Lib.hid hk
  obtain ⟨c0, c1, c2, c3, c4, c5⟩ := hk.at
  have hp := hk.lt
  have HSE := Lib.hid seen_any
  clear hk
  generalize (⟨#[92, 83, 101, 101, 110]⟩ : ByteArray) = s at *
  go_enter Tryz.func11, Tryz.ntmps11
  have hss : (s.toList == s.toList) = true := by simp
  go_wp2_with (first
    | (go_at_call 28; refine (HSE.out _).mono ?_; rintro e w2 ⟨rfl, hb2⟩; have hbw : Below w.heap.size w w2 := ((Below.refl _ _).alloc (Nat.le_refl _) (.cells (keyC 3 s 0) 33)).drew.trans (hb2.mono (by simp)); obtain ⟨d0, d1, d2, d3, d4, d5⟩ := (HK.out.below hbw hp).at; have hq2 : KeyR w2 w.heap.size 3 s 0 := (hb2.block w.heap.size (by simp)).trans (heap_alloc_new w _); obtain ⟨e0, e1, e2, e3, e4, e5⟩ := hq2.at; have f1 : w2.frozen? ⟨w.heap.size, 1, none⟩ = false := frozen_of_row _ _ _ _ _ hq2; have HBW := Lib.hid hbw; clear hbw hq2 hb2)
    | go_region)
  go_ret
  exact ⟨by first | rfl | simp, by repeat (first | exact HBW.out | apply Below.drew | (refine below_set1 ?_ (Nat.le_refl _) _))⟩
end Go.Proofs.YtopocmihbmaamaaGreatDoor
