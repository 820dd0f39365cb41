/-
  The walk of ShelfNil: awake, and the methods of a nil shelf.
-/
import Derived.Test.YthmnbjdmbajhkaaEvict
namespace Go.Proofs.Ythmnbjdmbajhkaa
set_option linter.unusedVariables false
open Go.RowKit

set_option maxHeartbeats 1000000 in
theorem new_ten (w : World) : Calls Try.prog 7 #[.int .i64 10] w fun e w' => e = .returned (.tuple #[.pointer (some ⟨w.heap.size + 1, 0, none⟩), .int .i64 0]) ∧ w' = (w.alloc (.map #[] 0)).alloc (.cells #[.int .i64 10, .int .i64 0, .map (some w.heap.size), .slice none 0 0] 56) := by
  have hm := make52
  go_enter Try.func7, Try.ntmps7
  go_wp2_with fail
  exact bodyPost_ret (v := .tuple #[.pointer (some ⟨w.heap.size + 1, 0, none⟩), .int .i64 0]) (by simp [results, Try.results7, go_sem]) rfl ⟨rfl, rfl⟩

theorem two_rows (w : World) (a b : Obj) : At ((w.alloc a).alloc b) w.heap.size a ∧ At ((w.alloc a).alloc b) (w.heap.size + 1) b := by
  refine ⟨At.below (heap_alloc_new w a) ((Below.refl _ _).alloc (Nat.le_refl _) b) (by simp), ?_⟩
  have := heap_alloc_new (w.alloc a) b
  rwa [World.size_alloc] at this

set_option maxRecDepth 8000 in
set_option maxHeartbeats 2000000 in
theorem awake_any (w : World) : Calls Try.prog 8 #[] w fun e w' => e = .returned (.bool true) ∧ Below w.heap.size w w' := by
  go_enter Try.func8, Try.ntmps8
  go_wp2_with fail
  refine (new_ten w).mono ?_
  rintro e w1 ⟨rfl, rfl⟩
  have hr := two_rows w (.map #[] 0) (.cells #[.int .i64 10, .int .i64 0, .map (some w.heap.size), .slice none 0 0] 56)
  have HM := Lib.hid hr.1
  have HP := Lib.hid hr.2
  have HB1 : Hid (Below w.heap.size w ((w.alloc (.map #[] 0)).alloc (.cells #[.int .i64 10, .int .i64 0, .map (some w.heap.size), .slice none 0 0] 56))) := Lib.hid (((Below.refl _ _).alloc (Nat.le_refl _) _).alloc (by simp) _)
  clear hr
  generalize (w.alloc (.map #[] 0)).alloc (.cells #[.int .i64 10, .int .i64 0, .map (some w.heap.size), .slice none 0 0] 56) = w1 at *
  generalize hpd : w.heap.size + 1 = p at *
  have hpb : w.heap.size < p := by omega
  have hne : p ≠ w.heap.size := by omega
  clear hpd
  go_wp2_with fail
  refine (put_one p w.heap.size w1 HP.out HM.out).mono ?_
  rintro e w2 ⟨t, g, cap, rfl, hS1, ht1, hg1, htg, ht2, hg2, hB2⟩
  have HS1 := Lib.hid hS1
  have HB2 := Lib.hid hB2
  have hp1 := HP.out.lt
  have hm1 := HM.out.lt
  clear hS1 hB2
  go_wp2_with fail
  refine (put_two p w.heap.size t g cap w2 HS1.out hg2 (by omega) (by omega) (by omega) (by omega)).mono ?_
  rintro e w3 ⟨u, rfl, hS2, hs3, hB3⟩
  have HS2 := Lib.hid hS2
  have HB3 := Lib.hid hB3
  clear hS2 hB3
  go_wp2_with fail
  refine (evict_one p w.heap.size t g cap u w3 HS2.out (by omega) (by omega) (by omega) (by omega)).mono ?_
  rintro e w4 ⟨q, c, rfl, q0, q1, hq, hB4⟩
  have HB4 := Lib.hid hB4
  clear hB4
  go_wp2_with fail
  go_ret
  refine ⟨rfl, ((HB1.out.trans (HB2.out _ (by omega) (Nat.le_refl _))).trans (HB3.out _ (by omega) (Nat.le_refl _) (by omega))).trans (HB4.out _ (by omega) (Nat.le_refl _) (by omega) (by omega))⟩

def idV (a b : Int) : Value := .agg #[.int .u32 a, .int .u32 b]
set_option maxHeartbeats 1000000 in
theorem nput (a b s u : Int) (c : Bool) (w : World) : Calls Try.prog 16 #[.pointer none, idV a b, .int .i64 s, .int .i64 u, .bool c] w fun e w' => e = .returned (.int .i64 2) ∧ Below w.heap.size w w' := by
  unfold idV
  go_enter Try.func16, Try.ntmps16
  go_wp2_with fail
  go_ret
  exact ⟨rfl, (Below.refl _ _).alloc (Nat.le_refl _) _⟩
set_option maxHeartbeats 1000000 in
theorem nthing (a b : Int) (w : World) : Calls Try.prog 21 #[.pointer none, idV a b] w fun e w' => e = .returned (.pointer none) ∧ Below w.heap.size w w' := by
  unfold idV
  go_enter Try.func21, Try.ntmps21
  go_wp2_with fail
  go_ret
  exact ⟨rfl, (Below.refl _ _).alloc (Nat.le_refl _) _⟩
set_option maxHeartbeats 1000000 in
theorem ntouch (a b u : Int) (w : World) : Calls Try.prog 10 #[.pointer none, idV a b, .int .i64 u] w fun e w' => e = .returned (.bool false) ∧ Below w.heap.size w w' := by
  unfold idV
  go_enter Try.func10, Try.ntmps10
  go_wp2_with fail
  refine (nthing a b _).mono ?_
  rintro e w1 ⟨rfl, hb⟩
  have HB := Lib.hid (((Below.refl w.heap.size w).alloc (Nat.le_refl _) (.cells #[.int .u32 a, .int .u32 b] 31)).trans (hb.mono (by simp)))
  clear hb
  go_wp2_with fail
  go_ret
  exact ⟨rfl, HB.out⟩
set_option maxHeartbeats 1000000 in
theorem nclean (a b : Int) (w : World) : Calls Try.prog 11 #[.pointer none, idV a b] w fun e w' => e = .returned (.bool false) ∧ Below w.heap.size w w' := by
  unfold idV
  go_enter Try.func11, Try.ntmps11
  go_wp2_with fail
  refine (nthing a b _).mono ?_
  rintro e w1 ⟨rfl, hb⟩
  have HB := Lib.hid (((Below.refl w.heap.size w).alloc (Nat.le_refl _) (.cells #[.int .u32 a, .int .u32 b] 31)).trans (hb.mono (by simp)))
  clear hb
  go_wp2_with fail
  go_ret
  exact ⟨rfl, HB.out⟩
set_option maxHeartbeats 1000000 in
theorem ndrop (a b : Int) (w : World) : Calls Try.prog 12 #[.pointer none, idV a b] w fun e w' => e = .returned (.bool false) ∧ Below w.heap.size w w' := by
  unfold idV
  go_enter Try.func12, Try.ntmps12
  go_wp2_with fail
  refine (nthing a b _).mono ?_
  rintro e w1 ⟨rfl, hb⟩
  have HB := Lib.hid (((Below.refl w.heap.size w).alloc (Nat.le_refl _) (.cells #[.int .u32 a, .int .u32 b] 31)).trans (hb.mono (by simp)))
  clear hb
  go_wp2_with fail
  go_ret
  exact ⟨rfl, HB.out⟩
set_option maxHeartbeats 1000000 in
theorem nevict (w : World) : Calls Try.prog 15 #[.pointer none] w fun e w' => e = .returned (.slice none 0 0) ∧ w = w' := by
  go_enter Try.func15, Try.ntmps15
  go_wp2_with fail
  go_ret
  exact ⟨rfl, rfl⟩
set_option maxHeartbeats 1000000 in
theorem nsize (w : World) : Calls Try.prog 18 #[.pointer none] w fun e w' => e = .returned (.int .i64 0) ∧ w = w' := by
  go_enter Try.func18, Try.ntmps18
  go_wp2_with fail
  go_ret
  exact ⟨rfl, rfl⟩
set_option maxHeartbeats 1000000 in
theorem nlen (w : World) : Calls Try.prog 17 #[.pointer none] w fun e w' => e = .returned (.int .i64 0) ∧ w = w' := by
  go_enter Try.func17, Try.ntmps17
  go_wp2_with fail
  go_ret
  exact ⟨rfl, rfl⟩
end Go.Proofs.Ythmnbjdmbajhkaa
