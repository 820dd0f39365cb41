/-
  The date of a message that was given none.
-/
import Derived.Test.YtacalpgiopgkkaaDoorS8Awake
import Derived.Test.YtacalpgiopgkkaaDoorS8Print
import Derived.Test.YtacalpgiopgkkaaDoorS8Right
import Derived.Test.YtacalpgiopgkkaaDoorShelf
import Derived.Test.YtacalpgiopgkkaaDoorNilM
import Derived.Lib.AppendIntMem
namespace Go.Proofs.YtacalpgiopgkkaaDoor
set_option linter.unusedVariables false
open Go.RowKit Go.Lib Go.MapKept Go.Shelf
attribute [local go_sem] Oper.semAt_some

theorem itoaC : S8.ItoaC := ⟨fun i W hi => Tryd.strconv_Itoa_small i hi W, fun i W hi ht => (Tryd.strconv_Itoa i (by omega) (by omega) W ht).mono fun e w' ⟨he, k, os, hw⟩ => ⟨by rw [he, itoa_nonneg], by rw [hw]; exact below_grow _ _ (Nat.le_refl _) _ _⟩⟩
/-- the library's table of powers of ten -/
def Pow (w : World) : Prop := TabIs Tryd.prog w "internal/strconv.uint64pow10" .u64 pow10Tab
theorem Pow.below {w w' : World} {B : Nat} (h : Pow w) (hb : Below B w w') (hB : w.heap.size ≤ B) : Pow w' := S8.tab_below h hb hB
def noneB : ByteArray := ⟨#[32, 49, 45, 74, 97, 110, 45, 49, 57, 55, 48, 32, 48, 48, 58, 48, 48, 58, 48, 48, 32, 43, 48, 48, 48, 48]⟩
theorem parse_none (w : World) : Calls Tryd.prog 30 #[.string noneB] w fun e w' => e = .returned (.tuple #[.agg #[.int .i64 1970, .int .i64 1, .int .i64 1, .int .i64 0, .int .i64 0, .int .i64 0, .int .i64 0], .int .i64 0]) ∧ Below w.heap.size w w' := by
  have hsg : ∀ w, Calls Tryd.prog 42 #[.int .u8 (noneB[21].toNat : Int), .int .i64 0, .int .i64 0] w fun e w' => e = .returned (.tuple #[.int .i64 0, .bool true]) ∧ w = w' := fun w => S8.signed_plus 0 0 w (by decide) (by decide) (by decide) (by decide)
  have hmo : ∀ w, Calls Tryd.prog 43 #[.string (noneB.extract 3 6)] w fun e w' => e = .returned (.int .i64 1) ∧ Below w.heap.size w w' := fun w => by
    have hx : noneB.extract 3 6 = S8.nameB 0 := by decide +kernel
    rw [hx]
    exact S8.month_yes 0 w (by decide)
  exact S8.parse_yes noneB w rfl 1970 1 0 1 0 0 0 0 0 0 (by decide +kernel) (by decide +kernel) (by decide +kernel) (by decide +kernel) (by decide +kernel) (by decide +kernel) (by decide +kernel) (by decide +kernel) (by decide +kernel) hsg hmo (by decide) (by decide) (by unfold S8.RightS; decide +kernel)
theorem print_none (w : World) (ht : Pow w) : Calls Tryd.prog 31 #[.agg #[.int .i64 1970, .int .i64 1, .int .i64 1, .int .i64 0, .int .i64 0, .int .i64 0, .int .i64 0]] w fun e w' => e = .returned (.tuple #[.string noneB, .int .i64 0]) ∧ Below w.heap.size w w' := by
  have r : S8.RightS 1970 1 1 0 0 0 0 := by unfold S8.RightS; decide +kernel
  have h := S8.print_yes itoaC (fun y mo d h mi s z r w => S8.right_yes y mo d h mi s z w r) S8.months_any 1970 1 1 0 0 0 0 1970 0 1 0 0 0 ⟨rfl, rfl, rfl, rfl, rfl, rfl, by decide, by decide, by decide, by decide, by decide, by decide, by decide⟩ w r ht
  have e : S8.printB 1970 0 1 0 0 0 (S8.sgn 0) ((0 : Int).natAbs / 60) ((0 : Int).natAbs % 60) = noneB := by decide +kernel
  rw [e] at h
  exact h
set_option maxRecDepth 100000 in
set_option maxHeartbeats 1000000 in
theorem same_none (w : World) (ht : Pow w) : Calls Tryd.prog 19 #[.string noneB] w fun e w' => e = .returned (.tuple #[.string noneB, .bool true]) ∧ Below w.heap.size w w' := by
  have HT := Lib.hid ht
  clear ht
  go_enter Tryd.func19, Tryd.ntmps19
  go_upto_region 2 with (go_at_call 30; refine (parse_none _).mono ?_; rintro e w1 ⟨rfl, hb1⟩)
  have hb2 := hb1.alloc hb1.size (.cells #[.int .i64 1970, .int .i64 1, .int .i64 1, .int .i64 0, .int .i64 0, .int .i64 0, .int .i64 0] 74)
  have hx := heap_alloc_new w1 (.cells #[.int .i64 1970, .int .i64 1, .int .i64 1, .int .i64 0, .int .i64 0, .int .i64 0, .int .i64 0] 74)
  obtain ⟨b, hbq⟩ : ∃ b, w1.heap.size = b := ⟨_, rfl⟩
  rw [hbq] at hx ⊢
  generalize w1.alloc (.cells #[.int .i64 1970, .int .i64 1, .int .i64 1, .int .i64 0, .int .i64 0, .int .i64 0, .int .i64 0] 74) = W2 at *
  have c0 := cell_of_row W2 b 0 _ _ _ hx
  have c1 := cell_of_row W2 b 1 _ _ _ hx
  have c2 := cell_of_row W2 b 2 _ _ _ hx
  have c3 := cell_of_row W2 b 3 _ _ _ hx
  have c4 := cell_of_row W2 b 4 _ _ _ hx
  have c5 := cell_of_row W2 b 5 _ _ _ hx
  have c6 := cell_of_row W2 b 6 _ _ _ hx
  have HB := Lib.hid hb2
  clear hb1 hb2 hx
  go_wp2_with (go_at_call 31; refine (print_none _ (HT.out.below HB.out (Nat.le_refl _))).mono ?_; rintro e w3 ⟨rfl, hb3⟩)
  exact bodyPost_ret (results_tmp2 rfl _ _ _) rfl ⟨rfl, HB.out.trans (hb3.mono HB.out.size)⟩
end Go.Proofs.YtacalpgiopgkkaaDoor
