/-
  The table is awake.
-/
import Derived.Test.YtmnbkhgogogeiaaOpn
namespace Go.Proofs.Ytmnbkhgogogeiaa
set_option linter.unusedVariables false
open Go.RowKit

def twoC : List Chg := [⟨[97], [49], false⟩, ⟨[98], [50], false⟩]
theorem twoC_at {w : World} {p3 p4 p5 p6 : Nat} (h3 : RowB w (.slice (some ⟨p3, 0, none⟩) 1 1) [97]) (h4 : RowB w (.slice (some ⟨p4, 0, none⟩) 1 1) [49]) (h5 : RowB w (.slice (some ⟨p5, 0, none⟩) 1 1) [98]) (h6 : RowB w (.slice (some ⟨p6, 0, none⟩) 1 1) [50]) :
    ChgV (w.alloc (.cells #[.slice (some ⟨p3, 0, none⟩) 1 1, .slice (some ⟨p4, 0, none⟩) 1 1, .bool false, .slice (some ⟨p5, 0, none⟩) 1 1, .slice (some ⟨p6, 0, none⟩) 1 1, .bool false] 35)) (.slice (some ⟨w.heap.size, 0, none⟩) 2 2) twoC := by
  have hA : Below w.heap.size w (w.alloc (.cells #[.slice (some ⟨p3, 0, none⟩) 1 1, .slice (some ⟨p4, 0, none⟩) 1 1, .bool false, .slice (some ⟨p5, 0, none⟩) 1 1, .slice (some ⟨p6, 0, none⟩) 1 1, .bool false] 35)) := (Below.refl _ _).alloc (Nat.le_refl _) _
  have hh := heap_alloc_new w (.cells #[.slice (some ⟨p3, 0, none⟩) 1 1, .slice (some ⟨p4, 0, none⟩) 1 1, .bool false, .slice (some ⟨p5, 0, none⟩) 1 1, .slice (some ⟨p6, 0, none⟩) 1 1, .bool false] 35)
  have fl := fun j => cell_of_row _ w.heap.size j _ _ _ hh
  refine ⟨_, 2, rfl, by decide, by decide, .inr ⟨w.heap.size, 0, rfl, fun i hi => ?_⟩⟩
  have hi2 : i = 0 ∨ i = 1 := by have : i < 2 := hi; omega
  rcases hi2 with rfl | rfl
  · exact ⟨_, _, _, _, _, _, fl 0, fl 1, fl 2, h3.below hA, h4.below hA⟩
  · exact ⟨_, _, _, _, _, _, fl 3, fl 4, fl 5, h5.below hA, h6.below hA⟩
set_option maxRecDepth 100000 in
set_option maxHeartbeats 4000000 in
theorem twake_any (w : World) : Calls Try.prog 9 #[] w fun e w' => e = .returned (.bool true) ∧ Below w.heap.size w w' := by
  go_enter Try.func9, Try.ntmps9
  go_wp2_with fail
  refine (new_held 400 w (by decide) (by decide)).mono ?_
  rintro e w1 ⟨pd, kv, rfl, hd1⟩
  have HD1 := Lib.hid hd1
  clear hd1
  go_wp2_with fail
  refine (topen_fresh HD1.out (by decide) (by decide)).mono ?_
  rintro e w2 ⟨pt, pl, rfl, ht2, hb2⟩
  have HT2 := Lib.hid ht2
  clear ht2 hb2 HD1
  go_wp2_with fail
  have kc := Go.Joins.run_convert_bytes_const_at (P := Try.prog) w2 23 5 #[.int .u8 97] 1 1 w2.heap.size rfl Try.underlying23 Try.underlying5
  rw [kc]
  clear kc
  simp only [Result.andThen]
  rw [Oper.upon_value]
  have hA : Below w2.heap.size w2 (w2.alloc (.cells #[.int .u8 97] 5 (1, 2))) := (Below.refl _ _).alloc (Nat.le_refl _) _
  have HR3 := Lib.hid (constB w2 (1, 2) [97] (by decide) (by decide))
  have HT3 : Hid (Tb w.heap.size w (w2.alloc (.cells #[.int .u8 97] 5 (1, 2))) pt pl pd kv (400 - 2) 0 400 []) := Lib.hid (HT2.out.below hA)
  clear hA HT2 
  change Hid (RowB (w2.alloc (.cells #[.int .u8 97] 5 (1, 2))) (.slice (some ⟨w2.heap.size, 0, none⟩) 1 1) [97]) at HR3
  generalize w2.alloc (.cells #[.int .u8 97] 5 (1, 2)) = w3 at *
  generalize w2.heap.size = p3 at *
  go_wp2_with fail
  have kc := Go.Joins.run_convert_bytes_const_at (P := Try.prog) w3 23 5 #[.int .u8 49] 1 1 w3.heap.size rfl Try.underlying23 Try.underlying5
  rw [kc]
  clear kc
  simp only [Result.andThen]
  rw [Oper.upon_value]
  have hA : Below w3.heap.size w3 (w3.alloc (.cells #[.int .u8 49] 5 (1, 2))) := (Below.refl _ _).alloc (Nat.le_refl _) _
  have HR4 := Lib.hid (constB w3 (1, 2) [49] (by decide) (by decide))
  have HT4 : Hid (Tb w.heap.size w (w3.alloc (.cells #[.int .u8 49] 5 (1, 2))) pt pl pd kv (400 - 2) 0 400 []) := Lib.hid (HT3.out.below hA)
  have HR3' := Lib.hid (HR3.out.below hA)
  clear hA HT3 HR3
  change Hid (RowB (w3.alloc (.cells #[.int .u8 49] 5 (1, 2))) (.slice (some ⟨w3.heap.size, 0, none⟩) 1 1) [49]) at HR4
  generalize w3.alloc (.cells #[.int .u8 49] 5 (1, 2)) = w4 at *
  generalize w3.heap.size = p4 at *
  go_wp2_with fail
  have kc := Go.Joins.run_convert_bytes_const_at (P := Try.prog) w4 23 5 #[.int .u8 98] 1 1 w4.heap.size rfl Try.underlying23 Try.underlying5
  rw [kc]
  clear kc
  simp only [Result.andThen]
  rw [Oper.upon_value]
  have hA : Below w4.heap.size w4 (w4.alloc (.cells #[.int .u8 98] 5 (1, 2))) := (Below.refl _ _).alloc (Nat.le_refl _) _
  have HR5 := Lib.hid (constB w4 (1, 2) [98] (by decide) (by decide))
  have HT5 : Hid (Tb w.heap.size w (w4.alloc (.cells #[.int .u8 98] 5 (1, 2))) pt pl pd kv (400 - 2) 0 400 []) := Lib.hid (HT4.out.below hA)
  have HR3'' := Lib.hid (HR3'.out.below hA)
  have HR4' := Lib.hid (HR4.out.below hA)
  clear hA HT4 HR3' HR4
  change Hid (RowB (w4.alloc (.cells #[.int .u8 98] 5 (1, 2))) (.slice (some ⟨w4.heap.size, 0, none⟩) 1 1) [98]) at HR5
  generalize w4.alloc (.cells #[.int .u8 98] 5 (1, 2)) = w5 at *
  generalize w4.heap.size = p5 at *
  go_wp2_with fail
  have kc := Go.Joins.run_convert_bytes_const_at (P := Try.prog) w5 23 5 #[.int .u8 50] 1 1 w5.heap.size rfl Try.underlying23 Try.underlying5
  rw [kc]
  clear kc
  simp only [Result.andThen]
  rw [Oper.upon_value]
  have hA : Below w5.heap.size w5 (w5.alloc (.cells #[.int .u8 50] 5 (1, 2))) := (Below.refl _ _).alloc (Nat.le_refl _) _
  have HR6 := Lib.hid (constB w5 (1, 2) [50] (by decide) (by decide))
  have HT6 : Hid (Tb w.heap.size w (w5.alloc (.cells #[.int .u8 50] 5 (1, 2))) pt pl pd kv (400 - 2) 0 400 []) := Lib.hid (HT5.out.below hA)
  have HR3''' := Lib.hid (HR3''.out.below hA)
  have HR4'' := Lib.hid (HR4'.out.below hA)
  have HR5' := Lib.hid (HR5.out.below hA)
  clear hA HT5 HR3'' HR4' HR5
  change Hid (RowB (w5.alloc (.cells #[.int .u8 50] 5 (1, 2))) (.slice (some ⟨w5.heap.size, 0, none⟩) 1 1) [50]) at HR6
  generalize w5.alloc (.cells #[.int .u8 50] 5 (1, 2)) = w6 at *
  generalize w5.heap.size = p6 at *
  go_wp2_with fail
  have hA7 : Below w6.heap.size w6 (w6.alloc (.cells #[.slice (some ⟨p3, 0, none⟩) 1 1, .slice (some ⟨p4, 0, none⟩) 1 1, .bool false, .slice (some ⟨p5, 0, none⟩) 1 1, .slice (some ⟨p6, 0, none⟩) 1 1, .bool false] 35)) := (Below.refl _ _).alloc (Nat.le_refl _) _
  have HT7 := Lib.hid (HT6.out.below hA7)
  have hB7 : w.heap.size ≤ (w6.alloc (.cells #[.slice (some ⟨p3, 0, none⟩) 1 1, .slice (some ⟨p4, 0, none⟩) 1 1, .bool false, .slice (some ⟨p5, 0, none⟩) 1 1, .slice (some ⟨p6, 0, none⟩) 1 1, .bool false] 35)).heap.size := by
    obtain ⟨⟨s, S, W, hl, _⟩, _⟩ := HT7.out
    exact hl.disk.below.size
  refine (do_end HT7.out (C := twoC) (twoC_at HR3'''.out HR4''.out HR5'.out HR6.out) (by decide) (by decide) (by decide) (by decide) (by decide) hB7 74 (by decide) (by decide) (by decide) (by decide) (by decide)).mono ?_
  rintro e w8 ⟨rfl, ht8, -⟩
  have HT8 : Hid (Tb w.heap.size w w8 pt pl pd kv (400 - 2) (0 + cellsN 74) 400 [([97], [49]), ([98], [50])]) := Lib.hid ht8
  clear ht8 hB7 hA7 HT7 HT6 HR3''' HR4'' HR5' HR6
  go_wp2_with fail
  have kc := Go.Joins.run_convert_bytes_const_at (P := Try.prog) w8 23 5 #[.int .u8 98] 1 1 w8.heap.size rfl Try.underlying23 Try.underlying5
  rw [kc]
  clear kc
  simp only [Result.andThen]
  rw [Oper.upon_value]
  have HR9 : Hid (RowB (w8.alloc (.cells #[.int .u8 98] 5 (1, 2))) (.slice (some ⟨w8.heap.size, 0, none⟩) 1 1) [98]) := Lib.hid (constB w8 (1, 2) [98] (by decide) (by decide))
  have HT9 : Hid (Tb w.heap.size w (w8.alloc (.cells #[.int .u8 98] 5 (1, 2))) pt pl pd kv (400 - 2) (0 + cellsN 74) 400 [([97], [49]), ([98], [50])]) := Lib.hid (HT8.out.below ((Below.refl _ _).alloc (Nat.le_refl _) _))
  clear HT8
  go_wp2_with fail
  refine (get_yes HT9.out HR9.out (by decide) 1 (val := [50]) rfl (by decide) (by decide)).mono ?_
  rintro e w10 ⟨o, rfl, ho, hb10⟩
  obtain ⟨oa, oc, ho2⟩ : ∃ oa oc, o = .slice oa 1 oc := ho.shape
  subst ho2
  have HT10 := Lib.hid (HT9.out.below hb10)
  have hs := run_str (ho.rowB (by intro n hn; simp at hn; omega))
  rw [show strN [50] = ⟨#[50]⟩ by decide] at hs
  have HLE := Lib.hid (len_any HT10.out)
  have HBF : Hid (Below w.heap.size w w10) := Lib.hid (by
    obtain ⟨⟨s, S, W, hl, _⟩, _⟩ := HT10.out
    exact hl.disk.below)
  clear ho hb10 HT9 HR9
  go_wp2_with (first | (go_at_call 22; refine HLE.out.mono ?_; rintro e w' ⟨rfl, rfl⟩))
  go_ret
  exact ⟨rfl, HBF.out⟩
end Go.Proofs.Ytmnbkhgogogeiaa
