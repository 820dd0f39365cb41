/-
  The contracts of Parse at awake's text, and of awake.
-/
import Derived.Test.YtfcdannlfifbgaaCut
namespace Go.Proofs.Ytfcdannlfifbgaa
set_option linter.unusedVariables false
open Go.RowKit

theorem OwnR.nil (w : World) (B : Nat) : OwnR w B (.slice none 0 0) [] := owns_nil _ _ _ _

set_option maxHeartbeats 2000000 in
theorem parse_c (w : World) : Calls Try.prog 17 #[.string ⟨#[52, 58, 50, 44, 42]⟩] w fun e w' => ∃ o, e = .returned (.tuple #[o, .int .i64 0]) ∧ OwnR w' w.heap.size o [(4, 2), (0, 0)] ∧ Below w.heap.size w w' := by
  go_enter Try.func17, Try.ntmps17
  go_wp2_with fail
  refine wp_loop_rounds 3 ?_
  rw [rounds_succ]
  go_wp2_with fail
  refine (cut_a _).mono ?_
  rintro e w1 ⟨rfl, hb1⟩
  go_wp2_with fail
  refine (one_a _).mono ?_
  rintro e w2 ⟨rfl, hb2⟩
  have hs1 := hb1.size
  have hs2 := hb2.size
  have HB2 := Lib.hid (hb1.trans (hb2.mono hs1))
  clear hb1 hb2
  go_wp2_with (at_builtin; go_loud (refine appR rfl (.tmp 23) (.tmp 25) rfl (OwnR.nil _ w.heap.size) ((HB2.out.alloc (by omega) (.cells #[.int .u32 4, .int .u32 2] 33))) (by simp; omega) rfl (by simp [Act.eval]) (by simp) ?_); intro o' w3 hown3 hb3)
  have hs3 := hb3.size
  rw [rounds_succ]
  go_wp2_with fail
  refine (cut_c 44 (Or.inl rfl) _).mono ?_
  rintro e w4 ⟨rfl, hb4⟩
  go_wp2_with fail
  refine (one_b _).mono ?_
  rintro e w5 ⟨rfl, hb5⟩
  have hs4 := hb4.size
  have hs5 := hb5.size
  have hown5 : OwnR w5 w.heap.size o' [(4, 2)] := owns_keep (owns_keep hown3 hb4 (owns_lt hown3)) (hb5.mono hs4) (owns_lt hown3)
  have HB5 := Lib.hid ((hb3.trans (hb4.mono hs3)).trans (hb5.mono (by omega)))
  have hown6 : OwnR (w5.alloc (.cells #[.int .u32 0, .int .u32 0] 33)) w.heap.size o' [(4, 2)] := World.ownsRow.alloc hown5 _
  clear hb3 hb4 hb5 hown3 hown5
  go_wp2_with (at_builtin; go_loud (refine appR rfl (.tmp 23) (.tmp 25) rfl hown6 ((HB5.out.alloc (by omega) (.cells #[.int .u32 0, .int .u32 0] 33))) (by simp; omega) rfl (by simp [Act.eval]) (by simp) ?_); intro o2 w6 hown7 hb6)
  rw [rounds_succ]
  obtain ⟨a, cap, rfl, _, _, _, _⟩ := owns_shape hown7
  simp only [List.length_append, List.length_cons, List.length_nil] at hown7 ⊢
  go_wp2_with fail
  exact bodyPost_ret (v := .tuple #[.slice a 2 cap, .int .i64 0]) (by simp [results, Try.results17, go_sem]) rfl ⟨_, rfl, hown7, hb6⟩

theorem two_row (w : World) : RowN (w.alloc (.cells #[.int .u32 1, .int .u32 2] 23)) (.slice (some ⟨w.heap.size, 0, none⟩) 2 2) [1, 2] := by
  refine ⟨⟨_, _, rfl, by decide, by decide, rfl, by simp, ?_⟩, by intro n hn; simp at hn; omega⟩
  intro x hx j hj
  obtain rfl := Option.some.inj hx
  exact two_new w _ _ 23 j _ (List.getElem?_eq_getElem hj)

set_option maxHeartbeats 2000000 in
theorem awake_any (w : World) : Calls Try.prog 5 #[] w fun e w' => e = .returned (.bool true) ∧ Below w.heap.size w w' := by
  go_enter Try.func5, Try.ntmps5
  go_wp2_with fail
  refine (parse_c _).mono ?_
  rintro e w1 ⟨o, rfl, hown, hb1⟩
  have hr : RowR w1 o [(4, 2), (0, 0)] := hown.row (by intro p hp; simp at hp; rcases hp with rfl | rfl <;> simp)
  have HR := Lib.hid hr
  obtain ⟨a, cap, rfl, _, _, _, _⟩ := owns_shape hown
  have HB1 := Lib.hid hb1
  have hs1 := hb1.size
  clear hr hown hb1
  simp only [List.length_cons, List.length_nil] at HR ⊢
  go_wp2_with fail
  refine (has_any _ [(4, 2), (0, 0)] 3 9 _ HR.out (by decide) (by decide) (by decide) (by decide) (by simp)).mono ?_
  rintro e w2 ⟨rfl, hb2⟩
  rw [show hasB [(4, 2), (0, 0)] 3 9 = true by decide +kernel]
  have hs2 := hb2.size
  have HB2 := Lib.hid (HB1.out.trans (hb2.mono hs1))
  clear hb2
  go_wp2_with fail
  refine (of_any _ [1, 2] _ (two_row _) (by simp) (by simp)).mono ?_
  rintro e w3 ⟨o, rfl, hown, hb3⟩
  obtain ⟨a, cap, rfl, _, _, _, _⟩ := owns_shape hown
  have HB3 := Lib.hid ((HB2.out.alloc (by omega) (.cells #[.int .u32 1, .int .u32 2] 23)).trans (hb3.mono (by simp; omega)))
  rw [show (ofL [1, 2]).length = 1 by decide +kernel]
  clear hb3 hown
  go_wp2_with fail
  go_ret
  exact ⟨rfl, HB3.out⟩
end Go.Proofs.Ytfcdannlfifbgaa
