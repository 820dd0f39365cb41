/-
  cut, awake and Utf7Encodes: the walks.
-/
import Derived.Test.YtcddppgnmephnaaDoorRight
namespace Go.Proofs.YtcddppgnmephnaaDoor
set_option linter.unusedVariables false
open Go.RowKit Go.Lib

def cutS (s : ByteArray) : ByteArray := if s.size ≤ 500 then s else s.extract 0 500
theorem cutS_size (s : ByteArray) : (cutS s).size ≤ 500 := by
  unfold cutS
  split
  · assumption
  · simp; omega

set_option maxHeartbeats 400000 in
set_option maxRecDepth 100000 in
theorem cut_any (s : ByteArray) (w : World) : Calls Tryd.prog 9 #[.string s] w fun e w' => e = .returned (.string (cutS s)) ∧ w = w' := by
  unfold cutS
  by_cases h : s.size ≤ 500
  · have hz : ¬ ((500 : Int) < (s.size : Int)) := by omega
    rw [if_pos h]
    clear h
    go_enter Tryd.func9, Tryd.ntmps9
    go_wp2
    go_ret
    exact ⟨rfl, rfl⟩
  · have hz : (500 : Int) < (s.size : Int) := by omega
    have hz2 : (500 : Int) ≤ (s.size : Int) := by omega
    rw [if_neg h]
    clear h
    go_enter Tryd.func9, Tryd.ntmps9
    go_wp2
    exact bodyPost_ret (v := .string (s.extract 0 500)) (by simp [results, Tryd.results9, go_sem]) rfl ⟨rfl, rfl⟩

theorem encV_awake : encV [97, 38, 98, 195, 169] = .tuple #[.string ⟨#[97, 38, 45, 98, 38, 65, 79, 107, 45]⟩, .int .i64 0] := by kernel_rfl
theorem right_awake : rightS [97, 47, 98] = true := by kernel_rfl

set_option maxHeartbeats 400000 in
set_option maxRecDepth 100000 in
theorem awake_any (w : World) (hT : Tabs w) : Calls Tryd.prog 12 #[] w fun e w' => e = .returned (.bool true) ∧ Below w.heap.size w w' := by
  have he := enc_any ⟨#[97, 38, 98, 195, 169]⟩ (by decide) w hT
  rw [show (⟨#[97, 38, 98, 195, 169]⟩ : ByteArray).data.toList = [97, 38, 98, 195, 169] from rfl, encV_awake] at he
  have hr : ∀ w, Tabs w → Calls Tryd.prog 15 #[.string ⟨#[97, 47, 98]⟩] w fun e w' => e = .returned (.bool true) ∧ Below w.heap.size w w' := fun w hT => by
    have := right_any ⟨#[97, 47, 98]⟩ (by decide) w hT
    rw [show (⟨#[97, 47, 98]⟩ : ByteArray).data.toList = [97, 47, 98] from rfl, right_awake] at this
    exact this
  have HT := Lib.hid hT
  have HR := Lib.hid hr
  clear hT hr
  go_enter Tryd.func12, Tryd.ntmps12
  go_wp2_with (first
    | (go_at_call 10; refine he.mono ?_; rintro e w1 ⟨rfl, hb1⟩; have HB1 := Lib.hid hb1; have hs1 := hb1.size; clear hb1)
    | (go_at_call 15; refine (HR.out _ (HT.out.below HB1.out HT.out.size)).mono ?_; rintro e w2 ⟨rfl, hb2⟩; have HB2 := Lib.hid hb2; clear hb2))
  all_goals (go_ret; exact ⟨rfl, HB1.out.trans (HB2.out.mono hs1)⟩)

set_option maxHeartbeats 400000 in
set_option maxRecDepth 100000 in
theorem encodes_any (s : ByteArray) (w : World) (hT : Tabs w) : Calls Tryd.prog 3 #[.string s] w fun e w' => e = .returned (.bool true) ∧ Below w.heap.size w w' := by
  have hcut := cut_any s w
  have hcs := cutS_size s
  obtain ⟨t, ht⟩ : ∃ t, cutS s = t := ⟨_, rfl⟩
  rw [ht] at hcut hcs
  clear ht
  have h1 := enc_any t (by omega) w hT
  have h2 : ∀ w, Tabs w → Calls Tryd.prog 11 #[.string t] w fun e w' => e = .returned (encV t.data.toList) ∧ Below w.heap.size w w' := fun w hT => renc_any t (by omega) w hT
  have h3 := fun w hT => awake_any w hT
  have HT := Lib.hid hT
  obtain ⟨x, c, hx⟩ : ∃ x c, encV t.data.toList = .tuple #[.string x, .int .i64 c] := by
    unfold encV
    split
    · exact ⟨_, _, rfl⟩
    · exact ⟨_, _, rfl⟩
  rw [hx] at h1 h2
  have H2 := Lib.hid h2
  have H3 := Lib.hid h3
  clear hT h2 h3 hx hcs
  go_enter Tryd.func3, Tryd.ntmps3
  go_wp2_with (first
    | (go_at_call 9; refine hcut.mono ?_; rintro e w0 ⟨rfl, rfl⟩)
    | (go_at_call 10; refine h1.mono ?_; rintro e w1 ⟨rfl, hb1⟩; have HB1 := Lib.hid hb1; have hs1 := hb1.size; have HT1 := Lib.hid (HT.out.below hb1 HT.out.size); clear hb1)
    | (go_at_call 11; refine (H2.out _ HT1.out).mono ?_; rintro e w2 ⟨rfl, hb2⟩; have HB2 := Lib.hid (HB1.out.trans (hb2.mono hs1)); have hs2 := hb2.size; have HT2 := Lib.hid (HT1.out.below hb2 HT1.out.size); clear hb2)
    | (go_at_call 12; refine (H3.out _ HT2.out).mono ?_; rintro e w3 ⟨rfl, hb3⟩; have HB3 := Lib.hid (HB2.out.trans (hb3.mono (by omega))); clear hb3))
  all_goals (go_ret; exact ⟨rfl, HB3.out⟩)
end Go.Proofs.YtcddppgnmephnaaDoor
