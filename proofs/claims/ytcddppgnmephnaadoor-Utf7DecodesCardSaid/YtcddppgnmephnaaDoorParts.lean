/-
  Utf7Parts: the walk.
-/
import Derived.Test.YtcddppgnmephnaaDoorAwake
import Derived.Test.YtcddppgnmephnaaDoorPure
namespace Go.Proofs.YtcddppgnmephnaaDoor
set_option linter.unusedVariables false
open Go.RowKit Go.Lib

theorem strL_of (s : ByteArray) : strL s.data.toList = s := rfl
theorem enc_str (l : List UInt8) (hl : l.length ≤ 100000) (w : World) (hT : Tabs w) : Calls Tryd.prog 10 #[.string (strL l)] w fun e w' => e = .returned (encV l) ∧ Below w.heap.size w w' :=
  enc_any (strL l) (by rw [Lib.size_eq]; exact hl) w hT
theorem encV_yes (l : List UInt8) (h : validD l = true) : encV l = .tuple #[.string (strL (encS l)), .int .i64 0] := by unfold encV; rw [if_pos h]; rfl
theorem encV_no (l : List UInt8) (h : validD l = false) : encV l = .tuple #[.string (strL []), .int .i64 9] := by unfold encV; rw [h]; rfl

set_option maxHeartbeats 1000000 in
set_option maxRecDepth 100000 in
/-- the walk, over whatever is told of the calls -/
theorem parts_walk (s t A0 B1 A1 C1 X Y Z : ByteArray) (e f g : Int) (w : World) (hT : Tabs w)
    (hcs : ∀ w, Calls Tryd.prog 9 #[.string s] w fun e w' => e = .returned (.string A0) ∧ w = w') (hct : ∀ w, Calls Tryd.prog 9 #[.string t] w fun e w' => e = .returned (.string B1) ∧ w = w')
    (hc1 : ∀ w : World, (Op.stringOp .add A0 ⟨#[47]⟩).run Tryd.prog w = .ok (.string A1) w) (hc2 : ∀ w : World, (Op.stringOp .add A1 B1).run Tryd.prog w = .ok (.string C1) w)
    (h1 : ∀ w, Tabs w → Calls Tryd.prog 10 #[.string A1] w fun r w' => r = .returned (.tuple #[.string X, .int .i64 e]) ∧ Below w.heap.size w w')
    (h2 : ∀ w, Tabs w → Calls Tryd.prog 10 #[.string B1] w fun r w' => r = .returned (.tuple #[.string Y, .int .i64 f]) ∧ Below w.heap.size w w')
    (h3 : ∀ w, Tabs w → Calls Tryd.prog 10 #[.string C1] w fun r w' => r = .returned (.tuple #[.string Z, .int .i64 g]) ∧ Below w.heap.size w w')
    (hz : (e = 9) ∨ (e = 0 ∧ f = 9) ∨ (e = 0 ∧ f = 0 ∧ g = 0 ∧ ∀ w : World, (Op.stringOp .add X Y).run Tryd.prog w = .ok (.string Z) w)) :
    Calls Tryd.prog 7 #[.string s, .string t] w fun e w' => e = .returned (.bool true) ∧ Below w.heap.size w w' := by
  have HAW := Lib.hid (fun w hT => awake_any w hT)
  have HT := Lib.hid hT
  have H1 := Lib.hid h1
  have H2 := Lib.hid h2
  have H3 := Lib.hid h3
  have HZ := Lib.hid hz
  clear hT h1 h2 h3 hz
  go_enter Tryd.func7, Tryd.ntmps7
  go_upto_region 2 with (go_at_call 9; first | (refine (hcs _).mono ?_; rintro e w0 ⟨rfl, rfl⟩) | (refine (hct _).mono ?_; rintro e w0 ⟨rfl, rfl⟩))
  go_upto_region 3 with (go_at_call 10; refine (H1.out _ HT.out).mono ?_; rintro e w1 ⟨rfl, hb1⟩; have HB1 := Lib.hid hb1; have hs1 := hb1.size; have HT1 := Lib.hid (HT.out.below hb1 HT.out.size); clear hb1)
  go_upto_region 4 with (go_at_call 10; refine (H2.out _ HT1.out).mono ?_; rintro e w2 ⟨rfl, hb2⟩; have HB2 := Lib.hid (HB1.out.trans (hb2.mono hs1)); have hs2 := hb2.size; have HT2 := Lib.hid (HT1.out.below hb2 HT1.out.size); clear hb2)
  go_upto_region 5 with (go_at_call 10; refine (H3.out _ HT2.out).mono ?_; rintro e w3 ⟨rfl, hb3⟩; have HB3 := Lib.hid (HB2.out.trans (hb3.mono (by omega))); have hs3 := hb3.size; have HT3 := Lib.hid (HT2.out.below hb3 HT2.out.size); clear hb3)
  rcases HZ.out with h | ⟨h, h'⟩ | ⟨h, h', h'', hxy⟩
  · subst h
    clear HZ
    go_upto_region 6 with (go_at_call 12; refine (HAW.out _ HT3.out).mono ?_; rintro e w4 ⟨rfl, hb4⟩; have HB4 := Lib.hid (HB3.out.trans (hb4.mono (by omega))); have hs4 := hb4.size; have HT4 := Lib.hid (HT3.out.below hb4 HT3.out.size); clear hb4)
    go_wp2_with (go_at_call 12; refine (HAW.out _ HT4.out).mono ?_; rintro e w5 ⟨rfl, hb5⟩; have HB5 := Lib.hid (HB4.out.trans (hb5.mono (by omega))); clear hb5)
    exact bodyPost_ret (v := .bool true) (by simp [results, Tryd.results7, go_sem]) rfl ⟨rfl, HB5.out⟩
  · subst h h'
    clear HZ
    go_upto_region 6 with (go_at_call 12; refine (HAW.out _ HT3.out).mono ?_; rintro e w4 ⟨rfl, hb4⟩; have HB4 := Lib.hid (HB3.out.trans (hb4.mono (by omega))); have hs4 := hb4.size; have HT4 := Lib.hid (HT3.out.below hb4 HT3.out.size); clear hb4)
    go_wp2_with (go_at_call 12; refine (HAW.out _ HT4.out).mono ?_; rintro e w5 ⟨rfl, hb5⟩; have HB5 := Lib.hid (HB4.out.trans (hb5.mono (by omega))); clear hb5)
    exact bodyPost_ret (v := .bool true) (by simp [results, Tryd.results7, go_sem]) rfl ⟨rfl, HB5.out⟩
  · subst h h' h''
    clear HZ
    go_wp2_with (go_at_call 12; refine (HAW.out _ HT3.out).mono ?_; rintro e w4 ⟨rfl, hb4⟩; have HB4 := Lib.hid (HB3.out.trans (hb4.mono (by omega))); have hs4 := hb4.size; have HT4 := Lib.hid (HT3.out.below hb4 HT3.out.size); clear hb4)
    go_ret
    exact ⟨rfl, HB4.out⟩

theorem encV_any (l : List UInt8) : ∃ x c, encV l = .tuple #[.string x, .int .i64 c] := by
  unfold encV
  split
  · exact ⟨_, _, rfl⟩
  · exact ⟨_, _, rfl⟩

theorem parts_any (s t : ByteArray) (w : World) (hT : Tabs w) : Calls Tryd.prog 7 #[.string s, .string t] w fun e w' => e = .returned (.bool true) ∧ Below w.heap.size w w' := by
  obtain ⟨a, ha, hal⟩ : ∃ a, cutS s = strL a ∧ a.length ≤ 500 := ⟨(cutS s).data.toList, rfl, by rw [← Lib.size_eq]; exact cutS_size s⟩
  obtain ⟨b, hb, hbl⟩ : ∃ b, cutS t = strL b ∧ b.length ≤ 500 := ⟨(cutS t).data.toList, rfl, by rw [← Lib.size_eq]; exact cutS_size t⟩
  have hcs := fun w => cut_any s w
  have hct := fun w => cut_any t w
  rw [ha] at hcs
  rw [hb] at hct
  have hc1 : ∀ w : World, (Op.stringOp .add (strL a) ⟨#[47]⟩).run Tryd.prog w = .ok (.string (strL (a ++ [47]))) w := fun w => cat_any a [47] (by simp; omega) w
  have hc2 : ∀ w : World, (Op.stringOp .add (strL (a ++ [47])) (strL b)).run Tryd.prog w = .ok (.string (strL ((a ++ [47]) ++ b))) w := fun w => cat_any _ b (by simp; omega) w
  have h1 := fun w hT => enc_str (a ++ [47]) (by simp; omega) w hT
  have h2 := fun w hT => enc_str b (by omega) w hT
  have h3 := fun w hT => enc_str ((a ++ [47]) ++ b) (by simp; omega) w hT
  have l1 := encS_length (a ++ [47])
  have l2 := encS_length b
  have la : (a ++ [47]).length ≤ 501 := by simp; omega
  cases hv1 : validD (a ++ [47]) with
  | false =>
    rw [encV_no _ hv1] at h1
    obtain ⟨x, c, hx⟩ := encV_any b
    obtain ⟨y, d, hy⟩ := encV_any ((a ++ [47]) ++ b)
    rw [hx] at h2
    rw [hy] at h3
    exact parts_walk s t _ _ _ _ _ _ _ _ _ _ w hT hcs hct hc1 hc2 h1 h2 h3 (.inl rfl)
  | true =>
    rw [encV_yes _ hv1] at h1
    cases hv2 : validD b with
    | false =>
      rw [encV_no _ hv2] at h2
      obtain ⟨y, d, hy⟩ := encV_any ((a ++ [47]) ++ b)
      rw [hy] at h3
      exact parts_walk s t _ _ _ _ _ _ _ _ _ _ w hT hcs hct hc1 hc2 h1 h2 h3 (.inr (.inl ⟨rfl, rfl⟩))
    | true =>
      rw [encV_yes _ hv2] at h2
      have hv3 : validD ((a ++ [47]) ++ b) = true := by rw [(append_runes (a ++ [47]).length (a ++ [47]) b (Nat.le_refl _) hv1).2, hv2]
      rw [encV_yes _ hv3, encS_parts a b hv1] at h3
      exact parts_walk s t _ _ _ _ _ _ _ _ _ _ w hT hcs hct hc1 hc2 h1 h2 h3 (.inr (.inr ⟨rfl, rfl, rfl, fun w => cat_any _ _ (by omega) w⟩))
end Go.Proofs.YtcddppgnmephnaaDoor
