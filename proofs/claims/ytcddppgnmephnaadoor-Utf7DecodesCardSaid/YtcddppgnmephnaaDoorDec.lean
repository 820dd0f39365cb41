/-
  The program's Decode, at every text.
-/
import Derived.Test.YtcddppgnmephnaaDoorRead
import Derived.Test.YtcddppgnmephnaaDoorAwake
namespace Go.Proofs.YtcddppgnmephnaaDoor
set_option linter.unusedVariables false
open Go.RowKit Go.Lib

/-- which text is encoded so -/
def decS (l : List UInt8) : Option (List UInt8) := match readD l with
  | none => none
  | some n => if validD n = true ∧ encS n = l then some n else none
def decV (l : List UInt8) : Value := match decS l with
  | none => .tuple #[.string (strL []), .int .i64 9]
  | some n => .tuple #[.string (strL n), .int .i64 0]
theorem decS_enc (n : List UInt8) (h : validD n = true) : decS (encS n) = some n := by
  simp [decS, read_enc n h, h]
theorem decS_some (l n : List UInt8) (h : decS l = some n) : validD n = true ∧ encS n = l := by
  unfold decS at h
  split at h
  · cases h
  · split at h
    · rename_i hn
      cases h
      exact hn
    · cases h
theorem read_no (l : List UInt8) (hl : l.length ≤ 20000) (h : readD l = none) (w : World) :
    Calls Tryd.prog 24 #[.string (strL l)] w fun e w' => (∃ t, e = .returned (.tuple #[.string t, .bool false])) ∧ Below w.heap.size w w' := by
  refine (read_any l hl w).mono ?_
  rintro e w1 ⟨⟨t, rfl, _⟩, hb⟩
  rw [h]
  exact ⟨⟨t, rfl⟩, hb⟩
theorem read_yes (l n : List UInt8) (hl : l.length ≤ 20000) (h : readD l = some n) (w : World) :
    Calls Tryd.prog 24 #[.string (strL l)] w fun e w' => e = .returned (.tuple #[.string (strL n), .bool true]) ∧ Below w.heap.size w w' ∧ n.length ≤ 80000 := by
  refine (read_any l hl w).mono ?_
  rintro e w1 ⟨⟨t, rfl, ht⟩, hb⟩
  obtain ⟨h1, h2⟩ := ht n h
  rw [h, h1]
  exact ⟨rfl, hb, by omega⟩

set_option maxHeartbeats 1000000 in
set_option maxRecDepth 100000 in
theorem dec_full (l : List UInt8) (hl : l.length ≤ 20000) (w : World) (hT : Tabs w) :
    Calls Tryd.prog 13 #[.string (strL l)] w fun e w' => e = .returned (decV l) ∧ Below w.heap.size w w' ∧ ∀ n, decS l = some n → n.length ≤ 80000 := by
  have HT := Lib.hid hT
  unfold decV decS
  cases hr : readD l with
  | none =>
    have h := read_no l hl hr w
    simp only
    obtain ⟨S, hS⟩ : ∃ S, strL l = S := ⟨_, rfl⟩
    rw [hS] at h ⊢
    clear hT hr hS
    go_enter Tryd.func13, Tryd.ntmps13
    go_wp2_with (go_at_call 24; refine h.mono ?_; rintro e w1 ⟨⟨t, rfl⟩, hb1⟩; have HB1 := Lib.hid hb1; clear hb1)
    go_ret2
    exact ⟨rfl, HB1.out, fun m hm => by cases hm⟩
  | some n =>
    have h := read_yes l n hl hr w
    have he : ∀ w, Tabs w → n.length ≤ 80000 → Calls Tryd.prog 10 #[.string (strL n)] w fun e w' => e = .returned (encV n) ∧ Below w.heap.size w w' := fun w hT hn => enc_str n (by omega) w hT
    simp only
    cases hv : validD n with
    | false =>
      rw [encV_no n hv] at he
      rw [if_neg (by simp)]
      have HE := Lib.hid he
      obtain ⟨S, hS⟩ : ∃ S, strL l = S := ⟨_, rfl⟩
      obtain ⟨N, hN⟩ : ∃ N, strL n = N := ⟨_, rfl⟩
      rw [hS] at h ⊢
      rw [hN] at h HE
      clear hT hr hS he hv hN
      go_enter Tryd.func13, Tryd.ntmps13
      go_wp2_with (first
        | (go_at_call 24; refine h.mono ?_; rintro e w1 ⟨rfl, hb1, hn1⟩; have HB1 := Lib.hid hb1; have hs1 := hb1.size; have HT1 := Lib.hid (HT.out.below hb1 HT.out.size); clear hb1)
        | (go_at_call 10; refine (HE.out _ HT1.out hn1).mono ?_; rintro e w2 ⟨rfl, hb2⟩; have HB2 := Lib.hid (HB1.out.trans (hb2.mono hs1)); clear hb2))
      all_goals (go_ret2; exact ⟨rfl, HB2.out, fun m hm => by cases hm⟩)
    | true =>
      rw [encV_yes n hv] at he
      by_cases hq : encS n = l
      · rw [if_pos ⟨rfl, hq⟩]
        rw [hq] at he
        have HE := Lib.hid he
        obtain ⟨S, hS⟩ : ∃ S, strL l = S := ⟨_, rfl⟩
        obtain ⟨N, hN⟩ : ∃ N, strL n = N := ⟨_, rfl⟩
        rw [hS] at h HE ⊢
        rw [hN] at h HE
        simp only [hN]
        clear hT hr hS he hv hN
        go_enter Tryd.func13, Tryd.ntmps13
        go_wp2_with (first
          | (go_at_call 24; refine h.mono ?_; rintro e w1 ⟨rfl, hb1, hn1⟩; have HB1 := Lib.hid hb1; have hs1 := hb1.size; have HT1 := Lib.hid (HT.out.below hb1 HT.out.size); clear hb1)
          | (go_at_call 10; refine (HE.out _ HT1.out hn1).mono ?_; rintro e w2 ⟨rfl, hb2⟩; have HB2 := Lib.hid (HB1.out.trans (hb2.mono hs1)); clear hb2))
        all_goals (go_ret2; exact ⟨rfl, HB2.out, fun m hm => by cases hm; exact hn1⟩)
      · rw [if_neg (fun h => hq h.2)]
        have hbne : ((strL (encS n)).toList == (strL l).toList) = false := by rw [strL_toList, strL_toList]; exact beq_eq_false_iff_ne.2 hq
        obtain ⟨S, hS⟩ : ∃ S, strL l = S := ⟨_, rfl⟩
        obtain ⟨N, hN⟩ : ∃ N, strL n = N := ⟨_, rfl⟩
        obtain ⟨M, hM⟩ : ∃ M, strL (encS n) = M := ⟨_, rfl⟩
        rw [hM] at he hbne
        have HE := Lib.hid he
        rw [hS] at h hbne ⊢
        rw [hN] at h HE
        clear hT hr hS he hv hN hM hq
        go_enter Tryd.func13, Tryd.ntmps13
        go_wp2_with (first
          | (go_at_call 24; refine h.mono ?_; rintro e w1 ⟨rfl, hb1, hn1⟩; have HB1 := Lib.hid hb1; have hs1 := hb1.size; have HT1 := Lib.hid (HT.out.below hb1 HT.out.size); clear hb1)
          | (go_at_call 10; refine (HE.out _ HT1.out hn1).mono ?_; rintro e w2 ⟨rfl, hb2⟩; have HB2 := Lib.hid (HB1.out.trans (hb2.mono hs1)); clear hb2))
        all_goals (go_ret2; exact ⟨rfl, HB2.out, fun m hm => by cases hm⟩)

theorem dec_any (l : List UInt8) (hl : l.length ≤ 20000) (w : World) (hT : Tabs w) :
    Calls Tryd.prog 13 #[.string (strL l)] w fun e w' => e = .returned (decV l) ∧ Below w.heap.size w w' :=
  (dec_full l hl w hT).mono fun e w' h => ⟨h.1, h.2.1⟩
theorem dec_yes (l y : List UInt8) (hl : l.length ≤ 20000) (hd : decS l = some y) (w : World) (hT : Tabs w) :
    Calls Tryd.prog 13 #[.string (strL l)] w fun e w' => e = .returned (.tuple #[.string (strL y), .int .i64 0]) ∧ Below w.heap.size w w' ∧ y.length ≤ 80000 := by
  refine (dec_full l hl w hT).mono fun e w' h => ?_
  have h1 := h.1
  unfold decV at h1
  rw [hd] at h1
  exact ⟨h1, h.2.1, h.2.2 y hd⟩
end Go.Proofs.YtcddppgnmephnaaDoor
