/-
  Utf7Back: the walk.
-/
import Derived.Test.YtcddppgnmephnaaDoorDec
namespace Go.Proofs.YtcddppgnmephnaaDoor
set_option linter.unusedVariables false
open Go.RowKit Go.Lib

/-- signs 20 to 7e alone -/
def Wire (l : List UInt8) : Prop := ∀ c ∈ l, 32 ≤ c.toNat ∧ c.toNat ≤ 126
theorem wire_digit (k : Nat) (hk : k < 64) : 32 ≤ (digit k).toNat ∧ (digit k).toNat ≤ 126 := by
  have : ∀ k : Fin 64, 32 ≤ (digit k.val).toNat ∧ (digit k.val).toNat ≤ 126 := by decide +kernel
  exact this ⟨k, hk⟩
theorem wire_app {a b : List UInt8} (ha : Wire a) (hb : Wire b) : Wire (a ++ b) := fun c hc => (List.mem_append.1 hc).elim (ha c) (hb c)
theorem wire_one {c : UInt8} (h : 32 ≤ c.toNat ∧ c.toNat ≤ 126) : Wire [c] := fun d hd => by
  obtain rfl : d = c := by simpa using hd
  exact h
theorem wire_ems : ∀ (v f b : Nat), Wire (ems v f b)
  | v, 0, b => fun c hc => by simp [ems] at hc
  | v, f + 1, b => by
    unfold ems
    split
    · refine wire_app (wire_one (wire_digit _ (Nat.mod_lt _ (by decide)))) (wire_ems v f _)
    · intro c hc
      cases hc
theorem wire_put (W : Wr) (u : Nat) (h : Wire W.out) : Wire (putS W u).out := wire_app h (wire_ems _ _ _)
theorem wire_end (W : Wr) (h : Wire W.out) : Wire (endS W).out := by
  unfold endS
  split
  · refine wire_app (wire_app h ?_) (wire_one (by decide))
    split
    · exact wire_one (wire_digit _ (Nat.mod_lt _ (by decide)))
    · intro c hc; cases hc
  · exact h
theorem wire_sign (W : Wr) (r : Nat) (h : Wire W.out) : Wire (signS W r).out := by
  unfold signS
  split
  · rename_i hp
    have hr : 32 ≤ r ∧ r ≤ 126 := by simpa [plainR] using hp
    have h1 : Wire [r.toUInt8] := wire_one (by rw [Nat.toUInt8_eq, UInt8.toNat_ofNat']; omega)
    refine wire_app (wire_end W h) ?_
    split
    · exact wire_app h1 (wire_one (c := 45) (by decide))
    · exact h1
  · have ho : Wire (openS W).out := by
      unfold openS
      split
      · exact h
      · exact wire_app h (wire_one (by decide))
    unfold farS
    split
    · exact wire_put _ _ ho
    · exact wire_put _ _ (wire_put _ _ ho)
theorem wire_fold : ∀ (rs : List Nat) (W : Wr), Wire W.out → Wire (rs.foldl signS W).out
  | [], W, h => h
  | r :: rs, W, h => wire_fold rs _ (wire_sign W r h)
theorem wire_enc (l : List UInt8) : Wire (encS l) := wire_end _ (wire_fold _ _ (fun c hc => by cases hc))

set_option maxHeartbeats 1000000 in
set_option maxRecDepth 100000 in
theorem back_walk (s t : ByteArray) (w : World) (hT : Tabs w) : Calls Tryd.prog 5 #[.string s, .string t] w fun e w' => e = .returned (.bool true) ∧ Below w.heap.size w w' := by
  obtain ⟨nl, hn, hnl⟩ : ∃ a, cutS s = strL a ∧ a.length ≤ 500 := ⟨(cutS s).data.toList, rfl, by rw [← Lib.size_eq]; exact cutS_size s⟩
  obtain ⟨sl, hs, hsl⟩ : ∃ b, cutS t = strL b ∧ b.length ≤ 500 := ⟨(cutS t).data.toList, rfl, by rw [← Lib.size_eq]; exact cutS_size t⟩
  have hcs := fun w => cut_any s w
  have hct := fun w => cut_any t w
  rw [hn] at hcs
  rw [hs] at hct
  clear hn hs
  have hD := fun w hT => dec_any sl (by omega) w hT
  have hY : ∀ y, decS sl = some y → ∀ w, Tabs w → Calls Tryd.prog 13 #[.string (strL sl)] w fun e w' => e = .returned (.tuple #[.string (strL y), .int .i64 0]) ∧ Below w.heap.size w w' ∧ y.length ≤ 80000 := fun y hd w hT => dec_yes sl y (by omega) hd w hT
  have h10 := fun w hT => enc_str nl (by omega) w hT
  obtain ⟨N, hN⟩ : ∃ N, strL nl = N := ⟨_, rfl⟩
  obtain ⟨S, hS⟩ : ∃ S, strL sl = S := ⟨_, rfl⟩
  rw [hN] at hcs h10
  rw [hS] at hct hD hY
  have HSS := Lib.hid hS
  have HAW := Lib.hid (fun w hT => awake_any w hT)
  have HT := Lib.hid hT
  have HD := Lib.hid hD
  have HY := Lib.hid hY
  clear hT hD hY hS
  cases hv : validD nl with
  | false =>
    rw [encV_no nl hv] at h10
    have H10 := Lib.hid h10
    clear h10 hv hN
    go_enter Tryd.func5, Tryd.ntmps5
    go_upto_region 2 with (go_at_call 9; first | (refine (hcs _).mono ?_; rintro e w0 ⟨rfl, rfl⟩) | (refine (hct _).mono ?_; rintro e w0 ⟨rfl, rfl⟩))
    clear hcs hct
    go_upto_region 12 with (go_at_call 10; refine (H10.out _ HT.out).mono ?_; rintro e w1 ⟨rfl, hb1⟩; have HB1 := Lib.hid hb1; have hs1 := hb1.size; have HT1 := Lib.hid (HT.out.below hb1 HT.out.size); clear hb1)
    cases hd : decS sl with
    | none =>
      have h13 : ∀ w, Tabs w → Calls Tryd.prog 13 #[.string S] w fun e w' => e = .returned (.tuple #[.string ⟨#[]⟩, .int .i64 9]) ∧ Below w.heap.size w w' := fun w hT => by
        have := HD.out w hT
        unfold decV at this
        rw [hd] at this
        exact this
      have H13 := Lib.hid h13
      clear h13 hd
      go_wp2_with (first
        | (go_at_call 13; refine (H13.out _ (HT1.out)).mono ?_; rintro e w7 ⟨rfl, hb7⟩; have HB7 := Lib.hid ((HB1.out).trans (hb7.mono (hs1))); have hs7 := hb7.size; have HT7 := Lib.hid ((HT1.out).below hb7 (HT1.out).size); clear hb7)
        | (go_at_call 12; refine (HAW.out _ HT7.out).mono ?_; rintro e w8 ⟨rfl, hb8⟩; have HB8 := Lib.hid (HB7.out.trans (hb8.mono (by omega))); clear hb8))
      all_goals (go_ret; exact ⟨rfl, HB8.out⟩)
    | some y =>
      obtain ⟨hy1, hy2⟩ := decS_some sl y hd
      have h13 : ∀ w, Tabs w → Calls Tryd.prog 13 #[.string S] w fun e w' => e = .returned (.tuple #[.string (strL y), .int .i64 0]) ∧ Below w.heap.size w w' ∧ y.length ≤ 80000 := HY.out y hd
      have h10 : ∀ w, Tabs w → y.length ≤ 80000 → Calls Tryd.prog 10 #[.string (strL y)] w fun e w' => e = .returned (.tuple #[.string S, .int .i64 0]) ∧ Below w.heap.size w w' := fun w hT hl => by
        have := enc_str y (by omega) w hT
        rw [encV_yes y hy1, hy2, HSS.out] at this
        exact this
      obtain ⟨Y, hY⟩ : ∃ Y, strL y = Y := ⟨_, rfl⟩
      rw [hY] at h13 h10
      have H13 := Lib.hid h13
      have H10 := Lib.hid h10
      clear h13 h10 hd hy1 hy2 hY
      go_wp2_with (first
        | (go_at_call 13; refine (H13.out _ (HT1.out)).mono ?_; rintro e w7 ⟨rfl, hb7, hy7⟩; have HB7 := Lib.hid ((HB1.out).trans (hb7.mono (hs1))); have hs7 := hb7.size; have HT7 := Lib.hid ((HT1.out).below hb7 (HT1.out).size); clear hb7)
        | (go_at_call 10; refine (H10.out _ HT7.out hy7).mono ?_; rintro e w8 ⟨rfl, hb8⟩; have HB8 := Lib.hid (HB7.out.trans (hb8.mono (by omega))); have hs8 := hb8.size; have HT8 := Lib.hid (HT7.out.below hb8 HT7.out.size); clear hb8)
        | (go_at_call 12; refine (HAW.out _ HT8.out).mono ?_; rintro e w9 ⟨rfl, hb9⟩; have HB9 := Lib.hid (HB8.out.trans (hb9.mono (by omega))); clear hb9))
      all_goals (go_ret; exact ⟨rfl, HB9.out⟩)
  | true =>
    rw [encV_yes nl hv] at h10
    have hlx := encS_length nl
    have hdx := fun w hT => dec_any (encS nl) (by omega) w hT
    unfold decV at hdx
    rw [decS_enc nl hv] at hdx
    simp only at hdx
    rw [hN] at hdx
    have hwire := wire_enc nl
    obtain ⟨xl, hxl⟩ : ∃ xl, encS nl = xl := ⟨_, rfl⟩
    rw [hxl] at h10 hlx hdx hwire
    obtain ⟨X, hX⟩ : ∃ X, strL xl = X := ⟨_, rfl⟩
    have hxs : X.size = xl.length := by rw [← hX, strL_size]
    have hat : ∀ k (h : k < X.size), 32 ≤ (X[k]'h).toNat ∧ (X[k]'h).toNat ≤ 126 := by
      subst hX
      intro k h
      rw [str_at _ k h]
      refine hwire _ ?_
      have h2 : k < xl.length := by rw [← strL_size]; exact h
      show xl.getD k 0 ∈ xl
      simp [List.getD, List.getElem?_eq_getElem h2]
    rw [hX] at h10 hdx
    have H10 := Lib.hid h10
    have HDX := Lib.hid hdx
    have HAT := Lib.hid hat
    have hxz : X.size ≤ 100000 := by omega
    clear h10 hv hN hdx hwire hxl hX hxs hat hlx
    go_enter Tryd.func5, Tryd.ntmps5
    go_upto_region 2 with (go_at_call 9; first | (refine (hcs _).mono ?_; rintro e w0 ⟨rfl, rfl⟩) | (refine (hct _).mono ?_; rintro e w0 ⟨rfl, rfl⟩))
    clear hcs hct
    go_upto_region 4 with (go_at_call 10; refine (H10.out _ HT.out).mono ?_; rintro e w1 ⟨rfl, hb1⟩; have HB1 := Lib.hid hb1; have hs1 := hb1.size; have HT1 := Lib.hid (HT.out.below hb1 HT.out.size); clear hb1)
    go_wp2_with (go_at_call 13; refine (HDX.out _ HT1.out).mono ?_; rintro e w2 ⟨rfl, hb2⟩; have HB2 := Lib.hid (HB1.out.trans (hb2.mono hs1)); have hs2 := hb2.size; have HT2 := Lib.hid (HT1.out.below hb2 HT1.out.size); clear hb2)
    go_loopw [9] (fun i wr => ∃ k : Nat, i = .int .i64 (k : Int) ∧ wr = w2 ∧ k ≤ X.size) (fun i _ => X.size - (RowKit.intOf i).toNat)
    case atStart => exact ⟨0, rfl, rfl, by omega⟩
    case round =>
      obtain ⟨k, rfl, rfl, hk⟩ := hrel
      by_cases hkl : k < X.size
      · have hkz : (k : Int) < (X.size : Int) := by omega
        obtain ⟨a1, a2⟩ := HAT.out k hkl
        obtain ⟨x, hx⟩ : ∃ x, (X[k]'hkl).toNat = x := ⟨_, rfl⟩
        rw [hx] at a1 a2
        have b1 : ¬ ((x : Int) < 32) := by omega
        have b2 : ¬ ((126 : Int) < (x : Int)) := by omega
        go_wp2
        go_roundw
        case rel => exact ⟨k + 1, by simp, by first | rfl | trivial, by omega⟩
        case measure => simp [RowKit.intOf]; omega
      · have hkz : ¬ ((k : Int) < (X.size : Int)) := by omega
        go_upto_region 12 with (fail)
        cases hd : decS sl with
        | none =>
          have h13 : ∀ w, Tabs w → Calls Tryd.prog 13 #[.string S] w fun e w' => e = .returned (.tuple #[.string ⟨#[]⟩, .int .i64 9]) ∧ Below w.heap.size w w' := fun w hT => by
            have := HD.out w hT
            unfold decV at this
            rw [hd] at this
            exact this
          have H13 := Lib.hid h13
          clear h13 hd
          go_wp2_with (first
            | (go_at_call 13; refine (H13.out _ (HT2.out)).mono ?_; rintro e w7 ⟨rfl, hb7⟩; have HB7 := Lib.hid ((HB2.out).trans (hb7.mono (by omega))); have hs7 := hb7.size; have HT7 := Lib.hid ((HT2.out).below hb7 (HT2.out).size); clear hb7)
            | (go_at_call 12; refine (HAW.out _ HT7.out).mono ?_; rintro e w8 ⟨rfl, hb8⟩; have HB8 := Lib.hid (HB7.out.trans (hb8.mono (by omega))); clear hb8))
          all_goals (go_ret; exact ⟨rfl, HB8.out⟩)
        | some y =>
          obtain ⟨hy1, hy2⟩ := decS_some sl y hd
          have h13 : ∀ w, Tabs w → Calls Tryd.prog 13 #[.string S] w fun e w' => e = .returned (.tuple #[.string (strL y), .int .i64 0]) ∧ Below w.heap.size w w' ∧ y.length ≤ 80000 := HY.out y hd
          have h10 : ∀ w, Tabs w → y.length ≤ 80000 → Calls Tryd.prog 10 #[.string (strL y)] w fun e w' => e = .returned (.tuple #[.string S, .int .i64 0]) ∧ Below w.heap.size w w' := fun w hT hl => by
            have := enc_str y (by omega) w hT
            rw [encV_yes y hy1, hy2, HSS.out] at this
            exact this
          obtain ⟨Y, hY⟩ : ∃ Y, strL y = Y := ⟨_, rfl⟩
          rw [hY] at h13 h10
          have H13 := Lib.hid h13
          have H10 := Lib.hid h10
          clear h13 h10 hd hy1 hy2 hY
          go_wp2_with (first
            | (go_at_call 13; refine (H13.out _ (HT2.out)).mono ?_; rintro e w7 ⟨rfl, hb7, hy7⟩; have HB7 := Lib.hid ((HB2.out).trans (hb7.mono (by omega))); have hs7 := hb7.size; have HT7 := Lib.hid ((HT2.out).below hb7 (HT2.out).size); clear hb7)
            | (go_at_call 10; refine (H10.out _ HT7.out hy7).mono ?_; rintro e w8 ⟨rfl, hb8⟩; have HB8 := Lib.hid (HB7.out.trans (hb8.mono (by omega))); have hs8 := hb8.size; have HT8 := Lib.hid (HT7.out.below hb8 HT7.out.size); clear hb8)
            | (go_at_call 12; refine (HAW.out _ HT8.out).mono ?_; rintro e w9 ⟨rfl, hb9⟩; have HB9 := Lib.hid (HB8.out.trans (hb9.mono (by omega))); clear hb9))
          all_goals (go_ret; exact ⟨rfl, HB9.out⟩)
end Go.Proofs.YtcddppgnmephnaaDoor
