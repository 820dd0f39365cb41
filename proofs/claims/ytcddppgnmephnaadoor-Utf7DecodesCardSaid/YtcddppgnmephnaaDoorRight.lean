/-
  The program's Right, at every text.
-/
import Derived.Test.YtcddppgnmephnaaDoorSmall
namespace Go.Proofs.YtcddppgnmephnaaDoor
set_option linter.unusedVariables false
open Go.RowKit Go.Lib

/-- a sign that no name has, behind the sign a -/
def badC (a r : Nat) : Bool := decide (r < 32) || (r == 127) || (r == 37) || (r == 42) || ((r == 47) && (a == 47))
def badR : Nat → List Nat → Bool
  | _, [] => false
  | a, r :: rs => badC a r || badR r rs
def inbS : List UInt8 := [73, 78, 66, 79, 88]
def inbL : List UInt8 := [105, 110, 98, 111, 120]
def lastB (l : List UInt8) : Bool := (l == inbS) || (foldL l != inbL)
def rightS (l : List UInt8) : Bool :=
  if validD l = false ∨ l.length = 0 ∨ 60 < l.length then false
  else if (l.getD 0 0).toNat = 47 ∨ (l.getD (l.length - 1) 0).toNat = 47 then false
  else !badR 32 (runesD l) && lastB l

theorem str_at (s : ByteArray) (k : Nat) (h : k < s.size) : (s[k]'h).toNat = (s.data.toList.getD k 0).toNat := by
  have h2 : k < s.data.toList.length := by rw [← Lib.size_eq]; exact h
  simp only [List.getD, List.getElem?_eq_getElem h2, Option.getD_some]
  rfl
theorem str_eq (s : ByteArray) (l : List UInt8) : (s = ⟨l.toArray⟩) ↔ (s.data.toList = l) := by
  constructor
  · rintro rfl; rfl
  · intro h
    rw [← h]

theorem strL_toList (l : List UInt8) : (strL l).toList = l := by rw [Lib.toList_data]; rfl

set_option maxHeartbeats 2000000 in
set_option maxRecDepth 100000 in
theorem right_any (s : ByteArray) (hs : s.size ≤ 9223372036854775807) (w : World) (hT : Tabs w) :
    Calls Tryd.prog 15 #[.string s] w fun e w' => e = .returned (.bool (rightS s.data.toList)) ∧ Below w.heap.size w w' := by
  have hv := Tryd.utf8_ValidString s w hs hT
  obtain ⟨l, hl⟩ : ∃ l, s.data.toList = l := ⟨_, rfl⟩
  have hsl : s.size = l.length := by rw [← hl]; exact Lib.size_eq s
  rw [hl] at hv ⊢
  obtain ⟨R, hR⟩ : ∃ R, rightS l = R := ⟨_, rfl⟩
  rw [hR]
  unfold rightS at hR
  cases hval : validD l with
  | false =>
    rw [hval] at hv
    have hRf : false = R := by rw [← hR, if_pos (Or.inl hval)]
    clear hl hsl hR hval
    subst hRf
    go_enter Tryd.func15, Tryd.ntmps15
    go_wp2_with (go_at_call 17; refine hv.mono ?_; rintro e w1 ⟨rfl, hb1⟩)
    all_goals exact bodyPost_ret (v := .bool false) (by simp [results, Tryd.results15, go_sem]) rfl ⟨rfl, hb1⟩
  | true =>
    rw [hval] at hv
    by_cases h0 : l.length = 0
    · have hz0 : s.size = 0 := by omega
      have hRf : false = R := by rw [← hR, if_pos (Or.inr (Or.inl h0))]
      clear hl hsl h0 hR hval
      subst hRf
      go_enter Tryd.func15, Tryd.ntmps15
      go_wp2_with (go_at_call 17; refine hv.mono ?_; rintro e w1 ⟨rfl, hb1⟩)
      all_goals exact bodyPost_ret (v := .bool false) (by simp [results, Tryd.results15, go_sem]) rfl ⟨rfl, hb1⟩
    · by_cases h60 : 60 < l.length
      · have hz0 : ¬ (s.size = 0) := by omega
        have hz60 : (60 : Int) < (s.size : Int) := by omega
        have hRf : false = R := by rw [← hR, if_pos (Or.inr (Or.inr h60))]
        clear hl hsl h0 h60 hR hval
        subst hRf
        go_enter Tryd.func15, Tryd.ntmps15
        go_wp2_with (go_at_call 17; refine hv.mono ?_; rintro e w1 ⟨rfl, hb1⟩)
        all_goals exact bodyPost_ret (v := .bool false) (by simp [results, Tryd.results15, go_sem]) rfl ⟨rfl, hb1⟩
      · rw [if_neg (fun h => by
          rcases h with h | h | h
          · rw [hval] at h; cases h
          · exact h0 h
          · exact h60 h)] at hR
        obtain ⟨m, hm⟩ : ∃ m, s.size = m + 1 := ⟨s.size - 1, by omega⟩
        have hm60 : m < 60 := by omega
        have hls : 0 < s.size := by omega
        have hlm2 : m < s.size := by omega
        have hx0 := str_at s 0 hls
        have hx1 := str_at s m hlm2
        rw [hl] at hx0 hx1
        have hlm : l.length - 1 = m := by omega
        rw [hlm] at hR
        obtain ⟨x, hx⟩ : ∃ x, (l.getD 0 0).toNat = x := ⟨_, rfl⟩
        obtain ⟨y, hy⟩ : ∃ y, (l.getD m 0).toNat = y := ⟨_, rfl⟩
        rw [hx] at hx0 hR
        rw [hy] at hx1 hR
        have HL := Lib.hid (And.intro hl hsl)
        clear hl hsl hx hy hlm h0 h60 hval
        have hmz : ((m + 1 : Nat) : Int) - 1 = (m : Int) := by omega
        have hz60 : decide ((60 : Int) < (m : Int) + 1) = false := decide_eq_false (by omega)
        have hz00 : ((m : Int) + 1 == 0) = false := by simp; omega
        by_cases hx47 : x = 47
        · have hRf : false = R := by rw [← hR, if_pos (Or.inl hx47)]
          subst hRf
          subst hx47
          clear hR
          go_enter Tryd.func15, Tryd.ntmps15
          go_wp2_with (go_at_call 17; refine hv.mono ?_; rintro e w1 ⟨rfl, hb1⟩)
          all_goals exact bodyPost_ret (v := .bool false) (by simp [results, Tryd.results15, go_sem]) rfl ⟨rfl, hb1⟩
        · have hxz : ((x : Int) == 47) = false := by simp; omega
          by_cases hy47 : y = 47
          · have hRf : false = R := by rw [← hR, if_pos (Or.inr hy47)]
            subst hRf
            subst hy47
            clear hR
            go_enter Tryd.func15, Tryd.ntmps15
            go_wp2_with (go_at_call 17; refine hv.mono ?_; rintro e w1 ⟨rfl, hb1⟩)
            all_goals exact bodyPost_ret (v := .bool false) (by simp [results, Tryd.results15, go_sem]) rfl ⟨rfl, hb1⟩
          · have hyz : ((y : Int) == 47) = false := by simp; omega
            rw [if_neg (by omega)] at hR
            have HR := Lib.hid hR
            clear hR
            go_enter Tryd.func15, Tryd.ntmps15
            go_wp2_with (go_at_call 17; refine hv.mono ?_; rintro e w1 ⟨rfl, hb1⟩; have HB := Lib.hid hb1; have hsz1 := hb1.size; clear hb1)
            obtain ⟨p, hp⟩ : ∃ p, w1.heap.size = p := ⟨_, rfl⟩
            rw [hp]
            have HP := Lib.hid hp
            rw [hp] at hsz1
            go_loopw [3] (fun i wr => ∃ (pos a : Nat), i = .int .i32 a ∧ wr.heap[p]? = some (.stringIter s pos) ∧ Below p w1 wr ∧ badR a (runesD (l.drop pos)) = badR 32 (runesD l) ∧ pos ≤ m + 1 ∧ a ≤ 1114111) (fun _ wr => s.size - wr.iterPos p)
            case atStart =>
              refine ⟨0, 32, rfl, ?_, ?_, by simp, by omega, by omega⟩
              · have := World.iter_heap w1 s 0
                rw [hp] at this
                exact this
              · exact (Below.refl _ _).alloc (by omega) _
            case round =>
              obtain ⟨pos, a, rfl, hit, hbw, hf, hps, ha⟩ := hrel
              have hsz2 : p < wr.heap.size := (Array.getElem?_eq_some_iff.1 hit).1
              have hdd := decodeL_drop s pos
              rw [HL.out.1] at hdd
              by_cases hpp : pos < s.size
              · have hnx : ∀ ty, (Instr.next (.pointer (some ⟨p, 0, none⟩)) true ty).run Tryd.prog wr = _ := fun ty => Lib.run_next_any_at wr p s pos ty hit hpp
                have hne : l.drop pos ≠ [] := by
                  intro e
                  have := congrArg List.length e
                  rw [List.length_drop, ← HL.out.2] at this
                  simp at this
                  omega
                have hru := decodeL_rune (l.drop pos)
                have hwl := decodeL_le (l.drop pos) hne
                have hw1 := decodeL_width (l.drop pos)
                rw [List.length_drop, ← HL.out.2] at hwl
                rw [runesD_step _ hne, List.drop_drop] at hf
                rw [hdd] at hru hwl hw1 hf
                obtain ⟨r, hr⟩ : ∃ r, (Utf8.decode s pos).1 = r := ⟨_, rfl⟩
                obtain ⟨D, hD⟩ : ∃ D, (Utf8.decode s pos).2 = D := ⟨_, rfl⟩
                rw [hr] at hru hf
                rw [hD] at hwl hw1 hf
                rw [hr, hD] at hnx
                have hit2 := Lib.iterAt_heap wr p s pos (pos + D) hit
                have hbw2 := Lib.below_iterAt hbw (k := p) (by omega) s (pos + D)
                have HS2 := Lib.hid (And.intro hit2 hbw2)
                have HF := Lib.hid hf
                clear hit2 hbw2 hf hdd hr hD
                cases hbad : badC a r with
                | true =>
                  have hRf : false = R := by rw [← HR.out, ← HF.out]; simp [badR, hbad]
                  subst hRf
                  have hq1 : ∀ q : Nat, q ≠ r → ((r : Int) == (q : Int)) = false := fun q hq => by simp; omega
                  have fin : ∀ w4 : World, w4 = wr.iterAt p s (pos + D) → Below w.heap.size w w4 := fun w4 e => by
                    subst e
                    exact HB.out.trans (HS2.out.2.mono hsz1)
                  have HFN := Lib.hid fin
                  clear fin
                  by_cases h32 : r < 32
                  · have g1 : decide ((r : Int) < 32) = true := decide_eq_true (by omega)
                    clear hbad hq1
                    go_wp2
                    exact bodyPost_ret (v := .bool false) (by simp [results, Tryd.results15, go_sem]) rfl ⟨rfl, HFN.out _ rfl⟩
                  · have g1 : decide ((r : Int) < 32) = false := decide_eq_false (by omega)
                    by_cases h127 : r = 127
                    · subst h127
                      clear hbad hq1
                      go_wp2
                      exact bodyPost_ret (v := .bool false) (by simp [results, Tryd.results15, go_sem]) rfl ⟨rfl, HFN.out _ rfl⟩
                    · have g2 : ((r : Int) == 127) = false := by simp; omega
                      by_cases h37 : r = 37
                      · subst h37
                        clear hbad hq1
                        go_wp2
                        exact bodyPost_ret (v := .bool false) (by simp [results, Tryd.results15, go_sem]) rfl ⟨rfl, HFN.out _ rfl⟩
                      · have g3 : ((r : Int) == 37) = false := by simp; omega
                        by_cases h42 : r = 42
                        · subst h42
                          clear hbad hq1
                          go_wp2
                          exact bodyPost_ret (v := .bool false) (by simp [results, Tryd.results15, go_sem]) rfl ⟨rfl, HFN.out _ rfl⟩
                        · have g4 : ((r : Int) == 42) = false := by simp; omega
                          have h47 : r = 47 ∧ a = 47 := by
                            simp [badC, h32, h127, h37, h42] at hbad
                            exact hbad
                          obtain ⟨rfl, rfl⟩ := h47
                          clear hbad hq1
                          go_wp2
                          exact bodyPost_ret (v := .bool false) (by simp [results, Tryd.results15, go_sem]) rfl ⟨rfl, HFN.out _ rfl⟩
                | false =>
                  have hbad' := hbad
                  simp only [badC, Bool.or_eq_false_iff, decide_eq_false_iff_not, beq_eq_false_iff_ne] at hbad'
                  obtain ⟨⟨⟨⟨h32, h127⟩, h37⟩, h42⟩, h47⟩ := hbad'
                  have g1 : decide ((r : Int) < 32) = false := decide_eq_false (by omega)
                  have g2 : ((r : Int) == 127) = false := by simp; omega
                  have g3 : ((r : Int) == 37) = false := by simp; omega
                  have g4 : ((r : Int) == 42) = false := by simp; omega
                  have hf2 : badR r (runesD (l.drop (pos + D))) = badR 32 (runesD l) := by
                    rw [← HF.out]
                    simp [badR, hbad]
                  have HF2 := Lib.hid hf2
                  clear hbad hf2 h32 h127 h37 h42
                  by_cases h47r : r = 47
                  · have h47a : a ≠ 47 := by
                      intro e
                      subst e h47r
                      simp at h47
                    have g5 : ((a : Int) == 47) = false := by simp; omega
                    subst h47r
                    clear h47
                    go_wp2
                    go_roundw
                    case rel => exact ⟨pos + D, 47, rfl, HS2.out.1, HS2.out.2, HF2.out, by omega, by omega⟩
                    case measure =>
                      have hit3 := HS2.out.1
                      simp only [World.iterPos, hit3, hit]
                      omega
                  · have g5 : ((r : Int) == 47) = false := by simp; omega
                    clear h47
                    go_wp2
                    go_roundw
                    case rel => exact ⟨pos + D, r, rfl, HS2.out.1, HS2.out.2, HF2.out, by omega, hru⟩
                    case measure =>
                      have hit3 := HS2.out.1
                      simp only [World.iterPos, hit3, hit]
                      omega
              · have hnx : ∀ ty, (Instr.next (.pointer (some ⟨p, 0, none⟩)) true ty).run Tryd.prog wr = _ := fun ty => Lib.run_next_end_at wr p s pos ty hit hpp
                have hd : l.drop pos = [] := List.drop_eq_nil_of_le (by rw [← HL.out.2]; omega)
                rw [hd, runesD_nil] at hf
                have hb0 : badR 32 (runesD l) = false := by rw [← hf]; rfl
                have HRL : Hid (lastB l = R) := by
                  apply Lib.hid
                  rw [← HR.out, hb0]
                  rfl
                have HBW := Lib.hid hbw
                clear hf hb0 hdd hd hbw
                have hsm := small_any s (by omega) wr
                rw [HL.out.1] at hsm
                have htl : s.toList = l := by rw [Lib.toList_data, HL.out.1]
                have htl2 := strL_toList (foldL l)
                obtain ⟨fl, hfl⟩ : ∃ fl, foldL l = fl := ⟨_, rfl⟩
                rw [hfl] at hsm htl2
                have HFL := Lib.hid hfl
                clear hfl
                cases hb1 : (l == [73, 78, 66, 79, 88]) with
                | true =>
                  have hRf : true = R := by
                    rw [← HRL.out, lastB, inbS, hb1]
                    rfl
                  subst hRf
                  clear hsm
                  go_wp2
                  go_ret
                  exact ⟨rfl, HB.out.trans (HBW.out.mono hsz1)⟩
                | false =>
                  cases hb2 : (fl == [105, 110, 98, 111, 120]) with
                  | true =>
                    have hRf : false = R := by
                      rw [← HRL.out, lastB, inbS, hb1, HFL.out]
                      simp only [bne, inbL, hb2]
                      rfl
                    subst hRf
                    go_wp2_with (go_at_call 27; refine hsm.mono ?_; rintro e w4 ⟨rfl, hb4⟩; have HB4 := Lib.hid hb4; clear hb4)
                    go_ret
                    exact ⟨rfl, HB.out.trans ((HBW.out.trans (HB4.out.mono (by omega))).mono hsz1)⟩
                  | false =>
                    have hRf : true = R := by
                      rw [← HRL.out, lastB, inbS, hb1, HFL.out]
                      simp only [bne, inbL, hb2]
                      rfl
                    subst hRf
                    go_wp2_with (go_at_call 27; refine hsm.mono ?_; rintro e w4 ⟨rfl, hb4⟩; have HB4 := Lib.hid hb4; clear hb4)
                    go_ret
                    exact ⟨rfl, HB.out.trans ((HBW.out.trans (HB4.out.mono (by omega))).mono hsz1)⟩
end Go.Proofs.YtcddppgnmephnaaDoor
