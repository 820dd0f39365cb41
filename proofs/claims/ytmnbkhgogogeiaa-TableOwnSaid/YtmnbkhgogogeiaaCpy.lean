/-
  CopyBytes, Spoil.
-/
import Derived.Test.YtmnbkhgogogeiaaOpn
namespace Go.Proofs.Ytmnbkhgogogeiaa
set_option linter.unusedVariables false
open Go.RowKit

set_option maxRecDepth 100000 in
set_option maxHeartbeats 4000000 in
theorem cbytes_any {w : World} {v : Value} {l : List Nat} (h : RowB w v l) (hl : l.length ≤ 1000000) : Calls Try.prog 19 #[v] w fun e w' => ∃ o, e = .returned o ∧ OwnB w' w.heap.size o l ∧ Below w.heap.size w w' := by
  have HH := Lib.hid h
  obtain ⟨a, n, c, rfl, -⟩ := h
  go_enter Try.func19, Try.ntmps19
  go_wp2_with (at_builtin; refine appR (v := .slice none 0 0) (l := []) rfl (.const (.slice none 0 0)) (.tmp 3) rfl (World.ownsRow_nil _ _ _ _) HH.out (Below.refl _ _) (Nat.le_refl _) rfl rfl (by simp; omega) ?_)
  intro ao co n D w2 hD ho hb _
  have HD := Lib.hid hD.out.1
  have HO : Hid (OwnB w2 w.heap.size (.slice ao n co) D) := Lib.hid ho
  have HB := Lib.hid hb
  clear hD ho hb
  go_wp2_with fail
  go_ret
  have hl2 := HO.out
  rw [HD.out] at hl2
  exact ⟨_, rfl, hl2, HB.out⟩
set_option maxRecDepth 100000 in
set_option maxHeartbeats 4000000 in
theorem spoil_any {w : World} {B : Nat} {v : Value} {L : List Nat} (ho : OwnB w B v L) (hL : L.length ≤ 1000000) :
    Calls Try.prog 18 #[v] w fun e w' => e = .returned (.tuple #[]) ∧ Beside (fun k => v.ownBlock = some k) w w' := by
  obtain ⟨oa, c, e⟩ := ho.shape
  subst e
  by_cases h0 : L.length = 0
  · obtain rfl := List.eq_nil_of_length_eq_zero h0
    clear ho
    go_enter Try.func18, Try.ntmps18
    go_wp2_with fail
    go_loopw [2] (fun i wr => i = .int .i64 0 ∧ wr = w) (fun _ _ => 0)
    case atStart => exact ⟨rfl, rfl⟩
    case round =>
      obtain ⟨rfl, rfl⟩ := hrel
      go_wp2_with fail
      exact bodyPost_end (v := .tuple #[]) (by simp [results, Try.results18, go_sem]) rfl ⟨rfl, Beside.refl _ _⟩
  · obtain ⟨g, cap, e, -, -⟩ := ho.some (by omega)
    obtain ⟨rfl, -, rfl⟩ := Value.slice.inj e
    have HO := Lib.hid ho
    have HL := Lib.hid hL
    clear ho e h0 hL
    obtain ⟨n, hn⟩ : ∃ n, L.length = n := ⟨_, rfl⟩
    rw [hn] at HO
    rw [hn]
    have HN := Lib.hid hn
    clear hn
    have hn1 : n ≤ 1000000 := by have := HL.out; have := HN.out; omega
    go_enter Try.func18, Try.ntmps18
    go_wp2_with fail
    go_loopw [2] (fun i wr => ∃ (p : Nat) (M : List Nat), p ≤ n ∧ i = .int .i64 (p : Int) ∧ M.length = n ∧ OwnB wr B (.slice (some ⟨g, 0, none⟩) n c) M ∧ Beside (fun k => k = g) w wr) (fun i _ => n - (RowKit.intOf i).toNat)
    case atStart => exact ⟨0, L, Nat.zero_le _, rfl, HN.out, HO.out, Beside.refl _ _⟩
    case round =>
      obtain ⟨p, M, hp, rfl, hM, hown, hbes⟩ := hrel
      by_cases hlt : p < n
      · have hpM : p < M.length := by omega
        have hcell := hown.cell hM.symm p hpM
        have hfree := hown.free hM.symm p
        have HO1 := Lib.hid hown
        have HB := Lib.hid hbes
        have HM := Lib.hid hM
        have hpi : (p : Int) < (n : Int) := by omega
        have HP := Lib.hid hlt
        clear hown hbes hM hlt hp
        generalize M[p] = x at *
        obtain ⟨m, hbx⟩ := bits_xor x
        have HS := Lib.hid (HO1.out.set HM.out.symm p m)
        have HT := Lib.hid (HB.out.setCell (p := ⟨g, p, none⟩) (.inl rfl) (.int .u8 (m : Nat)))
        go_wp2_with fail
        go_roundw
        case rel => exact ⟨p + 1, M.set p m, HP.out, by go_num, by rw [List.length_set]; exact HM.out, by first | exact HS.out | (rw [hbx]; exact HS.out), by first | exact HT.out | (rw [hbx]; exact HT.out)⟩
        case measure => simp [intOf]; omega
      · have hpi : ¬ (p : Int) < (n : Int) := by omega
        have HB := Lib.hid hbes
        clear hown hbes
        go_wp2_with fail
        refine bodyPost_end (v := .tuple #[]) (by simp [results, Try.results18, go_sem]) rfl ⟨rfl, HB.out.mono (fun k _ e => by rw [e]; rfl)⟩
end Go.Proofs.Ytmnbkhgogogeiaa
