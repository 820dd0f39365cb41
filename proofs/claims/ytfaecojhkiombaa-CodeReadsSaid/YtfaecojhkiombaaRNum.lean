/-
  The contract of the reference's Num.
-/
import Derived.Test.YtfaecojhkiombaaText
import Derived.Test.YtfaecojhkiombaaNum
namespace Go.Proofs.Ytfaecojhkiombaa
set_option linter.unusedVariables false
open Go.RowKit

theorem digs_lt (v k : Nat) : ∀ n ∈ digs v k, n < 256 := by
  induction k with
  | zero => intro n hn; simp [digs] at hn
  | succ k ih =>
    intro n hn
    unfold digs at hn
    split at hn
    · exact ih n hn
    · rcases List.mem_append.1 hn with h | h
      · exact ih n h
      · simp at h
        subst h
        exact Nat.mod_lt _ (by decide)
theorem numB_lt (v : Nat) : ∀ n ∈ numB v, n < 256 := by
  intro n hn
  rcases List.mem_cons.1 hn with h | h
  · have := digs_len v 8; omega
  · exact digs_lt v 8 n h

set_option maxHeartbeats 800000 in
theorem rnum_any (v : Nat) (hv : v < 2 ^ 64) (w : World) : Calls Try.prog 12 #[.int .u64 v] w fun e w' => ∃ o, e = .returned o ∧ OwnB w' w.heap.size o (numB v) ∧ Below w.heap.size w w' := by
  go_enter Try.func12, Try.ntmps12
  go_wp2_with fail
  go_loopw [3, 4] (fun o i wr => ∃ k : Nat, k ≤ 8 ∧ i = .int .i64 (7 - (k : Int)) ∧ OwnB wr w.heap.size o (digs v k) ∧ Below w.heap.size w wr) (fun _ i _ => (intOf i + 1).toNat)
  case atStart => exact ⟨0, by omega, by simp, World.ownsRow_nil _ _ _ _, Below.refl _ _⟩
  case round =>
    obtain ⟨k, hk, rfl, hown, hbel⟩ := hrel
    have hdl := digs_len v k
    obtain ⟨ao, co, hsh⟩ := hown.shape
    subst hsh
    have hsz := hbel.size
    have hx : 56 - 8 * k = 8 * (7 - k) := by omega
    have HX := Lib.hid hx
    clear hx
    by_cases hk8 : k < 8
    · have hb := byte_int v k
      rw [HX.out] at hb
      have Hb := Lib.hid hb
      by_cases hkeep : (v : Int) / 2 ^ (8 * (7 - k)) % 256 = 0 ∧ (digs v k).length = 0
      · have he := Lib.hid (digs_keep (v := v) (k := k) (by rw [HX.out]; exact hkeep.1) hkeep.2)
        obtain ⟨hc, hd⟩ := hkeep
        have hl0 : ((digs v k).length : Int) ≤ 0 := by omega
        have hc2 : ((v : Int) / 2 ^ (8 * (7 - k)) % 256 != 0) = false := by simp [hc]
        have Hc := Lib.hid hc
        have Hd := Lib.hid hd
        clear hc hd hb
        go_wp2_with fail
        go_roundw
        case rel => exact ⟨k + 1, by omega, by go_num, by rw [he.out]; exact hown, hbel⟩
        case measure => simp [intOf]; omega
      · have he := Lib.hid (digs_more (v := v) (k := k) (by rw [HX.out]; exact hkeep))
        by_cases hc : (v : Int) / 2 ^ (8 * (7 - k)) % 256 = 0
        · have h1 : 0 < ((digs v k).length : Int) := by have : ¬ (digs v k).length = 0 := fun h0 => hkeep ⟨hc, h0⟩; omega
          have hb0 := hb
          rw [hc] at hb0
          have Hb0 := Lib.hid hb0
          clear hkeep hb hb0
          go_wp2_with (at_builtin; go_loud (refine app1 rfl (.tmp 23) (.tmp 25) rfl hown hbel hsz rfl rfl (by omega) (n := byteAt v k) (Lib.hid Hb0.out.symm) ?_))
          intro o w1 hown2 hbel2
          go_wp2_with fail
          go_roundw
          case rel => exact ⟨k + 1, by omega, by go_num, by rw [he.out]; exact hown2, hbel2⟩
          case measure => simp [intOf]; omega
        · clear hkeep hb
          go_wp2_with (at_builtin; go_loud (refine app1 rfl (.tmp 23) (.tmp 25) rfl hown hbel hsz rfl rfl (by omega) (n := byteAt v k) (Lib.hid Hb.out.symm) ?_))
          intro o w1 hown2 hbel2
          go_wp2_with fail
          go_roundw
          case rel => exact ⟨k + 1, by omega, by go_num, by rw [he.out]; exact hown2, hbel2⟩
          case measure => simp [intOf]; omega
    · obtain rfl : k = 8 := by omega
      have hlt : ∀ n ∈ digs v 8, n < 256 := digs_lt v 8
      have hlit : OwnB (wr.alloc (.cells #[.int .u8 ((digs v 8).length : Nat)] 5)) w.heap.size (.slice (some ⟨wr.heap.size, 0, none⟩) 1 1) [(digs v 8).length] :=
        World.ownsRow_lit (base := w.heap.size) (e := 5) (size := 1) wr #[.int .u8 ((digs v 8).length : Nat)] 1 hsz (by decide) rfl
      have hrow := (hown.alloc (.cells #[.int .u8 ((digs v 8).length : Nat)] 5)).row hlt
      have hb2 := hbel.alloc hsz (.cells #[.int .u8 ((digs v 8).length : Nat)] 5)
      have Hlt := Lib.hid hlt
      clear hlt
      go_wp2_with (at_builtin; go_loud (refine appl rfl (.tmp 30) (.tmp 31) rfl hlit hb2 (by simp; omega) hrow rfl rfl (by simp; omega) ?_))
      intro o w1 hown2 hbel2
      go_wp2_with fail
      go_ret
      exact ⟨_, rfl, hown2, hbel2⟩
end Go.Proofs.Ytfaecojhkiombaa
