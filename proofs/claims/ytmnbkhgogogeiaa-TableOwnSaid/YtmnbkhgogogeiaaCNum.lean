/-
  The contract of code.Num: a row of its own, the count and the bytes of the number.
-/
import Derived.Test.YtmnbkhgogogeiaaMem
namespace Go.Proofs.Ytmnbkhgogogeiaa
set_option linter.unusedVariables false
open Go.RowKit

/-- the byte of v at round k -/
def byteAt (v k : Nat) : Nat := v / 2 ^ (56 - 8 * k) % 256
/-- the bytes that Num has written behind k rounds. -/
def digs (v : Nat) : Nat → List Nat
  | 0 => []
  | k + 1 => if byteAt v k = 0 ∧ digs v k = [] then digs v k else digs v k ++ [byteAt v k]
/-- the bytes of a number -/
def numB (v : Nat) : List Nat := (digs v 8).length :: digs v 8

theorem digs_len (v k : Nat) : (digs v k).length ≤ k := by
  induction k with
  | zero => simp only [digs, List.length_nil, Nat.le_refl]
  | succ k ih => unfold digs; split <;> (try simp) <;> omega

theorem byte_int (v k : Nat) : ((byteAt v k : Nat) : Int) = (v : Int) / 2 ^ (56 - 8 * k) % 256 := by
  simp [byteAt]

theorem digs_keep {v k : Nat} (hc : (v : Int) / 2 ^ (56 - 8 * k) % 256 = 0) (hd : (digs v k).length = 0) : digs v (k + 1) = digs v k := by
  have h0 : digs v k = [] := List.eq_nil_of_length_eq_zero hd
  rw [← byte_int] at hc
  have hc' : byteAt v k = 0 := by omega
  rw [digs, if_pos ⟨hc', h0⟩]

theorem digs_more {v k : Nat} (h : ¬ ((v : Int) / 2 ^ (56 - 8 * k) % 256 = 0 ∧ (digs v k).length = 0)) : digs v (k + 1) = digs v k ++ [byteAt v k] := by
  rw [digs, if_neg]
  rintro ⟨h1, h2⟩
  exact h ⟨by rw [← byte_int]; omega, by rw [h2]; rfl⟩

set_option maxRecDepth 100000 in
set_option maxHeartbeats 4000000 in
theorem num_any (v : Nat) (hv : v < 2 ^ 64) (w : World) : Calls Try.prog 71 #[.int .u64 v] w fun e w' => ∃ o, e = .returned o ∧ OwnB w' w.heap.size o (numB v) ∧ Below w.heap.size w w' := by
  obtain ⟨i0, hi, hz0, hz1, hz2⟩ := info_parts Try.info5
  go_enter Try.func71, Try.ntmps71
  go_wp2_with fail
  go_loopw [3, 4] (fun o i wr => ∃ k : Nat, k ≤ 8 ∧ i = .int .i64 (56 - 8 * (k : Int)) ∧ OwnB wr w.heap.size o (0 :: digs v k) ∧ Below w.heap.size w wr) (fun _ i _ => (intOf i + 8).toNat)
  case atStart => exact ⟨0, by omega, by simp, World.ownsRow_lit (base := w.heap.size) (e := 5) (size := 1) w #[.int .u8 0] 1 (Nat.le_refl _) (by decide) rfl, (Below.refl _ _).alloc (Nat.le_refl _) _⟩
  case round =>
    obtain ⟨k, hk, rfl, hown, hbel⟩ := hrel
    have hdl := digs_len v k
    obtain ⟨g, cap, hv', hg, hgs⟩ := hown.some (by simp)
    subst hv'
    have hsz := hbel.size
    by_cases hk8 : k < 8
    · by_cases hkeep : (v : Int) / 2 ^ (56 - 8 * k) % 256 = 0 ∧ (digs v k).length = 0
      · obtain ⟨hc, hd⟩ := hkeep
        have he := Lib.hid (digs_keep hc hd)
        have h1 : ¬ (1 < ((0 :: digs v k).length : Int)) := by simp [hd]
        clear hd
        go_wp2_with fail
        go_roundw
        case rel => exact ⟨k + 1, by omega, by go_num, by rw [he.out]; exact hown, hbel⟩
        case measure => simp [intOf]; omega
      · have he := Lib.hid (digs_more hkeep)
        have hown0 := hown
        unfold OwnB at hown0
        have hb := Lib.hid (byte_int v k)
        have done : ∀ (o : Value) (w1 : World) (x : Int), (x = ((byteAt v k : Nat) : Int)) → w1.ownsRow w.heap.size 5 1 o ((0 :: digs v k).length + 1) (u8s (0 :: digs v k) ++ [Value.int .u8 x]) → OwnB w1 w.heap.size o (0 :: digs v (k + 1)) := by
          intro o w1 x hx ho
          subst hx
          rw [he.out]
          exact OwnB.snoc ho rfl
        have bel : ∀ (w1 : World) (x : Int), (wr.alloc (.cells #[Value.int .u8 x] 5)).grownBy w1 (Value.slice (some ⟨g, 0, none⟩) (0 :: digs v k).length cap).ownBlock → Below w.heap.size w w1 := by
          intro w1 x hgr
          refine (hbel.alloc hsz _).grown hgr (by simp; omega) ?_
          intro j hj
          simp [Value.ownBlock] at hj
          omega
        have Done := Lib.hid done
        have Bel := Lib.hid bel
        clear done bel he
        by_cases hc : (v : Int) / 2 ^ (56 - 8 * k) % 256 = 0
        · have h1 : 1 < ((digs v k).length : Int) + 1 := by have : ¬ (digs v k).length = 0 := fun h0 => hkeep ⟨hc, h0⟩; omega
          clear hkeep
          go_wp2_with (at_builtin; go_loud (refine wpList_append_own _ rfl (.tmp 22) (.tmp 24) 23 rfl (w.heap.size) 5 i0 (.int .u8 0) 1 1 Try.underlying23 hi hz0 hz1 hz2 rfl (by decide) _ _ _ rfl (hown0.alloc _) ⟨wr.heap.size, 0, none⟩ 1 1 [.int .u8 0] rfl rfl (one_new _ _ _) (by simp [Value.oneCell']) (by simp [maxLen]; omega) (by simp; omega) (by simp; omega) ?_))
          intro o w1 ho hgr _
          have R1 := Done.out _ _ _ (by rw [hb.out]; exact hc.symm) ho
          have R2 := Bel.out _ _ hgr
          clear ho hgr hown hown0
          go_wp2_with fail
          go_roundw
          case rel => exact ⟨k + 1, by omega, by go_num, R1, R2⟩
          case measure => simp [intOf]; omega
        · clear hkeep
          go_wp2_with (at_builtin; go_loud (refine wpList_append_own _ rfl (.tmp 22) (.tmp 24) 23 rfl (w.heap.size) 5 i0 (.int .u8 0) 1 1 Try.underlying23 hi hz0 hz1 hz2 rfl (by decide) _ _ _ rfl (hown0.alloc _) ⟨wr.heap.size, 0, none⟩ 1 1 [.int .u8 ((v : Int) / 2 ^ (56 - 8 * k) % 256)] rfl rfl (one_new _ _ _) (by simp [Value.oneCell']) (by simp [maxLen]; omega) (by simp; omega) (by simp; omega) ?_))
          intro o w1 ho hgr _
          have R1 := Done.out _ _ _ hb.out.symm ho
          have R2 := Bel.out _ _ hgr
          clear ho hgr hown hown0
          go_wp2_with fail
          go_roundw
          case rel => exact ⟨k + 1, by omega, by go_num, R1, R2⟩
          case measure => simp [intOf]; omega
    · obtain rfl : k = 8 := by omega
      have hc0 := hown.cell rfl 0 (by simp)
      have hf0 := hown.free rfl 0
      have hl0 : ((0 :: digs v 8).length : Int) - 1 = (digs v 8).length := by simp
      go_wp2_with fail
      go_ret
      exact ⟨_, rfl, hown.set rfl 0 (digs v 8).length, hbel.setCell hg _⟩
end Go.Proofs.Ytmnbkhgogogeiaa
