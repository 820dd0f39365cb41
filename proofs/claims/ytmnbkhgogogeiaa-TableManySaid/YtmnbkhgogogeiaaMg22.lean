/-
  Several texts of one proof, each in a section of its own: CNum, CText.
-/
import Derived.Test.YtmnbkhgogogeiaaMg1
import Derived.Test.YtmnbkhgogogeiaaMg2
namespace Go.Proofs.Ytmnbkhgogogeiaa
section
set_option linter.unusedVariables false
open Go.RowKit

/-- the byte of v at round k -/
def byteAt (v k : Nat) : Nat := v / 2 ^ (56 - 8 * k) % 256
/-- the bytes that Num has written behind k rounds. -/
def digs (v : Nat) : Nat → List Nat
  | 0 => []
  | k + 1 => if byteAt v k = 0 ∧ digs v k = [] then digs v k else digs v k ++ [byteAt v k]
/-- the bytes of a number -/
def numB (v : Nat) : List Nat := (digs v 8).length :: digs v 8

theorem digs_len (v k : Nat) : (digs v k).length ≤ k := by
  induction k with
  | zero => simp only [digs, List.length_nil, Nat.le_refl]
  | succ k ih => unfold digs; split <;> (try simp) <;> omega

theorem byte_int (v k : Nat) : ((byteAt v k : Nat) : Int) = (v : Int) / 2 ^ (56 - 8 * k) % 256 := by
  simp [byteAt]

theorem digs_keep {v k : Nat} (hc : (v : Int) / 2 ^ (56 - 8 * k) % 256 = 0) (hd : (digs v k).length = 0) : digs v (k + 1) = digs v k := by
  have h0 : digs v k = [] := List.eq_nil_of_length_eq_zero hd
  rw [← byte_int] at hc
  have hc' : byteAt v k = 0 := by omega
  rw [digs, if_pos ⟨hc', h0⟩]

theorem digs_more {v k : Nat} (h : ¬ ((v : Int) / 2 ^ (56 - 8 * k) % 256 = 0 ∧ (digs v k).length = 0)) : digs v (k + 1) = digs v k ++ [byteAt v k] := by
  rw [digs, if_neg]
  rintro ⟨h1, h2⟩
  exact h ⟨by rw [← byte_int]; omega, by rw [h2]; rfl⟩

set_option maxRecDepth 100000 in
set_option maxHeartbeats 4000000 in
theorem num_any (v : Nat) (hv : v < 2 ^ 64) (w : World) : Calls Try.prog 71 #[.int .u64 v] w fun e w' => ∃ o, e = .returned o ∧ OwnB w' w.heap.size o (numB v) ∧ Below w.heap.size w w' := by
  obtain ⟨i0, hi, hz0, hz1, hz2⟩ := info_parts Try.info5
  go_enter Try.func71, Try.ntmps71
  go_wp2_with fail
  go_loopw [3, 4] (fun o i wr => ∃ k : Nat, k ≤ 8 ∧ i = .int .i64 (56 - 8 * (k : Int)) ∧ OwnB wr w.heap.size o (0 :: digs v k) ∧ Below w.heap.size w wr) (fun _ i _ => (intOf i + 8).toNat)
  case atStart => exact ⟨0, by omega, by simp, World.ownsRow_lit (base := w.heap.size) (e := 5) (size := 1) w #[.int .u8 0] 1 (Nat.le_refl _) (by decide) rfl, (Below.refl _ _).alloc (Nat.le_refl _) _⟩
  case round =>
    obtain ⟨k, hk, rfl, hown, hbel⟩ := hrel
    have hdl := digs_len v k
    obtain ⟨g, cap, hv', hg, hgs⟩ := hown.some (by simp)
    subst hv'
    have hsz := hbel.size
    by_cases hk8 : k < 8
    · by_cases hkeep : (v : Int) / 2 ^ (56 - 8 * k) % 256 = 0 ∧ (digs v k).length = 0
      · obtain ⟨hc, hd⟩ := hkeep
        have he := Lib.hid (digs_keep hc hd)
        have h1 : ¬ (1 < ((0 :: digs v k).length : Int)) := by simp [hd]
        clear hd
        go_wp2_with fail
        go_roundw
        case rel => exact ⟨k + 1, by omega, by go_num, by rw [he.out]; exact hown, hbel⟩
        case measure => simp [intOf]; omega
      · have he := Lib.hid (digs_more hkeep)
        have hown0 := hown
        unfold OwnB at hown0
        have hb := Lib.hid (byte_int v k)
        have done : ∀ (o : Value) (w1 : World) (x : Int), (x = ((byteAt v k : Nat) : Int)) → w1.ownsRow w.heap.size 5 1 o ((0 :: digs v k).length + 1) (u8s (0 :: digs v k) ++ [Value.int .u8 x]) → OwnB w1 w.heap.size o (0 :: digs v (k + 1)) := by
          intro o w1 x hx ho
          subst hx
          rw [he.out]
          exact OwnB.snoc ho rfl
        have bel : ∀ (w1 : World) (x : Int), (wr.alloc (.cells #[Value.int .u8 x] 5)).grownBy w1 (Value.slice (some ⟨g, 0, none⟩) (0 :: digs v k).length cap).ownBlock → Below w.heap.size w w1 := by
          intro w1 x hgr
          refine (hbel.alloc hsz _).grown hgr (by simp; omega) ?_
          intro j hj
          simp [Value.ownBlock] at hj
          omega
        have Done := Lib.hid done
        have Bel := Lib.hid bel
        clear done bel he
        by_cases hc : (v : Int) / 2 ^ (56 - 8 * k) % 256 = 0
        · have h1 : 1 < ((digs v k).length : Int) + 1 := by have : ¬ (digs v k).length = 0 := fun h0 => hkeep ⟨hc, h0⟩; omega
          clear hkeep
          go_wp2_with (at_builtin; go_loud (refine wpList_append_own _ rfl (.tmp 22) (.tmp 24) 23 rfl (w.heap.size) 5 i0 (.int .u8 0) 1 1 Try.underlying23 hi hz0 hz1 hz2 rfl (by decide) _ _ _ rfl (hown0.alloc _) ⟨wr.heap.size, 0, none⟩ 1 1 [.int .u8 0] rfl rfl (one_new _ _ _) (by simp [Value.oneCell']) (by simp [maxLen]; omega) (by simp; omega) (by simp; omega) ?_))
          intro o w1 ho hgr _
          have R1 := Done.out _ _ _ (by rw [hb.out]; exact hc.symm) ho
          have R2 := Bel.out _ _ hgr
          clear ho hgr hown hown0
          go_wp2_with fail
          go_roundw
          case rel => exact ⟨k + 1, by omega, by go_num, R1, R2⟩
          case measure => simp [intOf]; omega
        · clear hkeep
          go_wp2_with (at_builtin; go_loud (refine wpList_append_own _ rfl (.tmp 22) (.tmp 24) 23 rfl (w.heap.size) 5 i0 (.int .u8 0) 1 1 Try.underlying23 hi hz0 hz1 hz2 rfl (by decide) _ _ _ rfl (hown0.alloc _) ⟨wr.heap.size, 0, none⟩ 1 1 [.int .u8 ((v : Int) / 2 ^ (56 - 8 * k) % 256)] rfl rfl (one_new _ _ _) (by simp [Value.oneCell']) (by simp [maxLen]; omega) (by simp; omega) (by simp; omega) ?_))
          intro o w1 ho hgr _
          have R1 := Done.out _ _ _ hb.out.symm ho
          have R2 := Bel.out _ _ hgr
          clear ho hgr hown hown0
          go_wp2_with fail
          go_roundw
          case rel => exact ⟨k + 1, by omega, by go_num, R1, R2⟩
          case measure => simp [intOf]; omega
    · obtain rfl : k = 8 := by omega
      have hc0 := hown.cell rfl 0 (by simp)
      have hf0 := hown.free rfl 0
      have hl0 : ((0 :: digs v 8).length : Int) - 1 = (digs v 8).length := by simp
      go_wp2_with fail
      go_ret
      exact ⟨_, rfl, hown.set rfl 0 (digs v 8).length, hbel.setCell hg _⟩
end
section
set_option linter.unusedVariables false
open Go.RowKit

/-- each byte as it is, a 0 with ff behind it -/
def esc (l : List Nat) : List Nat := l.flatMap fun n => if n = 0 then [0, 255] else [n]
/-- the bytes of a text -/
def txt (l : List Nat) : List Nat := esc l ++ [0, 1]

theorem esc_take_zero {l : List Nat} {k : Nat} (hk : k < l.length) (h : l[k] = 0) : esc (l.take (k + 1)) = esc (l.take k) ++ [0, 255] := by
  rw [List.take_succ_eq_append_getElem hk]
  simp [esc, h]
theorem esc_append (l m : List Nat) : esc (l ++ m) = esc l ++ esc m := by simp [esc]
theorem esc_take_more {l : List Nat} {k : Nat} (hk : k < l.length) (h : ¬ l[k] = 0) : esc (l.take (k + 1)) = esc (l.take k) ++ [l[k]] := by
  rw [List.take_succ_eq_append_getElem hk, esc_append]
  simp [esc, h]
theorem esc_len (l : List Nat) : (esc l).length ≤ 2 * l.length := by
  induction l with
  | nil => simp [esc]
  | cons a l ih =>
    rw [show a :: l = [a] ++ l from rfl, esc_append, List.length_append, List.length_append]
    have : (esc [a]).length ≤ 2 := by simp only [esc, List.flatMap_cons, List.flatMap_nil, List.append_nil]; split <;> simp
    simp only [List.length_cons, List.length_nil]
    omega
theorem esc_len_take (l : List Nat) (k : Nat) : (esc (l.take k)).length ≤ 2 * l.length := by
  have h1 := esc_len (l.take k)
  have h2 : (l.take k).length ≤ l.length := by simp; omega
  omega

set_option maxHeartbeats 800000 in
theorem text_any (v : Value) (l : List Nat) (w : World) (hr : RowB w v l) (hs : l.length ≤ 35184372088832) :
    Calls Try.prog 70 #[v] w fun e w' => ∃ o, e = .returned o ∧ OwnB w' w.heap.size o (txt l) ∧ Below w.heap.size w w' := by
  obtain ⟨i0, hi, hz0, hz1, hz2⟩ := info_parts Try.info5
  have HR := Lib.hid hr
  obtain ⟨a, len, cap, rfl, hl, hc, hm, hw, hn, hcell⟩ := hr
  have hsl : len ≤ 35184372088832 := by omega
  have Hl := Lib.hid hl
  clear hn hcell hl hs hw
  go_enter Try.func70, Try.ntmps70
  go_wp2_with (first
    | (at_make; go_loud (refine wpList_make_own _ rfl _ _ 23 rfl w.heap.size 5 i0 (.int .u8 0) 1 Try.underlying23 hi hz0 hz1 _ _ _ (len + 2) rfl rfl (by omega) (by rw [hz2]; omega) (by simp [maxLen]; omega) (Nat.le_refl _) ?_)))
  intro w1 hown1 hgr1
  have hb1 : Below w.heap.size w w1 := (Below.refl _ _).grown hgr1 (Nat.le_refl _) (by intro k hk; cases hk)
  have hO : OwnB w1 w.heap.size (Value.slice (some ⟨w.heap.size, 0, none⟩) 0 (len + 2)) [] := hown1
  have HO := Lib.hid hO
  clear hown1 hgr1 hO hi hz0 hz1 hz2
  go_wp2_with fail
  go_loopw [3, 12] (fun o i wr => ∃ k : Nat, k ≤ len ∧ i = .int .i64 k ∧ OwnB wr w.heap.size o (esc (l.take k)) ∧ Below w.heap.size w wr) (fun _ i _ => (len - intOf i).toNat)
  case atStart => exact ⟨0, by omega, rfl, HO.out, hb1⟩
  case round =>
    obtain ⟨k, hk, rfl, hown, hbel⟩ := hrel
    have hsz := hbel.size
    have hlen := esc_len_take l k
    rw [Hl.out] at hlen
    obtain ⟨ao, co, hsh⟩ := hown.shape
    subst hsh
    by_cases hlt : k < len
    · have hkl : k < l.length := by rw [Hl.out]; exact hlt
      rcases HR.out.shape with ⟨rfl, _⟩ | ⟨b, off, cap', e1, h1, h2, h3, cells⟩
      · simp at hkl
      · simp only [Value.slice.injEq] at e1
        obtain ⟨rfl, -, -⟩ := e1
        have hcc : wr.cell? ⟨b, off + k, none⟩ = some (.int .u8 (l[k] : Nat)) := by
          have h9 := cells k hkl
          rw [hbel.cell (World.block_lt_of_cell? w _ h9), h9]
        by_cases hz : l[k] = 0
        · rw [hz] at hcc
          simp only [Int.ofNat_zero] at hcc
          have he := Lib.hid (esc_take_zero hkl hz)
          clear cells hz h1 h2 h3
          go_wp2_with (at_builtin; go_loud (refine app1 rfl (.tmp 16) (.tmp 18) rfl hown hbel hsz rfl rfl (by omega) (n := 0) (Lib.hid rfl) ?_))
          intro o w2 hown2 hbel2
          obtain ⟨ao2, co2, hsh2⟩ := hown2.shape
          subst hsh2
          have hsz2 := hbel2.size
          clear hown hbel hcc
          go_wp2_with (at_builtin; go_loud (refine app1 rfl (.tmp 22) (.tmp 23) rfl hown2 hbel2 hsz2 rfl rfl (by simp; omega) (n := 255) (Lib.hid rfl) ?_))
          intro o3 w3 hown3 hbel3
          go_wp2_with fail
          go_roundw
          case rel => exact ⟨k + 1, by omega, by go_num, by rw [he.out]; exact hown3, hbel3⟩
          case measure => simp [intOf]; omega
        · have he := Lib.hid (esc_take_more hkl hz)
          have hz1 : (((l[k] : Nat) : Int) == 0) = false := by simp; omega
          clear cells hz h1 h2 h3
          go_wp2_with (at_builtin; go_loud (refine app1 rfl (.tmp 16) (.tmp 18) rfl hown hbel hsz rfl rfl (by omega) (n := l[k]) (Lib.hid rfl) ?_))
          intro o w2 hown2 hbel2
          go_wp2_with fail
          go_roundw
          case rel => exact ⟨k + 1, by omega, by go_num, by rw [he.out]; exact hown2, hbel2⟩
          case measure => simp [intOf]; omega
    · obtain rfl : k = len := by omega
      go_wp2_with (at_builtin; go_loud (refine app2 rfl (.tmp 26) (.tmp 27) rfl hown hbel hsz rfl rfl (by omega) (n := 0) (m := 1) (Lib.hid ⟨rfl, rfl⟩) ?_))
      intro o w2 hown2 hbel2
      go_wp2_with fail
      go_ret
      refine ⟨_, rfl, ?_, hbel2⟩
      have h9 := hown2
      rw [List.take_of_length_le (by rw [Hl.out]; exact Nat.le_refl _)] at h9
      exact h9
end
end Go.Proofs.Ytmnbkhgogogeiaa
