/-
  The contracts of Pick, of the program and of the reference.
-/
import Derived.Test.YtligplnmgoailaaOwn
import Derived.Test.YtligplnmgoailaaHas
namespace Go.Proofs.Ytligplnmgoailaa
set_option linter.unusedVariables false
open Go.RowKit

def topOf (l : List Int) : Int := if h : 0 < l.length then l[l.length - 1] else 0
def pickL (s : List (Int × Int)) (l : List Int) : List Int := l.filter fun n => hasB s n (topOf l)
def pickK (s : List (Int × Int)) (l : List Int) (k : Nat) : List Int := (l.take k).filter fun n => hasB s n (topOf l)
theorem pickK_len (s : List (Int × Int)) (l : List Int) (k : Nat) : (pickK s l k).length ≤ l.length := by
  unfold pickK
  exact Nat.le_trans (List.length_filter_le _ _) (List.length_take_le' _ _)
theorem pickK_yes {s : List (Int × Int)} {l : List Int} {k : Nat} (hk : k < l.length) (h : hasB s l[k] (topOf l) = true) : pickK s l (k + 1) = pickK s l k ++ [l[k]] := by
  unfold pickK
  rw [List.take_succ_eq_append_getElem hk, List.filter_append, List.filter_cons, if_pos h]; rfl
theorem pickK_no {s : List (Int × Int)} {l : List Int} {k : Nat} (hk : k < l.length) (h : hasB s l[k] (topOf l) = false) : pickK s l (k + 1) = pickK s l k := by
  unfold pickK
  rw [List.take_succ_eq_append_getElem hk, List.filter_append, List.filter_cons, if_neg (by simp [h])]; simp
theorem pickK_end {s : List (Int × Int)} {l : List Int} {k : Nat} (hk : l.length ≤ k) : pickK s l k = pickL s l := by
  unfold pickK pickL
  rw [List.take_of_length_le hk]
theorem topOf_bd {l : List Int} (h : ∀ n ∈ l, 0 ≤ n ∧ n < 4294967296) : 0 ≤ topOf l ∧ topOf l < 4294967296 := by
  unfold topOf
  split
  · exact h _ (List.getElem_mem _)
  · omega

set_option maxHeartbeats 1000000 in
theorem pick_any (vs v : Value) (s : List (Int × Int)) (l : List Int) (w : World) (hs : RowR w vs s) (hr : RowN w v l) (hls : s.length ≤ 1000) (hlen : l.length ≤ 1000) :
    Calls Try.prog 32 #[vs, v] w fun e w' => ∃ o, e = .returned o ∧ OwnN w' w.heap.size o (pickL s l) ∧ Below w.heap.size w w' := by
  obtain ⟨b, off, a, cap, rfl, hc, hm, ha, hcell⟩ := hr.shape
  have Ha := Lib.hid ha
  have Hc := Lib.hid hcell
  have HT := Lib.hid (show topOf l = topOf l from rfl)
  have ht := topOf_bd hr.2
  have HS := Lib.hid hs
  clear ha hcell
  by_cases h0 : l.length = 0
  · have HP := Lib.hid (show pickL s l = [] by rw [List.eq_nil_of_length_eq_zero h0]; rfl)
    have hz : (l.length : Int) = 0 := by omega
    go_enter Try.func32, Try.ntmps32
    go_wp2_with fail
    refine wp_loop_rounds 1 ?_
    rw [rounds_succ]
    go_wp2_with fail
    go_ret
    exact ⟨_, rfl, by rw [HP.out]; exact owns_nil _ _ _ _, Below.refl _ _⟩
  · have hlp : 0 < l.length := by omega
    obtain ⟨rfl, hbl⟩ := Ha.out hlp
    have hlast : w.cell? ⟨b, off + (l.length - 1), none⟩ = some (.int .u32 (topOf l)) := by
      rw [Hc.out (l.length - 1) (by omega)]
      unfold topOf
      rw [dif_pos hlp]
    have e1 : ((l.length : Int) - 1).toNat = l.length - 1 := by omega
    go_enter Try.func32, Try.ntmps32
    go_wp2_with fail
    clear hlast e1
    have hR := Lib.hid hr.2
    go_loopw [6, 20] (fun o i wr => ∃ k : Nat, k ≤ l.length ∧ i = .int .i64 k ∧ OwnN wr w.heap.size o (pickK s l k) ∧ Below w.heap.size w wr) (fun _ i _ => l.length - (intOf i).toNat)
    case atStart => exact ⟨0, by omega, rfl, owns_nil _ _ _ _, Below.refl _ _⟩
    case round =>
      obtain ⟨k, hk, rfl, hown, hb⟩ := hrel
      by_cases hlt : k < l.length
      · have hq : wr.cell? ⟨b, off + k, none⟩ = some (.int .u32 l[k]) := (hb.cell (p := ⟨b, off + k, none⟩) hbl).trans (Hc.out k hlt)
        have hx := hR.out l[k] (List.getElem_mem hlt)
        have hS := Lib.hid (HS.out.below hb)
        have hB := hb.size
        have hL := pickK_len s l k
        cases hh : hasB s l[k] (topOf l)
        · have HN := Lib.hid (pickK_no hlt hh)
          have HH := Lib.hid hh
          clear hh
          generalize l[k] = x at *
          go_wp2_with fail
          refine (has_any _ s x (topOf l) _ hS.out hx.1 hx.2 ht.1 ht.2 (by omega)).mono ?_
          rintro e w1 ⟨rfl, hb1⟩
          rw [HH.out]
          have hown1 := owns_keep hown hb1 (owns_lt hown)
          have HB1 := Lib.hid (hb.trans (hb1.mono hB))
          have HO := Lib.hid hown1
          clear hown hb1 hown1
          go_wp2_with fail
          go_roundw
          case rel => exact ⟨k + 1, by omega, by go_num, by rw [HN.out]; exact HO.out, HB1.out⟩
          case measure => simp [intOf]; omega
        · have HN := Lib.hid (pickK_yes hlt hh)
          have HH := Lib.hid hh
          clear hh
          generalize l[k] = x at *
          go_wp2_with fail
          refine (has_any _ s x (topOf l) _ hS.out hx.1 hx.2 ht.1 ht.2 (by omega)).mono ?_
          rintro e w1 ⟨rfl, hb1⟩
          rw [HH.out]
          have hown1 : OwnN w1 w.heap.size _ (pickK s l k) := owns_keep hown hb1 (owns_lt hown)
          have HB1 := Lib.hid (hb.trans (hb1.mono hB))
          have hs1 := hb1.size
          clear hb1
          go_wp2_with (at_builtin; go_loud (refine appN rfl (.tmp 28) (.tmp 30) rfl hown1 HB1.out (by omega) rfl rfl (by omega) ?_); intro o' w2 hown2 hb2)
          go_roundw
          case rel => exact ⟨k + 1, by omega, by go_num, by rw [HN.out]; exact hown2, hb2⟩
          case measure => simp [intOf]; omega
      · have HE := Lib.hid (pickK_end (s := s) (l := l) (k := k) (by omega))
        go_wp2_with fail
        go_ret
        exact ⟨_, rfl, by rw [← HE.out]; exact hown, hb⟩
set_option maxHeartbeats 1000000 in
theorem rpick_any (vs v : Value) (s : List (Int × Int)) (l : List Int) (w : World) (hs : RowR w vs s) (hr : RowN w v l) (hls : s.length ≤ 1000) (hlen : l.length ≤ 1000) :
    Calls Try.prog 34 #[vs, v] w fun e w' => ∃ o, e = .returned o ∧ OwnN w' w.heap.size o (pickL s l) ∧ Below w.heap.size w w' := by
  obtain ⟨b, off, a, cap, rfl, hc, hm, ha, hcell⟩ := hr.shape
  have Ha := Lib.hid ha
  have Hc := Lib.hid hcell
  have HT := Lib.hid (show topOf l = topOf l from rfl)
  have ht := topOf_bd hr.2
  have HS := Lib.hid hs
  clear ha hcell
  by_cases h0 : l.length = 0
  · have HP := Lib.hid (show pickL s l = [] by rw [List.eq_nil_of_length_eq_zero h0]; rfl)
    have hz : (l.length : Int) = 0 := by omega
    go_enter Try.func34, Try.ntmps34
    go_wp2_with fail
    refine wp_loop_rounds 1 ?_
    rw [rounds_succ]
    go_wp2_with fail
    go_ret
    exact ⟨_, rfl, by rw [HP.out]; exact owns_nil _ _ _ _, Below.refl _ _⟩
  · have hlp : 0 < l.length := by omega
    obtain ⟨rfl, hbl⟩ := Ha.out hlp
    have hlast : w.cell? ⟨b, off + (l.length - 1), none⟩ = some (.int .u32 (topOf l)) := by
      rw [Hc.out (l.length - 1) (by omega)]
      unfold topOf
      rw [dif_pos hlp]
    have e1 : ((l.length : Int) - 1).toNat = l.length - 1 := by omega
    go_enter Try.func34, Try.ntmps34
    go_wp2_with fail
    clear hlast e1
    have hR := Lib.hid hr.2
    go_loopw [5, 7] (fun o i wr => ∃ k : Nat, k ≤ l.length ∧ i = .int .i64 k ∧ OwnN wr w.heap.size o (pickK s l k) ∧ Below w.heap.size w wr) (fun _ i _ => l.length - (intOf i).toNat)
    case atStart => exact ⟨0, by omega, rfl, owns_nil _ _ _ _, Below.refl _ _⟩
    case round =>
      obtain ⟨k, hk, rfl, hown, hb⟩ := hrel
      by_cases hlt : k < l.length
      · have hq : wr.cell? ⟨b, off + k, none⟩ = some (.int .u32 l[k]) := (hb.cell (p := ⟨b, off + k, none⟩) hbl).trans (Hc.out k hlt)
        have hx := hR.out l[k] (List.getElem_mem hlt)
        have hS := Lib.hid (HS.out.below hb)
        have hB := hb.size
        have hL := pickK_len s l k
        cases hh : hasB s l[k] (topOf l)
        · have HN := Lib.hid (pickK_no hlt hh)
          have HH := Lib.hid hh
          clear hh
          generalize l[k] = x at *
          go_wp2_with fail
          refine (rhas_any _ s x (topOf l) _ hS.out hx.1 hx.2 ht.1 ht.2 (by omega)).mono ?_
          rintro e w1 ⟨rfl, hb1⟩
          rw [HH.out]
          have hown1 := owns_keep hown hb1 (owns_lt hown)
          have HB1 := Lib.hid (hb.trans (hb1.mono hB))
          have HO := Lib.hid hown1
          clear hown hb1 hown1
          go_wp2_with fail
          go_roundw
          case rel => exact ⟨k + 1, by omega, by go_num, by rw [HN.out]; exact HO.out, HB1.out⟩
          case measure => simp [intOf]; omega
        · have HN := Lib.hid (pickK_yes hlt hh)
          have HH := Lib.hid hh
          clear hh
          generalize l[k] = x at *
          go_wp2_with fail
          refine (rhas_any _ s x (topOf l) _ hS.out hx.1 hx.2 ht.1 ht.2 (by omega)).mono ?_
          rintro e w1 ⟨rfl, hb1⟩
          rw [HH.out]
          have hown1 : OwnN w1 w.heap.size _ (pickK s l k) := owns_keep hown hb1 (owns_lt hown)
          have HB1 := Lib.hid (hb.trans (hb1.mono hB))
          have hs1 := hb1.size
          have hq1 : w1.cell? ⟨b, off + k, none⟩ = some (.int .u32 x) := (hb1.cell (p := ⟨b, off + k, none⟩) (by show b < _; omega)).trans hq
          clear hb1
          go_wp2_with (at_builtin; go_loud (refine appN rfl (.tmp 30) (.tmp 35) rfl hown1 HB1.out (by omega) rfl rfl (by omega) ?_); intro o' w2 hown2 hb2)
          go_roundw
          case rel => exact ⟨k + 1, by omega, by go_num, by rw [HN.out]; exact hown2, hb2⟩
          case measure => simp [intOf]; omega
      · have HE := Lib.hid (pickK_end (s := s) (l := l) (k := k) (by omega))
        go_wp2_with fail
        go_ret
        exact ⟨_, rfl, by rw [← HE.out]; exact hown, hb⟩
end Go.Proofs.Ytligplnmgoailaa
