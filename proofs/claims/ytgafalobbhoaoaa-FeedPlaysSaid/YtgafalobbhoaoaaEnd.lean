/-
  The contracts of announced, where nothing is announced, and of line at a line's end.
-/
import Derived.Test.YtgafalobbhoaoaaFeed
namespace Go.Proofs.Ytgafalobbhoaoaa
set_option linter.unusedVariables false
open Go.RowKit

set_option maxHeartbeats 1000000 in
theorem last_no (v : Value) (l : List Nat) (c : Int) (w : World) (hr : RowB w v l) (hl : l.length ≤ 200000) (hn : ∀ (i : Nat) (h : i < l.length), ((l[i] : Int) == c) = false) :
    Calls Try.prog 32 #[v, .int .u8 c] w fun e w' => e = .returned (.int .i64 (-1)) ∧ w = w' := by
  rcases hr.shape with ⟨rfl, a, cap, rfl, hm⟩ | ⟨b, off, cap, rfl, h0, h1, h2, hcell⟩
  · go_enter Try.func32, Try.ntmps32
    go_wp2_with fail
    refine wp_loop_rounds 1 ?_
    rw [rounds_succ]
    go_wp2_with fail
    go_ret
    exact ⟨rfl, rfl⟩
  · have HC := Lib.hid hcell
    have HN := Lib.hid hn
    clear hcell hn hr
    go_enter Try.func32, Try.ntmps32
    go_wp2_with fail
    go_loop [5] (fun i => ∃ k : Nat, k ≤ l.length ∧ i = .int .i64 ((k : Int) - 1)) (fun i => (intOf i + 1).toNat)
    case atStart => exact ⟨l.length, Nat.le_refl _, rfl⟩
    case round =>
      obtain ⟨k, hk, rfl⟩ := hrel
      by_cases hk0 : 0 < k
      · have hc := HC.out (k - 1) (by omega)
        have hne := HN.out (k - 1) (by omega)
        have e1 : ((k : Int) - 1).toNat = k - 1 := by omega
        have hi1 : 0 ≤ (k : Int) - 1 := by omega
        generalize l[k - 1] = x at *
        go_wp2_with fail
        go_round
        case rel => exact ⟨k - 1, by omega, congrArg (Value.int .i64) (by omega)⟩
        case measure => simp [intOf]; omega
      · have hi1 : ¬ 0 ≤ (k : Int) - 1 := by omega
        go_wp2_with fail
        go_ret
        exact ⟨rfl, rfl⟩

theorem lastIndex_no (v : Value) (l : List Nat) (c : Int) (w : World) (hr : RowB w v l) (hl : l.length ≤ 200000) (hn : ∀ (i : Nat) (h : i < l.length), ((l[i] : Int) == c) = false) :
    Calls Try.prog 30 #[v, .int .u8 c] w fun e w' => e = .returned (.int .i64 (-1)) ∧ w = w' := by
  have HN := Lib.hid hn
  clear hn
  go_enter Try.func30, Try.ntmps30
  go_wp2_with fail
  refine (last_no v l c _ hr hl HN.out).mono ?_
  rintro e w1 ⟨rfl, rfl⟩
  go_wp2_with fail
  go_ret
  exact ⟨rfl, rfl⟩

/-- no sign that begins an announcement -/
def NoSign (l : List Nat) : Prop := ∀ (i : Nat) (h : i < l.length), ((l[i] : Int) == 123) = false

theorem ownB_part {w : World} {B g cap : Nat} {l : List Nat} (h : OwnB w B (.slice (some ⟨g, 0, none⟩) l.length cap) l) (hl : ∀ n ∈ l, n < 256) (k : Nat) (hk : k ≤ l.length) : RowB w (.slice (some ⟨g, 0, none⟩) k cap) (l.take k) := by
  obtain ⟨a, len, cap', e, h1, h2, h3, h4, h5, h6⟩ := h.row hl
  simp only [Value.slice.injEq] at e
  obtain ⟨rfl, rfl, rfl⟩ := e
  have hlen : (l.take k).length = k := by simp; omega
  refine ⟨_, _, _, rfl, hlen, by omega, h3, fun n hn => hl n (List.mem_of_mem_take hn), by simp, fun x hx i hi => ?_⟩
  have := h6 x hx i (by omega)
  rw [this]
  simp

set_option maxRecDepth 100000 in
set_option maxHeartbeats 1000000 in
theorem announced_no (p : Nat) (f r : Value) (g cap : Nat) (len : Int) (a : Int) (L : List Nat) (B : Nat) (w : World) (hf : FeedB w p f r (.slice (some ⟨g, 0, none⟩) L.length cap) 0 len 0 0 a) (hh : OwnB w B (.slice (some ⟨g, 0, none⟩) L.length cap) L) (hb : ∀ n ∈ L, n < 256) (hL : 2 ≤ L.length ∧ L.length ≤ 5000)
    (hn : NoSign (L.take (L.length - 2))) :
    Calls Try.prog 28 #[.pointer (some ⟨p, 0, none⟩)] w fun e w' => e = .returned (.tuple #[.int .i64 0, .bool false]) ∧ Below w.heap.size w w' := by
  obtain ⟨c0, c1, c2, c3, c4, c5, c6, c7, x0, x1, x2, x3, x4, x5, x6, x7⟩ := hf.at
  have hcap : L.length ≤ cap := by obtain ⟨a, len, cap', e, h1, h2, _⟩ := hh.row hb; simp only [Value.slice.injEq] at e; omega
  have HR := Lib.hid (ownB_part hh hb (L.length - 2) (by omega))
  have HN := Lib.hid hn
  have HLT : (L.take (L.length - 2)).length ≤ 200000 := by simp; omega
  obtain ⟨m, hm⟩ : ∃ m, L.length = m + 2 := ⟨L.length - 2, by omega⟩
  rw [show L.length - 2 = m by omega] at HR HN HLT
  have hw1 : IntKind.i64.wrap ((L.length : Int) - 2) = (m : Int) := by rw [hm]; push_cast; rw [IntWalk.i64_in _ (by omega)]; omega
  have hi1 : (m : Int) ≤ (cap : Int) := by omega
  have hi0 : (0 : Int) ≤ (m : Int) := by omega
  have HM := Lib.hid hm
  clear hf hh hb hn hm
  go_enter Try.func28, Try.ntmps28
  go_wp2_with fail
  go_quiet (fail)
  go_wp2_with fail
  refine (lastIndex_no _ _ 123 _ (HR.out.below (below_drewN (Below.refl _ _) nq)) HLT HN.out).mono ?_
  rintro e w1 ⟨rfl, rfl⟩
  go_wp2_with fail
  exact bodyPost_ret (v := .tuple #[.int .i64 0, .bool false]) (by simp [results, Try.results28, go_sem]) rfl ⟨rfl, below_drewN (Below.refl _ _) _⟩

theorem announced_at (p : Nat) (f r : Value) (g cap : Nat) (len : Int) (a : Int) (L : List Nat) (n : Nat) (B : Nat) (w : World) (hnl : n = L.length) (hf : FeedB w p f r (.slice (some ⟨g, 0, none⟩) n cap) 0 len 0 0 a) (hh : OwnB w B (.slice (some ⟨g, 0, none⟩) n cap) L) (hb : ∀ n ∈ L, n < 256) (hL : 2 ≤ L.length ∧ L.length ≤ 5000)
    (hn : NoSign (L.take (L.length - 2))) :
    Calls Try.prog 28 #[.pointer (some ⟨p, 0, none⟩)] w fun e w' => e = .returned (.tuple #[.int .i64 0, .bool false]) ∧ Below w.heap.size w w' := by
  subst hnl
  exact announced_no p f r g cap len a L B w hf hh hb hL hn

set_option maxRecDepth 100000 in
set_option maxHeartbeats 1000000 in
/-- a line's last byte, where nothing is announced -/
theorem line_end (p : Nat) (f r h : Value) (len : Int) (L : List Nat) (B : Nat) (w : World) (hf : FeedB w p f r h 0 len 0 0 13) (hh : OwnB w B h L) (hb : ∀ n ∈ L, n < 256) (hpB : p < B) (hB : B ≤ w.heap.size) (hl : 0 ≤ len ∧ len < 4000) (hL : 1 ≤ L.length ∧ L.length ≤ 4000)
    (hn : NoSign ((L ++ [10]).take ((L ++ [10]).length - 2))) :
    Calls Try.prog 20 #[.pointer (some ⟨p, 0, none⟩), .int .u8 10] w fun e w' => LineIs w p B f r (len + 1) 10 (L ++ [10]) 1 e w' := by
  obtain ⟨c0, c1, c2, c3, c4, c5, c6, c7, x0, x1, x2, x3, x4, x5, x6, x7⟩ := hf.at
  have HF := Lib.hid hf
  have HN := Lib.hid hn
  have HL := Lib.hid hb
  clear hf hn hb
  go_enter Try.func20, Try.ntmps20
  go_wp2_with (at_builtin; go_loud (refine app1 rfl (.tmp 12) (.tmp 14) rfl hh (Below.refl B w) hB rfl rfl (by omega) (Lib.hid (show (10 : Int) = ((10 : Nat) : Int) from rfl)) ?_); intro o' w2 ho hb2; obtain ⟨g, oc, rfl, hg0, hg1⟩ := ho.some (by simp); have HF2 := Lib.hid (HF.out.keep hb2 hpB); obtain ⟨d0, d1, d2, d3, d4, d5, d6, d7, e0, e1, e2, e3, e4, e5, e6, e7⟩ := HF2.out.at; have HO2 := Lib.hid ho; have HB2 := Lib.hid hb2; have hs2 := hb2.size; clear ho hb2)
  have hlen : (L ++ [10]).length = L.length + 1 := by simp
  have HF3 := Lib.hid (((HF2.out.set2 (.slice (some ⟨g, 0, none⟩) (L.length + 1) oc)).set4 (len + 1)).set7 10)
  have HO3 : Hid (OwnB (((w2.setCell ⟨p, 2, none⟩ (.slice (some ⟨g, 0, none⟩) (L.length + 1) oc)).setCell ⟨p, 4, none⟩ (.int .i64 (len + 1))).setCell ⟨p, 7, none⟩ (.int .u8 10)) B (.slice (some ⟨g, 0, none⟩) (L.length + 1) oc) (L ++ [10])) := Lib.hid (by rw [← hlen]; exact ((HO2.out.other hpB).other hpB).other hpB)
  have HLen := Lib.hid hlen
  clear hlen
  refine (announced_at p f r g oc (len + 1) 10 (L ++ [10]) (L.length + 1) B _ HLen.out.symm HF3.out HO3.out (by intro n hn; rcases List.mem_append.1 hn with h | h; exact HL.out n h; simp at h; omega) (by rw [HLen.out]; omega) HN.out).mono ?_
  rintro e w3 ⟨rfl, hb3⟩
  have HB3 := Lib.hid hb3
  have hs3 := hb3.size
  simp only [World.size_setCell] at hs3
  clear hb3
  go_wp2_with fail
  go_ret
  refine ⟨_, rfl, HF3.out.keep HB3.out (by simp; omega), HO3.out.keep HB3.out (by intro k hk; simp [Value.ownBlock] at hk; simp; omega), by omega, ?_, (((Kept.of HB2.out (Nat.le_refl _)).set.set.set).trans (Kept.of HB3.out (by simp; omega)))⟩
  exact ((((HB2.out.mono (show p ≤ B by omega)).setCell (p := ⟨p, 2, none⟩) (Nat.le_refl _) _).setCell (p := ⟨p, 4, none⟩) (Nat.le_refl _) _).setCell (p := ⟨p, 7, none⟩) (Nat.le_refl _) _).trans (HB3.out.mono (by simp; omega))
end Go.Proofs.Ytgafalobbhoaoaa
