/-
  newest, at any sectors.
-/
import Derived.Test.YtmkedanlpapndaaGreat
import Derived.Test.YtmkedanlpapndaaFresh
namespace Go.Proofs.Ytmkedanlpapndaa
set_option linter.unusedVariables false
open Go.RowKit

structure HdN where
  version : Nat
  first : Nat
  place : Nat
  behind : Nat
def hdOf (l : List Nat) : HdN := ⟨headV l 0, headV l 1, headV l 2, headV l 3⟩
/-- the newest head among the first k -/
def bestN (L : Nat → List Nat) : Nat → HdN
  | 0 => ⟨0, 0, 0, 0⟩
  | k + 1 => if wholeL (L k) = true ∧ (bestN L k).version < headV (L k) 0 then hdOf (L k) else bestN L k
def HdN.row (h : HdN) : Array Value := #[.int .u64 (h.version : Nat), .int .u64 (h.first : Nat), .int .u64 (h.place : Nat), .int .u64 (h.behind : Nat)]

set_option maxRecDepth 100000 in
set_option maxHeartbeats 4000000 in
theorem newest_any {w : World} {v : Value} {n : Nat} {L : Nat → List Nat} (hs : SecL w v n L) (hn : n ≤ 65536) :
    Calls Try.prog 34 #[v] w fun e w' => e = .returned (.agg (bestN L n).row) ∧ Below w.heap.size w w' := by
  obtain ⟨b, off, cap, rfl, h1, h2, -⟩ := id hs
  have HS := Lib.hid hs
  clear hs
  obtain ⟨X, hX, hX0, hX1, hbX, hXs⟩ : ∃ X, X = (w.alloc (.cells #[.int .u64 0, .int .u64 0, .int .u64 0, .int .u64 0] 69)).alloc (.cells #[.int .u64 0, .int .u64 0, .int .u64 0, .int .u64 0] 69) ∧
      X.heap[w.heap.size]? = some (.cells #[.int .u64 0, .int .u64 0, .int .u64 0, .int .u64 0] 69 (0, 0)) ∧ X.heap[w.heap.size + 1]? = some (.cells (bestN L 0).row 69 (0, 0)) ∧ Below w.heap.size w X ∧ X.heap.size = w.heap.size + 2 := by
    have e2 := heap_alloc_new (w.alloc (.cells #[.int .u64 0, .int .u64 0, .int .u64 0, .int .u64 0] 69)) (.cells #[.int .u64 0, .int .u64 0, .int .u64 0, .int .u64 0] 69)
    rw [World.size_alloc] at e2
    exact ⟨_, rfl, (Below.heap_alloc _ _ _ (by simp)).trans (heap_alloc_new w _), e2, ((Below.refl _ _).alloc (Nat.le_refl _) _).alloc (by simp) _, by simp⟩
  have H0 := Lib.hid hX0
  have H1 := Lib.hid hX1
  have HB := Lib.hid hbX
  have HXS := Lib.hid hXs
  clear hX0 hX1 hbX hXs
  go_enter Try.func34, Try.ntmps34
  go_upto_region 2 with (fail)
  rw [← hX]
  clear hX
  have hq := Lib.hid (show w.heap.size ≠ w.heap.size + 1 by omega)
  have HQS : Hid (w.heap.size + 1 < X.heap.size) := Lib.hid (by have := HXS.out; omega)
  have HQW : Hid (w.heap.size ≤ w.heap.size + 1) := Lib.hid (by omega)
  generalize w.heap.size + 1 = q at *
  go_wp2_with fail
  go_loopw [10] (fun i wr => ∃ k : Nat, k ≤ n ∧ i = .int .i64 (k : Nat) ∧ Below w.heap.size w wr ∧ wr.heap[w.heap.size]? = some (.cells #[.int .u64 0, .int .u64 0, .int .u64 0, .int .u64 0] 69 (0, 0)) ∧ wr.heap[q]? = some (.cells (bestN L k).row 69 (0, 0))) (fun i _ => n - (RowKit.intOf i).toNat)
  case atStart => exact ⟨0, Nat.zero_le _, rfl, HB.out, H0.out, H1.out⟩
  case round =>
    obtain ⟨k, hk, rfl, hb, hp1, hq1⟩ := hrel
    have HWB := Lib.hid hb
    by_cases hkn : k < n
    · have hkz : (k : Int) < (n : Int) := by omega
      obtain ⟨b', off', cap', e, -, -, hcell⟩ := HS.out.below HWB.out
      obtain ⟨⟨rfl, rfl⟩, rfl⟩ : (b = b' ∧ off = off') ∧ cap = cap' := by simpa using e
      obtain ⟨sa, sc, hc, hrow, h64⟩ := hcell k hkn
      have HRH := Lib.hid (read_head hrow h64)
      have HP1 := Lib.hid hp1
      have HQ1 := Lib.hid hq1
      clear hb hcell e hp1 hq1 hrow h64
      obtain ⟨bst, hbst⟩ : ∃ x, bestN L k = x := ⟨_, rfl⟩
      obtain ⟨bv, bf, bp, bb⟩ := bst
      rw [hbst] at HQ1
      obtain ⟨hv, hhv⟩ : ∃ x, headV (L k) 0 = x := ⟨_, rfl⟩
      obtain ⟨hf, hhf⟩ : ∃ x, headV (L k) 1 = x := ⟨_, rfl⟩
      obtain ⟨hp, hhp⟩ : ∃ x, headV (L k) 2 = x := ⟨_, rfl⟩
      obtain ⟨hb, hhb⟩ : ∃ x, headV (L k) 3 = x := ⟨_, rfl⟩
      rw [hhv, hhf, hhp, hhb] at HRH
      have HHD : Hid (bestN L (k + 1) = if wholeL (L k) = true ∧ bv < hv then ⟨hv, hf, hp, hb⟩ else ⟨bv, bf, bp, bb⟩) := Lib.hid (by rw [bestN, hbst, hdOf, hhv, hhf, hhp, hhb])
      clear hbst hhv hhf hhp hhb
      simp only [HdN.row] at HQ1
      have HQS' : Hid (q < wr.heap.size) := Lib.hid (lt_of_block HQ1.out)
      simp only [row4] at HRH
      go_upto_region 6 with (first
        | (go_at_call 50; refine HRH.out.mono ?_; rintro e w3 ⟨rfl, hb3⟩
           have HP3 := Lib.hid ((hb3.block w.heap.size (lt_of_block HP1.out)).trans HP1.out)
           have HQ3 := Lib.hid ((hb3.block q HQS'.out).trans HQ1.out)
           have HB3 := Lib.hid (HWB.out.trans (hb3.mono HWB.out.size))
           clear hb3))
      have HX4 : Hid ((w3.alloc (.cells #[.int .u64 (hv : Nat), .int .u64 (hf : Nat), .int .u64 (hp : Nat), .int .u64 (hb : Nat)] 69)).heap[w3.heap.size]? = some (.cells #[.int .u64 (hv : Nat), .int .u64 (hf : Nat), .int .u64 (hp : Nat), .int .u64 (hb : Nat)] 69 (0, 0))) := Lib.hid (heap_alloc_new w3 _)
      have HP4 := Lib.hid ((Below.heap_alloc w3 (.cells #[.int .u64 (hv : Nat), .int .u64 (hf : Nat), .int .u64 (hp : Nat), .int .u64 (hb : Nat)] 69) w.heap.size (lt_of_block HP3.out)).trans HP3.out)
      have HQ4 := Lib.hid ((Below.heap_alloc w3 (.cells #[.int .u64 (hv : Nat), .int .u64 (hf : Nat), .int .u64 (hp : Nat), .int .u64 (hb : Nat)] 69) q (lt_of_block HQ3.out)).trans HQ3.out)
      have HB4 := Lib.hid (HB3.out.alloc HB3.out.size (.cells #[.int .u64 (hv : Nat), .int .u64 (hf : Nat), .int .u64 (hp : Nat), .int .u64 (hb : Nat)] 69))
      have HPN : Hid (q ≠ w3.heap.size) := Lib.hid (by have := lt_of_block HQ3.out; omega)
      clear HP3 HQ3 HB3
      generalize w3.alloc (.cells #[.int .u64 (hv : Nat), .int .u64 (hf : Nat), .int .u64 (hp : Nat), .int .u64 (hb : Nat)] 69) = w4 at *
      generalize w3.heap.size = P at *
      have y0 := cell_of_row w4 q 0 _ _ _ HQ4.out
      have x0 := cell_of_row w4 P 0 _ _ _ HX4.out
      have x1 := cell_of_row w4 P 1 _ _ _ HX4.out
      have x2 := cell_of_row w4 P 2 _ _ _ HX4.out
      have x3 := cell_of_row w4 P 3 _ _ _ HX4.out
      have y1 := cell_of_row w4 q 1 _ _ _ HQ4.out
      have y2 := cell_of_row w4 q 2 _ _ _ HQ4.out
      have y3 := cell_of_row w4 q 3 _ _ _ HQ4.out
      simp only [List.getElem?_toArray, List.getElem?_cons_zero, List.getElem?_cons_succ] at x0 x1 x2 x3 y0 y1 y2 y3
      have f0 := frozen_of_row w4 q 0 _ _ HQ4.out
      have f1 := frozen_of_row w4 q 1 _ _ HQ4.out
      have f2 := frozen_of_row w4 q 2 _ _ HQ4.out
      have f3 := frozen_of_row w4 q 3 _ _ HQ4.out
      have HE := Lib.hid (set4_block HQ4.out (.int .u64 (hv : Nat)) (.int .u64 (hf : Nat)) (.int .u64 (hp : Nat)) (.int .u64 (hb : Nat)))
      have hbs := set4_beside w4 q (.int .u64 (hv : Nat)) (.int .u64 (hf : Nat)) (.int .u64 (hp : Nat)) (.int .u64 (hb : Nat))
      have HPE := Lib.hid ((hbs.block w.heap.size (lt_of_block HP4.out) hq.out).trans HP4.out)
      have HBE := Lib.hid (HB4.out.trans (hbs.below (fun k hk => by rw [hk]; exact HQW.out) HB4.out.size))
      clear hbs
      cases ho : wholeL (L k)
      · rw [ho] at HHD
        simp only [Bool.false_eq_true, false_and, if_false] at HHD
        clear ho
        go_wp2_with fail
        go_roundw
        case rel => exact ⟨k + 1, by omega, by go_num, HB4.out, HP4.out, by rw [HHD.out]; exact HQ4.out⟩
        case measure => simp [intOf]; omega
      · rw [ho] at HHD
        simp only [true_and] at HHD
        clear ho
        by_cases hlt : bv < hv
        · rw [if_pos hlt] at HHD
          have hltz : (bv : Int) < (hv : Int) := by omega
          go_wp2_with go_region
          go_roundw
          case rel => exact ⟨k + 1, by omega, by go_num, HBE.out, HPE.out, by rw [HHD.out]; exact HE.out⟩
          case measure => simp [intOf]; omega
        · rw [if_neg hlt] at HHD
          have hltz : ¬ (bv : Int) < (hv : Int) := by omega
          go_wp2_with go_region
          go_roundw
          case rel => exact ⟨k + 1, by omega, by go_num, HB4.out, HP4.out, by rw [HHD.out]; exact HQ4.out⟩
          case measure => simp [intOf]; omega
    · obtain rfl : k = n := by omega
      obtain ⟨⟨bv, bf, bp, bb⟩, hbst⟩ : ∃ x, bestN L k = x := ⟨_, rfl⟩
      rw [hbst] at hq1
      simp only [HdN.row] at hq1
      have HBST := Lib.hid hbst
      clear hbst
      have x0 := cell_of_row wr q 0 _ _ _ hq1
      have x1 := cell_of_row wr q 1 _ _ _ hq1
      have x2 := cell_of_row wr q 2 _ _ _ hq1
      have x3 := cell_of_row wr q 3 _ _ _ hq1
      have y0 := cell_of_row wr w.heap.size 0 _ _ _ hp1
      have y1 := cell_of_row wr w.heap.size 1 _ _ _ hp1
      have y2 := cell_of_row wr w.heap.size 2 _ _ _ hp1
      have y3 := cell_of_row wr w.heap.size 3 _ _ _ hp1
      simp only [List.getElem?_toArray, List.getElem?_cons_zero, List.getElem?_cons_succ] at x0 x1 x2 x3 y0 y1 y2 y3
      have f0 := frozen_of_row wr w.heap.size 0 _ _ hp1
      have f1 := frozen_of_row wr w.heap.size 1 _ _ hp1
      have f2 := frozen_of_row wr w.heap.size 2 _ _ hp1
      have f3 := frozen_of_row wr w.heap.size 3 _ _ hp1
      have HE := Lib.hid (set4_block hp1 (.int .u64 (bv : Nat)) (.int .u64 (bf : Nat)) (.int .u64 (bp : Nat)) (.int .u64 (bb : Nat)))
      have HBE := Lib.hid (HWB.out.trans ((set4_beside wr w.heap.size (.int .u64 (bv : Nat)) (.int .u64 (bf : Nat)) (.int .u64 (bp : Nat)) (.int .u64 (bb : Nat))).below (fun k hk => by rw [hk]; exact Nat.le_refl _) HWB.out.size))
      have hqq := hq.out
      clear hp1 hq1 hb
      go_wp2_with fail
      refine bodyPost_ret (v := .agg #[.int .u64 (bv : Nat), .int .u64 (bf : Nat), .int .u64 (bp : Nat), .int .u64 (bb : Nat)]) (results_cell_row rfl _ _ w.heap.size 69 _ (0, 0) _ rfl HE.out Try.underlying69 rfl (by kernel_rfl)) rfl ⟨by rw [HBST.out]; rfl, HBE.out⟩
end Go.Proofs.Ytmkedanlpapndaa
