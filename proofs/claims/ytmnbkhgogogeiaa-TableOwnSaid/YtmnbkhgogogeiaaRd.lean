/-
  A sector is read: a head, a cell.
-/
import Derived.Test.YtmnbkhgogogeiaaRecs
namespace Go.Proofs.Ytmnbkhgogogeiaa
set_option linter.unusedVariables false
open Go.RowKit

/-- the number at a place of a sector that was written whole -/
def numAt (l : List Nat) (lo hi : Nat) : Nat := val ((l.take hi).drop lo)
theorem numAt_lt (l : List Nat) (lo hi : Nat) (h : hi ≤ lo + 8) (h256 : ∀ n ∈ l, n < 256) : numAt l lo hi < 18446744073709551616 := by
  unfold numAt
  refine Nat.lt_of_lt_of_le (val_lt _ fun n hn => h256 n (List.mem_of_mem_take (List.mem_of_mem_drop hn))) ?_
  have e1 : ((l.take hi).drop lo).length ≤ 8 := by simp; omega
  exact Nat.pow_le_pow_right (by decide) e1
def headV (l : List Nat) (i : Nat) : Nat := if wholeL l then numAt l (1 + i * 8) (9 + i * 8) else 0
def row4 (a b c d : Nat) : Array Value := #[.int .u64 (a : Nat), .int .u64 (b : Nat), .int .u64 (c : Nat), .int .u64 (d : Nat)]

def hk (l : List Nat) (k i : Nat) : Nat := if i < k then numAt l (1 + i * 8) (9 + i * 8) else 0
def arrK (l : List Nat) (k : Nat) : Array Value := row4 (hk l k 0) (hk l k 1) (hk l k 2) (hk l k 3)
set_option maxRecDepth 100000 in
theorem head_ret (tmps : Array Value) (w : World) (b : Nat) (cs : Array Value) (v : Value) (hsz : cs.size = 4) (hp : tmps.getD 2 undef = .pointer (some ⟨b, 0, none⟩)) (hv : tmps.getD 3 undef = v) (hg : w.heap[b]? = some (.cells cs 88 (0, 0))) :
    (results Try.f76 tmps).run Try.prog w = .ok (.tuple #[.agg cs, v]) w := by
  rw [results_cell_tmp (fn := Try.f76) (p := 2) (u := 3) (ty := 88) rfl, hp]
  have hl := run_loadVar_row (P := Try.prog) w b 88 88 cs (0, 0) _ hg Try.underlying88 rfl (by rw [hsz]; kernel_rfl)
  simp only [asAddr]
  show Result.andThen ((loadVar 88 ⟨b, 0, none⟩).run Try.prog w) _ = _
  rw [hl]
  show Result.ok _ _ = _
  rw [hv]
theorem getp_any {w : World} {b off cap : Nat} {l : List Nat} (hr : RowB w (.slice (some ⟨b, off, none⟩) 64 cap) l) (h64 : l.length = 64) (lo hi : Nat) (h1 : lo ≤ hi) (h2 : hi ≤ lo + 8) (h3 : hi ≤ 64) :
    Calls Try.prog 100 #[.slice (some ⟨b, off + lo, none⟩) (hi - lo) (cap - lo)] w fun e w' => e = .returned (.int .u64 (numAt l lo hi : Nat)) ∧ w = w' := by
  have h := (rowB_part hr lo hi h1 (by omega)).1
  have e : Option.map (fun x : Addr => x.add lo) (some ⟨b, off, none⟩) = some ⟨b, off + lo, none⟩ := by rw [Option.map_some, Addr.add_lit]
  rw [e] at h
  exact get_any h (by simp; omega)

set_option maxRecDepth 100000 in
set_option maxHeartbeats 4000000 in
theorem read_head {w : World} {v : Value} {l : List Nat} (hr : RowB w v l) (h64 : l.length = 64) :
    Calls Try.prog 76 #[v] w fun e w' => e = .returned (.tuple #[.agg (row4 (headV l 0) (headV l 1) (headV l 2) (headV l 3)), .bool (wholeL l)]) ∧ Below w.heap.size w w' := by
  rcases hr.shape with ⟨rfl, _⟩ | ⟨b, off, cap, rfl, _, hc, hm, _⟩
  · simp at h64
  rw [h64] at hr hc ⊢
  have HR := Lib.hid hr
  have HZ : Hid (∀ t, (w.alloc (.cells #[.int .u64 0, .int .u64 0, .int .u64 0, .int .u64 0] t)).heap[w.heap.size]? = some (.cells #[.int .u64 0, .int .u64 0, .int .u64 0, .int .u64 0] t (0, 0))) := Lib.hid fun t => heap_alloc_new w _
  obtain ⟨X, hX, hXb, hbX⟩ : ∃ X, X = w.alloc (.cells #[.int .u64 0, .int .u64 0, .int .u64 0, .int .u64 0] 88) ∧ X.heap[w.heap.size]? = some (.cells #[.int .u64 0, .int .u64 0, .int .u64 0, .int .u64 0] 88 (0, 0)) ∧ Below w.heap.size w X :=
    ⟨_, rfl, heap_alloc_new w _, (Below.refl _ _).alloc (Nat.le_refl _) _⟩
  have HWH := Lib.hid (whole_any (hr.below hbX) h64)
  have HXS : Hid (X.heap.size = w.heap.size + 1) := Lib.hid (by rw [hX]; simp)
  have HBX := Lib.hid hbX
  have HXB := Lib.hid hXb
  have hlit : (⟨b, off, none⟩ : Addr) = ⟨b, off, none⟩ := rfl
  clear hr hbX hXb HZ hlit
  go_enter Try.func76, Try.ntmps76
  go_upto_region 1 with (fail)
  rw [← hX]
  clear hX
  cases hw : wholeL l
  · rw [hw] at HWH
    have HW := Lib.hid hw
    clear hw
    go_wp2_with (go_at_call 99; refine HWH.out.mono ?_; rintro e w2 ⟨rfl, hb2⟩
                 have hx2 := (hb2.block w.heap.size (by have := HXS.out; omega)).trans HXB.out
                 have z0 := cell_of_row w2 w.heap.size 0 _ _ _ hx2
                 have z1 := cell_of_row w2 w.heap.size 1 _ _ _ hx2
                 have z2 := cell_of_row w2 w.heap.size 2 _ _ _ hx2
                 have z3 := cell_of_row w2 w.heap.size 3 _ _ _ hx2
                 simp only [List.getElem?_toArray, List.getElem?_cons_zero, List.getElem?_cons_succ] at z0 z1 z2 z3
                 have y0 := frozen_of_row w2 w.heap.size 0 _ _ hx2
                 have y1 := frozen_of_row w2 w.heap.size 1 _ _ hx2
                 have y2 := frozen_of_row w2 w.heap.size 2 _ _ hx2
                 have y3 := frozen_of_row w2 w.heap.size 3 _ _ hx2
                 have HX2 := Lib.hid hx2
                 have HB2 := Lib.hid (HBX.out.trans (hb2.mono HBX.out.size))
                 clear hb2 hx2)
    have e4 := set4_block HX2.out (.int .u64 0) (.int .u64 0) (.int .u64 0) (.int .u64 0)
    have b4 := set4_beside w2 w.heap.size (.int .u64 0) (.int .u64 0) (.int .u64 0) (.int .u64 0)
    refine bodyPost_ret (head_ret _ _ w.heap.size _ _ rfl rfl rfl e4) rfl ⟨?_, HB2.out.trans (b4.below (fun k hk => by rw [hk]; exact Nat.le_refl _) HB2.out.size)⟩
    simp [headV, row4, HW.out]
  · rw [hw] at HWH
    have HW := Lib.hid hw
    clear hw
    go_wp2_with (go_at_call 99; refine HWH.out.mono ?_; rintro e w2 ⟨rfl, hb2⟩
                 have HX2 := Lib.hid ((hb2.block w.heap.size (by have := HXS.out; omega)).trans HXB.out)
                 have HB2 := Lib.hid (HBX.out.trans (hb2.mono HBX.out.size))
                 have HS2 : Hid (w.heap.size < w2.heap.size) := Lib.hid (by have h1 := HXS.out; have h2 := hb2.size; omega)
                 clear hb2)
    have HXA := Lib.hid ((Below.heap_alloc w2 (.cells #[.int .u64 0, .int .u64 0, .int .u64 0, .int .u64 0] 148) w.heap.size HS2.out).trans HX2.out)
    have HBA := Lib.hid (HB2.out.alloc HB2.out.size (.cells #[.int .u64 0, .int .u64 0, .int .u64 0, .int .u64 0] 148))
    have HQA := Lib.hid (heap_alloc_new w2 (.cells #[.int .u64 0, .int .u64 0, .int .u64 0, .int .u64 0] 148))
    go_loopw [10] (fun i wr => ∃ k : Nat, k ≤ 4 ∧ i = .int .i64 (k : Nat) ∧ wr.heap[w2.heap.size]? = some (.cells (arrK l k) 148 (0, 0)) ∧ Below w.heap.size w wr ∧ wr.heap[w.heap.size]? = some (.cells #[.int .u64 0, .int .u64 0, .int .u64 0, .int .u64 0] 88 (0, 0))) (fun i _ => 4 - (RowKit.intOf i).toNat)
    case atStart => exact ⟨0, by decide, rfl, HQA.out, HBA.out, HXA.out⟩
    case round =>
      obtain ⟨k, hk4, rfl, hq, hbw, hxw⟩ := hrel
      have HQ := Lib.hid hq
      have HBW := Lib.hid hbw
      have HXW := Lib.hid hxw
      have HRW := Lib.hid (HR.out.below hbw)
      clear hq hbw hxw
      by_cases hkn : k < 4
      · have : k = 0 ∨ k = 1 ∨ k = 2 ∨ k = 3 := by omega
        rcases this with rfl | rfl | rfl | rfl
        · have z0 := cell_of_row wr w2.heap.size 0 _ _ _ HQ.out
          simp only [arrK, row4, List.getElem?_toArray, List.getElem?_cons_zero] at z0
          have f0 := frozen_of_row wr w2.heap.size 0 _ _ HQ.out
          have HGP := Lib.hid (getp_any HRW.out h64 1 9 (by decide) (by decide) (by decide))
          have HST : Hid ((wr.setCell ⟨w2.heap.size, 0, none⟩ (.int .u64 (numAt l 1 9 : Nat))).heap[w2.heap.size]? = some (.cells (arrK l 1) 148 (0, 0))) := Lib.hid (heap_setCell_same wr w2.heap.size 0 _ 148 (.int .u64 (numAt l 1 9 : Nat)) HQ.out)
          have HBS := Lib.hid (HBW.out.setCell (p := ⟨w2.heap.size, 0, none⟩) (Nat.le_of_lt HS2.out) (.int .u64 (numAt l 1 9 : Nat)))
          have HXS2 : Hid ((wr.setCell ⟨w2.heap.size, 0, none⟩ (.int .u64 (numAt l 1 9 : Nat))).heap[w.heap.size]? = some (.cells #[.int .u64 0, .int .u64 0, .int .u64 0, .int .u64 0] 88 (0, 0))) := Lib.hid ((Below.heap_setCell _ _ _ _ (by have := HS2.out; show w.heap.size ≠ w2.heap.size; omega)).trans HXW.out)
          go_wp2_with (go_at_call 100; refine HGP.out.mono ?_; rintro e w3 ⟨rfl, rfl⟩)
          go_roundw
          case rel => exact ⟨1, by decide, rfl, HST.out, HBS.out, HXS2.out⟩
          case measure => simp [intOf]
        · have z0 := cell_of_row wr w2.heap.size 1 _ _ _ HQ.out
          simp only [arrK, row4, List.getElem?_toArray, List.getElem?_cons_zero, List.getElem?_cons_succ] at z0
          have f0 := frozen_of_row wr w2.heap.size 1 _ _ HQ.out
          have HGP := Lib.hid (getp_any HRW.out h64 9 17 (by decide) (by decide) (by decide))
          have HST : Hid ((wr.setCell ⟨w2.heap.size, 1, none⟩ (.int .u64 (numAt l 9 17 : Nat))).heap[w2.heap.size]? = some (.cells (arrK l 2) 148 (0, 0))) := Lib.hid (heap_setCell_same wr w2.heap.size 1 _ 148 (.int .u64 (numAt l 9 17 : Nat)) HQ.out)
          have HBS := Lib.hid (HBW.out.setCell (p := ⟨w2.heap.size, 1, none⟩) (Nat.le_of_lt HS2.out) (.int .u64 (numAt l 9 17 : Nat)))
          have HXS2 : Hid ((wr.setCell ⟨w2.heap.size, 1, none⟩ (.int .u64 (numAt l 9 17 : Nat))).heap[w.heap.size]? = some (.cells #[.int .u64 0, .int .u64 0, .int .u64 0, .int .u64 0] 88 (0, 0))) := Lib.hid ((Below.heap_setCell _ _ _ _ (by have := HS2.out; show w.heap.size ≠ w2.heap.size; omega)).trans HXW.out)
          go_wp2_with (go_at_call 100; refine HGP.out.mono ?_; rintro e w3 ⟨rfl, rfl⟩)
          go_roundw
          case rel => exact ⟨2, by decide, rfl, HST.out, HBS.out, HXS2.out⟩
          case measure => simp [intOf]
        · have z0 := cell_of_row wr w2.heap.size 2 _ _ _ HQ.out
          simp only [arrK, row4, List.getElem?_toArray, List.getElem?_cons_zero, List.getElem?_cons_succ] at z0
          have f0 := frozen_of_row wr w2.heap.size 2 _ _ HQ.out
          have HGP := Lib.hid (getp_any HRW.out h64 17 25 (by decide) (by decide) (by decide))
          have HST : Hid ((wr.setCell ⟨w2.heap.size, 2, none⟩ (.int .u64 (numAt l 17 25 : Nat))).heap[w2.heap.size]? = some (.cells (arrK l 3) 148 (0, 0))) := Lib.hid (heap_setCell_same wr w2.heap.size 2 _ 148 (.int .u64 (numAt l 17 25 : Nat)) HQ.out)
          have HBS := Lib.hid (HBW.out.setCell (p := ⟨w2.heap.size, 2, none⟩) (Nat.le_of_lt HS2.out) (.int .u64 (numAt l 17 25 : Nat)))
          have HXS2 : Hid ((wr.setCell ⟨w2.heap.size, 2, none⟩ (.int .u64 (numAt l 17 25 : Nat))).heap[w.heap.size]? = some (.cells #[.int .u64 0, .int .u64 0, .int .u64 0, .int .u64 0] 88 (0, 0))) := Lib.hid ((Below.heap_setCell _ _ _ _ (by have := HS2.out; show w.heap.size ≠ w2.heap.size; omega)).trans HXW.out)
          go_wp2_with (go_at_call 100; refine HGP.out.mono ?_; rintro e w3 ⟨rfl, rfl⟩)
          go_roundw
          case rel => exact ⟨3, by decide, rfl, HST.out, HBS.out, HXS2.out⟩
          case measure => simp [intOf]
        · have z0 := cell_of_row wr w2.heap.size 3 _ _ _ HQ.out
          simp only [arrK, row4, List.getElem?_toArray, List.getElem?_cons_zero, List.getElem?_cons_succ] at z0
          have f0 := frozen_of_row wr w2.heap.size 3 _ _ HQ.out
          have HGP := Lib.hid (getp_any HRW.out h64 25 33 (by decide) (by decide) (by decide))
          have HST : Hid ((wr.setCell ⟨w2.heap.size, 3, none⟩ (.int .u64 (numAt l 25 33 : Nat))).heap[w2.heap.size]? = some (.cells (arrK l 4) 148 (0, 0))) := Lib.hid (heap_setCell_same wr w2.heap.size 3 _ 148 (.int .u64 (numAt l 25 33 : Nat)) HQ.out)
          have HBS := Lib.hid (HBW.out.setCell (p := ⟨w2.heap.size, 3, none⟩) (Nat.le_of_lt HS2.out) (.int .u64 (numAt l 25 33 : Nat)))
          have HXS2 : Hid ((wr.setCell ⟨w2.heap.size, 3, none⟩ (.int .u64 (numAt l 25 33 : Nat))).heap[w.heap.size]? = some (.cells #[.int .u64 0, .int .u64 0, .int .u64 0, .int .u64 0] 88 (0, 0))) := Lib.hid ((Below.heap_setCell _ _ _ _ (by have := HS2.out; show w.heap.size ≠ w2.heap.size; omega)).trans HXW.out)
          go_wp2_with (go_at_call 100; refine HGP.out.mono ?_; rintro e w3 ⟨rfl, rfl⟩)
          go_roundw
          case rel => exact ⟨4, by decide, rfl, HST.out, HBS.out, HXS2.out⟩
          case measure => simp [intOf]
      · obtain rfl : k = 4 := by omega
        have z0 := cell_of_row wr w2.heap.size 0 _ _ _ HQ.out
        have z1 := cell_of_row wr w2.heap.size 1 _ _ _ HQ.out
        have z2 := cell_of_row wr w2.heap.size 2 _ _ _ HQ.out
        have z3 := cell_of_row wr w2.heap.size 3 _ _ _ HQ.out
        simp only [arrK, row4, List.getElem?_toArray, List.getElem?_cons_zero, List.getElem?_cons_succ] at z0 z1 z2 z3
        have y0 := cell_of_row wr w.heap.size 0 _ _ _ HXW.out
        have y1 := cell_of_row wr w.heap.size 1 _ _ _ HXW.out
        have y2 := cell_of_row wr w.heap.size 2 _ _ _ HXW.out
        have y3 := cell_of_row wr w.heap.size 3 _ _ _ HXW.out
        simp only [List.getElem?_toArray, List.getElem?_cons_zero, List.getElem?_cons_succ] at y0 y1 y2 y3
        have f0 := frozen_of_row wr w.heap.size 0 _ _ HXW.out
        have f1 := frozen_of_row wr w.heap.size 1 _ _ HXW.out
        have f2 := frozen_of_row wr w.heap.size 2 _ _ HXW.out
        have f3 := frozen_of_row wr w.heap.size 3 _ _ HXW.out
        have e4 := set4_block HXW.out (.int .u64 (hk l 4 0 : Nat)) (.int .u64 (hk l 4 1 : Nat)) (.int .u64 (hk l 4 2 : Nat)) (.int .u64 (hk l 4 3 : Nat))
        have b4 := set4_beside wr w.heap.size (.int .u64 (hk l 4 0 : Nat)) (.int .u64 (hk l 4 1 : Nat)) (.int .u64 (hk l 4 2 : Nat)) (.int .u64 (hk l 4 3 : Nat))
        have HE4 := Lib.hid e4
        have HB4 := Lib.hid (HBW.out.trans (b4.below (fun k hk => by rw [hk]; exact Nat.le_refl _) HBW.out.size))
        clear e4 b4
        go_wp2_with fail
        refine bodyPost_ret (head_ret _ _ w.heap.size _ _ rfl rfl rfl HE4.out) rfl ⟨?_, HB4.out⟩
        simp [headV, row4, HW.out, hk]
end Go.Proofs.Ytmnbkhgogogeiaa
