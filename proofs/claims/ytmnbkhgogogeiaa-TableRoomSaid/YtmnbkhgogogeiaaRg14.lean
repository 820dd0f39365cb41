/-
  Several texts of one proof, each in a section of its own: RdC, Fresh.
-/
import Derived.Test.YtmnbkhgogogeiaaRg13
namespace Go.Proofs.Ytmnbkhgogogeiaa
section
set_option linter.unusedVariables false
open Go.RowKit

def numN (l : List Nat) (lo n : Nat) : Nat := numAt l lo (lo + n)
def cellV (l : List Nat) (lo n : Nat) : Nat := if wholeL l then numN l lo n else 0
def okCell (l : List Nat) : Bool := wholeL l && decide (0 < numN l 1 8)
set_option maxRecDepth 100000 in
theorem cell_ret (tmps : Array Value) (w : World) (b : Nat) (cs : Array Value) (v : Value) (hsz : cs.size = 5) (hp : tmps.getD 2 undef = .pointer (some ⟨b, 0, none⟩)) (hv : tmps.getD 3 undef = v) (hg : w.heap[b]? = some (.cells cs 128 (0, 0))) :
    (results Try.f79 tmps).run Try.prog w = .ok (.tuple #[.agg cs, v]) w := by
  rw [results_cell_tmp (fn := Try.f79) (p := 2) (u := 3) (ty := 128) rfl, hp]
  have hl := run_loadVar_row (P := Try.prog) w b 128 128 cs (0, 0) _ hg Try.underlying128 rfl (by rw [hsz]; kernel_rfl)
  simp only [asAddr]
  show Result.andThen ((loadVar 128 ⟨b, 0, none⟩).run Try.prog w) _ = _
  rw [hl]
  show Result.ok _ _ = _
  rw [hv]
theorem set5_block {w : World} {q : Nat} {a b c d e : Value} {t : TypeId} (h : w.heap[q]? = some (.cells #[a, b, c, d, e] t (0, 0))) (x y z u v : Value) :
    (((((w.setCell ⟨q, 0, none⟩ x).setCell ⟨q, 1, none⟩ y).setCell ⟨q, 2, none⟩ z).setCell ⟨q, 3, none⟩ u).setCell ⟨q, 4, none⟩ v).heap[q]? = some (.cells #[x, y, z, u, v] t (0, 0)) := by
  have h1 := heap_setCell_same w q 0 _ t x h
  have h2 := heap_setCell_same _ q 1 _ t y h1
  have h3 := heap_setCell_same _ q 2 _ t z h2
  have h4 := heap_setCell_same _ q 3 _ t u h3
  exact heap_setCell_same _ q 4 _ t v h4
theorem set5_beside (w : World) (q : Nat) (x y z u v : Value) : Beside (fun k => k = q) w (((((w.setCell ⟨q, 0, none⟩ x).setCell ⟨q, 1, none⟩ y).setCell ⟨q, 2, none⟩ z).setCell ⟨q, 3, none⟩ u).setCell ⟨q, 4, none⟩ v) :=
  (set4_beside w q x y z u).setCell (p := ⟨q, 4, none⟩) (.inl rfl) v

set_option maxRecDepth 100000 in
set_option maxHeartbeats 4000000 in
theorem read_cell {w : World} {v : Value} {l : List Nat} (hr : RowB w v l) (h64 : l.length = 64) :
    Calls Try.prog 79 #[v] w fun e w' => ∃ dv, e = .returned (.tuple #[.agg #[.int .u64 (cellV l 1 8 : Nat), .int .u64 (cellV l 9 8 : Nat), .int .u64 (cellV l 17 4 : Nat), .int .u64 (cellV l 21 2 : Nat), dv], .bool (okCell l)]) ∧
      (wholeL l = true → RowB w dv ((l.take 63).drop 23)) ∧ Below w.heap.size w w' := by
  rcases hr.shape with ⟨rfl, _⟩ | ⟨b, off, cap, rfl, _, hc, hm, _⟩
  · simp at h64
  rw [h64] at hr hc ⊢
  have HR := Lib.hid hr
  obtain ⟨X, hX, hXb, hbX⟩ : ∃ X, X = w.alloc (.cells #[.int .u64 0, .int .u64 0, .int .u64 0, .int .u64 0, .slice none 0 0] 128) ∧ X.heap[w.heap.size]? = some (.cells #[.int .u64 0, .int .u64 0, .int .u64 0, .int .u64 0, .slice none 0 0] 128 (0, 0)) ∧ Below w.heap.size w X :=
    ⟨_, rfl, heap_alloc_new w _, (Below.refl _ _).alloc (Nat.le_refl _) _⟩
  have HWH := Lib.hid (whole_any (hr.below hbX) h64)
  have HXS : Hid (X.heap.size = w.heap.size + 1) := Lib.hid (by rw [hX]; simp)
  have HBX := Lib.hid hbX
  have HXB := Lib.hid hXb
  clear hr hbX hXb
  go_enter Try.func79, Try.ntmps79
  go_upto_region 1 with (fail)
  rw [← hX]
  clear hX
  cases hw : wholeL l
  · rw [hw] at HWH
    have HW := Lib.hid hw
    clear hw
    go_wp2_with (go_at_call 99; refine HWH.out.mono ?_; rintro e w2 ⟨rfl, hb2⟩
                 have hx2 := (hb2.block w.heap.size (by have := HXS.out; omega)).trans HXB.out
                 have z0 := cell_of_row w2 w.heap.size 0 _ _ _ hx2
                 have z1 := cell_of_row w2 w.heap.size 1 _ _ _ hx2
                 have z2 := cell_of_row w2 w.heap.size 2 _ _ _ hx2
                 have z3 := cell_of_row w2 w.heap.size 3 _ _ _ hx2
                 have z4 := cell_of_row w2 w.heap.size 4 _ _ _ hx2
                 simp only [List.getElem?_toArray, List.getElem?_cons_zero, List.getElem?_cons_succ] at z0 z1 z2 z3 z4
                 have y0 := frozen_of_row w2 w.heap.size 0 _ _ hx2
                 have y1 := frozen_of_row w2 w.heap.size 1 _ _ hx2
                 have y2 := frozen_of_row w2 w.heap.size 2 _ _ hx2
                 have y3 := frozen_of_row w2 w.heap.size 3 _ _ hx2
                 have y4 := frozen_of_row w2 w.heap.size 4 _ _ hx2
                 have HX2 := Lib.hid hx2
                 have HB2 := Lib.hid (HBX.out.trans (hb2.mono HBX.out.size))
                 clear hb2 hx2)
    have e4 := set5_block HX2.out (.int .u64 0) (.int .u64 0) (.int .u64 0) (.int .u64 0) (.slice none 0 0)
    have b4 := set5_beside w2 w.heap.size (.int .u64 0) (.int .u64 0) (.int .u64 0) (.int .u64 0) (.slice none 0 0)
    refine bodyPost_ret (cell_ret _ _ w.heap.size _ _ rfl rfl rfl e4) rfl ⟨.slice none 0 0, ?_, ?_, HB2.out.trans (b4.below (fun k hk => by rw [hk]; exact Nat.le_refl _) HB2.out.size)⟩
    · simp [cellV, okCell, HW.out]
    · intro h; rw [HW.out] at h; cases h
  · rw [hw] at HWH
    have HW := Lib.hid hw
    clear hw
    go_wp2_with (go_at_call 99; refine HWH.out.mono ?_; rintro e w2 ⟨rfl, hb2⟩
                 have HX2 := Lib.hid ((hb2.block w.heap.size (by have := HXS.out; omega)).trans HXB.out)
                 have HB2 := Lib.hid (HBX.out.trans (hb2.mono HBX.out.size))
                 have HS2 : Hid (w.heap.size < w2.heap.size) := Lib.hid (by have h1 := HXS.out; have h2 := hb2.size; omega)
                 clear hb2)
    have HG0 : Hid (∀ lo n W2, Below w.heap.size w W2 → n ≤ 8 → lo + n ≤ 64 → Calls Try.prog 100 #[.slice (some ⟨b, off + lo, none⟩) n (cap - lo)] W2 fun e w' => e = .returned (.int .u64 (numN l lo n : Nat)) ∧ W2 = w') := Lib.hid fun lo n W2 h2 h3 h4 => by
      have := getp_any (HR.out.below h2) h64 lo (lo + n) (by omega) (by omega) h4
      rwa [Nat.add_sub_cancel_left] at this
    have HA := Lib.hid (HB2.out.drew)
    have HBB := Lib.hid ((HB2.out.alloc HB2.out.size (.cells #[.int .u64 0, .int .u64 0, .int .u64 0, .int .u64 0, .slice none 0 0] 128)).drew)
    have c9 : ¬ cap = 1 := by omega
    have c10 : ¬ cap = 9 := by omega
    have c11 : ¬ cap = 17 := by omega
    have c12 : ¬ cap = 21 := by omega
    have c13 : ¬ cap = 23 := by omega
    have cz9 : (9 : Int) ≤ (cap : Int) := by omega
    have cz17 : (17 : Int) ≤ (cap : Int) := by omega
    have cz21 : (21 : Int) ≤ (cap : Int) := by omega
    have cz23 : (23 : Int) ≤ (cap : Int) := by omega
    have cz63 : (63 : Int) ≤ (cap : Int) := by omega
    go_cut [4] (fun u wx => ∃ q, u = .pointer (some ⟨q, 0, none⟩) ∧ wx.heap[q]? = some (.cells #[.int .u64 (numN l 1 8 : Nat), .int .u64 (numN l 9 8 : Nat), .int .u64 (numN l 17 4 : Nat), .int .u64 (numN l 21 2 : Nat), .slice (some ⟨b, off + 23, none⟩) 40 (cap - 23)] 128 (0, 0)) ∧ Below w2.heap.size w2 wx ∧ w2.heap.size ≤ q)
    case first =>
      go_region_law (first
        | (go_simp; go_at_call 100; refine (HG0.out _ _ _ (by first | with_reducible exact HA.out | with_reducible exact HBB.out) (by decide) (by decide)).mono ?_; rintro e w' ⟨rfl, rfl⟩))
      all_goals
        go_wp2_with fail
        go_meet
        exact ⟨w2.heap.size, rfl, heap_alloc_new w2 _, ((Below.refl _ _).alloc (Nat.le_refl _) _).drew, Nat.le_refl _⟩
    case rest =>
      obtain ⟨q, rfl, hbx, hbl, hqs⟩ := hcut
      have hx2 := (hbl.block w.heap.size HS2.out).trans HX2.out
      have HQN : Hid (¬ q = w.heap.size) := Lib.hid (by have := HS2.out; omega)
      have hqn := HQN.out
      have hqn2 : ¬ w.heap.size = q := fun e => hqn e.symm
      obtain ⟨n0, hn0⟩ : ∃ n0, numN l 1 8 = n0 := ⟨_, rfl⟩
      obtain ⟨n1, hn1⟩ : ∃ n1, numN l 9 8 = n1 := ⟨_, rfl⟩
      obtain ⟨n2, hn2⟩ : ∃ n2, numN l 17 4 = n2 := ⟨_, rfl⟩
      obtain ⟨n3, hn3⟩ : ∃ n3, numN l 21 2 = n3 := ⟨_, rfl⟩
      rw [hn0, hn1, hn2, hn3] at hbx
      have HN := Lib.hid (And.intro hn0 (And.intro hn1 (And.intro hn2 hn3)))
      have k0 := cell_of_row wc q 0 _ _ _ hbx
      have k1 := cell_of_row wc q 1 _ _ _ hbx
      have k2 := cell_of_row wc q 2 _ _ _ hbx
      have k3 := cell_of_row wc q 3 _ _ _ hbx
      have k4 := cell_of_row wc q 4 _ _ _ hbx
      simp only [List.getElem?_toArray, List.getElem?_cons_zero, List.getElem?_cons_succ] at k0 k1 k2 k3 k4
      have z0 := cell_of_row wc w.heap.size 0 _ _ _ hx2
      have z1 := cell_of_row wc w.heap.size 1 _ _ _ hx2
      have z2 := cell_of_row wc w.heap.size 2 _ _ _ hx2
      have z3 := cell_of_row wc w.heap.size 3 _ _ _ hx2
      have z4 := cell_of_row wc w.heap.size 4 _ _ _ hx2
      simp only [List.getElem?_toArray, List.getElem?_cons_zero, List.getElem?_cons_succ] at z0 z1 z2 z3 z4
      have y0 := frozen_of_row wc w.heap.size 0 _ _ hx2
      have y1 := frozen_of_row wc w.heap.size 1 _ _ hx2
      have y2 := frozen_of_row wc w.heap.size 2 _ _ hx2
      have y3 := frozen_of_row wc w.heap.size 3 _ _ hx2
      have y4 := frozen_of_row wc w.heap.size 4 _ _ hx2
      have HE := Lib.hid (set5_block hx2 (.int .u64 (n0 : Nat)) (.int .u64 (n1 : Nat)) (.int .u64 (n2 : Nat)) (.int .u64 (n3 : Nat)) (.slice (some ⟨b, off + 23, none⟩) 40 (cap - 23)))
      have hbb := HB2.out.trans (hbl.mono HB2.out.size)
      have HBE := Lib.hid (hbb.trans ((set5_beside wc w.heap.size (.int .u64 (n0 : Nat)) (.int .u64 (n1 : Nat)) (.int .u64 (n2 : Nat)) (.int .u64 (n3 : Nat)) (.slice (some ⟨b, off + 23, none⟩) 40 (cap - 23))).below (fun k hk => by rw [hk]; exact Nat.le_refl _) hbb.size))
      clear hbx hbl hx2 hn0 hn1 hn2 hn3 hqs hbb
      go_wp2_with go_region
      obtain ⟨m0, m1, m2, m3⟩ := HN.out
      refine bodyPost_ret (cell_ret _ _ w.heap.size _ _ rfl rfl rfl HE.out) rfl ⟨.slice (some ⟨b, off + 23, none⟩) 40 (cap - 23), ?_, fun _ => ?_, HBE.out.drew⟩
      · simp [cellV, okCell, HW.out, m0, m1, m2, m3]
      · have h := (rowB_part HR.out 23 63 (by decide) (by omega)).1
        have e : Option.map (fun x : Addr => x.add 23) (some ⟨b, off, none⟩) = some ⟨b, off + 23, none⟩ := by rw [Option.map_some, Addr.add_lit]
        rwa [e] at h
end
section
set_option linter.unusedVariables false
open Go.RowKit

/-- sectors that are 0, one by one -/
def SecZ (w : World) (v : Value) (n : Nat) : Prop :=
  ∃ b off cap, v = .slice (some ⟨b, off, none⟩) n cap ∧ n ≤ cap ∧ cap ≤ maxLen ∧ ∀ i, i < n → ∃ a c, w.cell? ⟨b, off + i, none⟩ = some (.slice a 64 c) ∧ RowB w (.slice a 64 c) (zeros 64)
theorem SecZ.below {w w' : World} {v : Value} {n : Nat} (h : SecZ w v n) (hb : Below w.heap.size w w') : SecZ w' v n := by
  obtain ⟨b, off, cap, e, h1, h2, h3⟩ := h
  refine ⟨b, off, cap, e, h1, h2, fun i hi => ?_⟩
  obtain ⟨a, c, k1, k2⟩ := h3 i hi
  exact ⟨a, c, by rw [hb.cell (World.block_lt_of_cell? w _ k1)]; exact k1, k2.below hb⟩
theorem whole_zero : wholeL (zeros 64) = true := by decide
theorem head_zero (i : Nat) (hi : i < 4) : headV (zeros 64) i = 0 := by
  have : i = 0 ∨ i = 1 ∨ i = 2 ∨ i = 3 := by omega
  rcases this with rfl | rfl | rfl | rfl <;> decide
theorem ok_zero : okCell (zeros 64) = false := by decide
theorem head_read_zero {w : World} {v : Value} (hr : RowB w v (zeros 64)) : Calls Try.prog 76 #[v] w fun e w' => e = .returned (.tuple #[.agg #[.int .u64 0, .int .u64 0, .int .u64 0, .int .u64 0], .bool true]) ∧ Below w.heap.size w w' := by
  have := read_head hr (by simp [zeros])
  rw [head_zero 0 (by decide), head_zero 1 (by decide), head_zero 2 (by decide), head_zero 3 (by decide), whole_zero] at this
  exact this
theorem cell_read_zero {w : World} {v : Value} (hr : RowB w v (zeros 64)) : Calls Try.prog 79 #[v] w fun e w' => ∃ a l c, e = .returned (.tuple #[.agg #[.int .u64 0, .int .u64 0, .int .u64 0, .int .u64 0, .slice a l c], .bool false]) ∧ Below w.heap.size w w' := by
  refine (read_cell hr (by simp [zeros])).mono ?_
  rintro e w' ⟨dv, rfl, hd, hb⟩
  obtain ⟨a, l, c, rfl, _⟩ := hd whole_zero
  refine ⟨a, l, c, ?_, hb⟩
  rw [ok_zero, show cellV (zeros 64) 1 8 = 0 by decide, show cellV (zeros 64) 9 8 = 0 by decide, show cellV (zeros 64) 17 4 = 0 by decide, show cellV (zeros 64) 21 2 = 0 by decide]
  rfl

def z4 : Array Value := #[.int .u64 0, .int .u64 0, .int .u64 0, .int .u64 0]
set_option maxRecDepth 100000 in
set_option maxHeartbeats 4000000 in
theorem newest_zero {w : World} {v : Value} {n : Nat} (hs : SecZ w v n) (hn : n ≤ 65536) :
    Calls Try.prog 48 #[v] w fun e w' => e = .returned (.agg #[.int .u64 0, .int .u64 0, .int .u64 0, .int .u64 0]) ∧ Below w.heap.size w w' := by
  obtain ⟨b, off, cap, rfl, h1, h2, -⟩ := id hs
  have HS := Lib.hid hs
  clear hs
  obtain ⟨X, hX, hX0, hX1, hbX, hXs⟩ : ∃ X, X = (w.alloc (.cells #[.int .u64 0, .int .u64 0, .int .u64 0, .int .u64 0] 88)).alloc (.cells #[.int .u64 0, .int .u64 0, .int .u64 0, .int .u64 0] 88) ∧
      X.heap[w.heap.size]? = some (.cells #[.int .u64 0, .int .u64 0, .int .u64 0, .int .u64 0] 88 (0, 0)) ∧ X.heap[w.heap.size + 1]? = some (.cells #[.int .u64 0, .int .u64 0, .int .u64 0, .int .u64 0] 88 (0, 0)) ∧ Below w.heap.size w X ∧ X.heap.size = w.heap.size + 2 := by
    have e2 := heap_alloc_new (w.alloc (.cells #[.int .u64 0, .int .u64 0, .int .u64 0, .int .u64 0] 88)) (.cells #[.int .u64 0, .int .u64 0, .int .u64 0, .int .u64 0] 88)
    rw [World.size_alloc] at e2
    exact ⟨_, rfl, (Below.heap_alloc _ _ _ (by simp)).trans (heap_alloc_new w _), e2, ((Below.refl _ _).alloc (Nat.le_refl _) _).alloc (by simp) _, by simp⟩
  have H0 := Lib.hid hX0
  have H1 := Lib.hid hX1
  have HB := Lib.hid hbX
  have HXS := Lib.hid hXs
  clear hX0 hX1 hbX hXs
  go_enter Try.func48, Try.ntmps48
  go_upto_region 2 with (fail)
  rw [← hX]
  clear hX
  have hq := Lib.hid (show w.heap.size ≠ w.heap.size + 1 by omega)
  have HQS : Hid (w.heap.size + 1 < X.heap.size) := Lib.hid (by have := HXS.out; omega)
  generalize w.heap.size + 1 = q at *
  go_wp2_with fail
  go_loopw [10] (fun i wr => ∃ k : Nat, k ≤ n ∧ i = .int .i64 (k : Nat) ∧ Below X.heap.size X wr) (fun i _ => n - (RowKit.intOf i).toNat)
  case atStart => exact ⟨0, Nat.zero_le _, rfl, Below.refl _ _⟩
  case round =>
    obtain ⟨k, hk, rfl, hb⟩ := hrel
    have HBW := Lib.hid hb
    have HWB := Lib.hid (HB.out.trans (hb.mono HB.out.size))
    have hq1 := (hb.block q HQS.out).trans H1.out
    by_cases hkn : k < n
    · have hkz : (k : Int) < (n : Int) := by omega
      obtain ⟨b', off', cap', e, -, -, hcell⟩ := HS.out.below HWB.out
      obtain ⟨⟨rfl, rfl⟩, rfl⟩ : (b = b' ∧ off = off') ∧ cap = cap' := by simpa using e
      obtain ⟨sa, sc, hc, hrow⟩ := hcell k hkn
      have HRH := Lib.hid (head_read_zero hrow)
      clear hb hcell e
      go_wp2_with (first
        | (go_at_call 76; refine HRH.out.mono ?_; rintro e w3 ⟨rfl, hb3⟩
           have hq3 := (hb3.block q (Nat.lt_of_lt_of_le HQS.out HBW.out.size)).trans hq1
           have y0 := cell_of_row (w3.alloc (.cells #[.int .u64 0, .int .u64 0, .int .u64 0, .int .u64 0] 88)) q 0 _ _ _ ((Below.heap_alloc w3 _ q (lt_of_block hq3)).trans hq3)
           simp only [List.getElem?_toArray, List.getElem?_cons_zero] at y0
           have HB3 := Lib.hid (HBW.out.trans (hb3.mono HBW.out.size))
           have hqn : ¬ (q = w3.heap.size) := fun e => by have := lt_of_block hq3; omega
           clear hb3 hq3))
      go_roundw
      case rel => exact ⟨k + 1, by omega, by go_num, HB3.out.alloc HB3.out.size _⟩
      case measure => simp [intOf]; omega
    · obtain rfl : k = n := by omega
      have hp1 := (hb.block w.heap.size (by have := HXS.out; omega)).trans H0.out
      have x0 := cell_of_row wr q 0 _ _ _ hq1
      have x1 := cell_of_row wr q 1 _ _ _ hq1
      have x2 := cell_of_row wr q 2 _ _ _ hq1
      have x3 := cell_of_row wr q 3 _ _ _ hq1
      have y0 := cell_of_row wr w.heap.size 0 _ _ _ hp1
      have y1 := cell_of_row wr w.heap.size 1 _ _ _ hp1
      have y2 := cell_of_row wr w.heap.size 2 _ _ _ hp1
      have y3 := cell_of_row wr w.heap.size 3 _ _ _ hp1
      simp only [List.getElem?_toArray, List.getElem?_cons_zero, List.getElem?_cons_succ] at x0 x1 x2 x3 y0 y1 y2 y3
      have f0 := frozen_of_row wr w.heap.size 0 _ _ hp1
      have f1 := frozen_of_row wr w.heap.size 1 _ _ hp1
      have f2 := frozen_of_row wr w.heap.size 2 _ _ hp1
      have f3 := frozen_of_row wr w.heap.size 3 _ _ hp1
      have HE := Lib.hid (set4_block hp1 (.int .u64 0) (.int .u64 0) (.int .u64 0) (.int .u64 0))
      have HBE := Lib.hid (HWB.out.trans ((set4_beside wr w.heap.size (.int .u64 0) (.int .u64 0) (.int .u64 0) (.int .u64 0)).below (fun k hk => by rw [hk]; exact Nat.le_refl _) HWB.out.size))
      have hqq := hq.out
      clear hp1 hq1 hb
      go_wp2_with fail
      refine bodyPost_ret (v := .agg #[.int .u64 0, .int .u64 0, .int .u64 0, .int .u64 0]) (results_cell_row rfl _ _ w.heap.size 88 _ (0, 0) _ rfl HE.out Try.underlying88 rfl (by kernel_rfl)) rfl ⟨rfl, HBE.out⟩

set_option maxRecDepth 100000 in
set_option maxHeartbeats 4000000 in
theorem greatest_zero {w : World} {v : Value} {n : Nat} (hs : SecZ w v n) (hn : n ≤ 65536) :
    Calls Try.prog 50 #[v] w fun e w' => e = .returned (.int .u64 0) ∧ Below w.heap.size w w' := by
  obtain ⟨b, off, cap, rfl, h1, h2, -⟩ := id hs
  have HS := Lib.hid hs
  clear hs
  go_enter Try.func50, Try.ntmps50
  go_wp2_with fail
  go_loopw [10, 3] (fun i top wr => ∃ k : Nat, k ≤ n ∧ i = .int .i64 (k : Nat) ∧ top = .int .u64 0 ∧ Below w.heap.size w wr) (fun i _ _ => n - (RowKit.intOf i).toNat)
  case atStart => exact ⟨0, Nat.zero_le _, rfl, rfl, Below.refl _ _⟩
  case round =>
    obtain ⟨k, hk, rfl, rfl, hb⟩ := hrel
    have HBW := Lib.hid hb
    by_cases hkn : k < n
    · have hkz : (k : Int) < (n : Int) := by omega
      obtain ⟨b', off', cap', e, -, -, hcell⟩ := HS.out.below hb
      obtain ⟨⟨rfl, rfl⟩, rfl⟩ : (b = b' ∧ off = off') ∧ cap = cap' := by simpa using e
      obtain ⟨sa, sc, hc, hrow⟩ := hcell k hkn
      have HRC := Lib.hid (cell_read_zero hrow)
      clear hb hcell e
      go_wp2_with (first
        | (go_at_call 79; refine HRC.out.mono ?_; rintro e w3 ⟨ra, rl, rc, rfl, hb3⟩
           have HB3 := Lib.hid (HBW.out.trans (hb3.mono HBW.out.size))
           clear hb3))
      go_roundw
      case rel => exact ⟨k + 1, by omega, by go_num, rfl, HB3.out.alloc HB3.out.size _⟩
      case measure => simp [intOf]; omega
    · obtain rfl : k = n := by omega
      go_wp2_with fail
      go_ret
      exact ⟨rfl, HBW.out⟩

theorem results3 {fn : Func} {p u x : Tmp} {ty : TypeId} (h : fn.results = #[.cell p ty, .tmp u, .tmp x]) (tmps : Array Value) (P : Program) (w : World) :
    (results fn tmps).run P w =
      ((asAddr (tmps.getD p undef)).run P w).andThen fun a w₁ => ((loadVar ty a).run P w₁).andThen fun v w₂ => .ok (.tuple #[v, tmps.getD u undef, tmps.getD x undef]) w₂ := by
  simp only [results, h]
  simp [Sem.run_bind, Result.andThen]
set_option maxRecDepth 100000 in
theorem rec_ret (tmps : Array Value) (w : World) (b : Nat) (cs : Array Value) (v u : Value) (hsz : cs.size = 4) (hp : tmps.getD 4 undef = .pointer (some ⟨b, 0, none⟩)) (hv : tmps.getD 5 undef = v) (hu : tmps.getD 6 undef = u) (hg : w.heap[b]? = some (.cells cs 98 (0, 0))) :
    (results Try.f77 tmps).run Try.prog w = .ok (.tuple #[.agg cs, v, u]) w := by
  rw [results3 (fn := Try.f77) (p := 4) (u := 5) (x := 6) (ty := 98) rfl, hp]
  have hl := run_loadVar_row (P := Try.prog) w b 98 98 cs (0, 0) _ hg Try.underlying98 rfl (by rw [hsz]; kernel_rfl)
  simp only [asAddr]
  show Result.andThen ((loadVar 98 ⟨b, 0, none⟩).run Try.prog w) _ = _
  rw [hl]
  show Result.ok _ _ = _
  rw [hv, hu]

set_option maxRecDepth 100000 in
set_option maxHeartbeats 4000000 in
theorem record_zero {w : World} {pl : Nat} {d ev : Value} {s : LgS} (h : LgV w pl d ev s false) (hp : s.place = 0) (hu : s.used = 0) (hr0 : 0 < s.ring) {v : Value} {n : Nat} (hs : SecZ w v n) (hn : 0 < n) :
    Calls Try.prog 77 #[.pointer (some ⟨pl, 0, none⟩), v] w fun e w' => e = .returned (.tuple #[.agg #[.int .i64 0, .int .u64 0, .int .i64 0, .slice none 0 0], .int .u64 0, .bool false]) ∧ Below w.heap.size w w' := by
  obtain ⟨b, off, cap, rfl, h1, h2, -⟩ := id hs
  have HS := Lib.hid hs
  have HLG := Lib.hid h
  obtain ⟨X, hX, hX0, hX1, hbX, hXs⟩ : ∃ X, X = ((w.alloc (.cells #[.int .i64 0, .int .u64 0, .int .i64 0, .slice none 0 0] 98)).alloc (.cells #[.int .i64 0, .int .u64 (s.last : Nat), .int .i64 1, .slice none 0 0] 98)).drew ∧
      X.heap[w.heap.size]? = some (.cells #[.int .i64 0, .int .u64 0, .int .i64 0, .slice none 0 0] 98 (0, 0)) ∧ X.heap[w.heap.size + 1]? = some (.cells #[.int .i64 0, .int .u64 (s.last : Nat), .int .i64 1, .slice none 0 0] 98 (0, 0)) ∧ Below w.heap.size w X ∧ X.heap.size = w.heap.size + 2 := by
    have e2 := heap_alloc_new (w.alloc (.cells #[.int .i64 0, .int .u64 0, .int .i64 0, .slice none 0 0] 98)) (.cells #[.int .i64 0, .int .u64 (s.last : Nat), .int .i64 1, .slice none 0 0] 98)
    rw [World.size_alloc] at e2
    exact ⟨_, rfl, (Below.heap_alloc _ _ _ (by simp)).trans (heap_alloc_new w _), e2, (((Below.refl _ _).alloc (Nat.le_refl _) _).alloc (by simp) _).drew, by show ((w.alloc _).alloc _).heap.size = _; simp⟩
  have hA : Below w.heap.size w (w.alloc (.cells #[.int .i64 0, .int .u64 0, .int .i64 0, .slice none 0 0] 98)) := (Below.refl _ _).alloc (Nat.le_refl _) _
  obtain ⟨-, -, -, -, -, -, -, a7, -, a9, -, -⟩ := (h.qb (Below.qb hA) (Nat.le_refl _)).cells
  have hA2 : Below w.heap.size w (((w.alloc (.cells #[.int .i64 0, .int .u64 0, .int .i64 0, .slice none 0 0] 98)).alloc (.cells #[.int .i64 0, .int .u64 0, .int .i64 0, .slice none 0 0] 98))).drew := (((Below.refl _ _).alloc (Nat.le_refl _) _).alloc (by simp) _).drew
  obtain ⟨-, -, -, -, -, -, -, b7, -, b9, -, -⟩ := (h.qb (Below.qb hA2) (Nat.le_refl _)).cells
  obtain ⟨-, c1, -, -, -, -, -, c7, c8, c9, -, -⟩ := h.cells
  rw [hp] at a7 b7 c7
  rw [hu] at c8
  have H0 := Lib.hid hX0
  have H1 := Lib.hid hX1
  have HB := Lib.hid hbX
  have HXS := Lib.hid hXs
  clear hX0 hX1 hbX hXs hA hA2 h hs
  go_enter Try.func77, Try.ntmps77
  go_upto_region 2 with (first | go_region)
  rw [← hX]
  clear hX a7 a9 b7 b9 c1 c7 c8 c9
  have hlx := HLG.out.qb (Below.qb HB.out) (Nat.le_refl _)
  obtain ⟨-, c1, -, -, -, -, -, c7, c8, c9, -, -⟩ := hlx.cells
  rw [hp] at c7
  rw [hu] at c8
  have x2 := cell_of_row X (w.heap.size + 1) 2 _ _ _ H1.out
  simp only [List.getElem?_toArray, List.getElem?_cons_zero, List.getElem?_cons_succ] at x2
  have HQW : Hid (w.heap.size ≠ w.heap.size + 1 ∧ w.heap.size + 1 < X.heap.size) := Lib.hid (by have := HXS.out; omega)
  generalize w.heap.size + 1 = q at *
  have g0 : ¬ (s.ring : Int) < 1 := by omega
  have g1 : ((s.ring : Int) == 0) = false := by simp; omega
  have g2 : ¬ s.ring = 0 := by omega
  have HSX := Lib.hid (HS.out.below HB.out)
  have HBD : Hid (Below w.heap.size w X.drew.drew) := Lib.hid HB.out.drew.drew
  clear hlx
  go_wp2_with fail
  go_loopw [10] (fun i wr => i = .int .i64 0 ∧ wr = X) (fun i _ => 1 - (RowKit.intOf i).toNat)
  case atStart => exact ⟨rfl, rfl⟩
  case round =>
    obtain ⟨rfl, hwr⟩ := hrel
    have hwr := hwr.symm
    subst hwr
    obtain ⟨b', off', cap', e, -, -, hcell⟩ := HSX.out
    obtain ⟨⟨rfl, rfl⟩, rfl⟩ : (b = b' ∧ off = off') ∧ cap = cap' := by simpa using e
    obtain ⟨sa, sc, hc, -⟩ := hcell 0 hn
    rw [Nat.add_zero] at hc
    have HRC : Hid (∀ W2, Below X.heap.size X W2 → Calls Try.prog 79 #[.slice sa 64 sc] W2 fun e w' => ∃ a l c, e = .returned (.tuple #[.agg #[.int .u64 0, .int .u64 0, .int .u64 0, .int .u64 0, .slice a l c], .bool false]) ∧ Below W2.heap.size W2 w') := Lib.hid fun W2 h2 => by
      obtain ⟨b', off', cap', e, -, -, hcell⟩ := HSX.out.below h2
      obtain ⟨⟨rfl, rfl⟩, rfl⟩ : (b = b' ∧ off = off') ∧ cap = cap' := by simpa using e
      obtain ⟨sa', sc', hc', hrow⟩ := hcell 0 hn
      rw [Nat.add_zero, h2.cell (World.block_lt_of_cell? X _ hc), hc] at hc'
      obtain ⟨rfl, rfl⟩ : sa = sa' ∧ sc = sc' := by simpa using hc'
      exact cell_read_zero hrow
    have hnz : (0 : Int) < (n : Int) := by omega
    clear hcell e
    go_upto_region 9 with (first | go_region)
    have hw0 : (IntKind.i64.wrap 0).tmod (s.ring : Int) = 0 := by rw [show IntKind.i64.wrap 0 = 0 by decide]; exact Int.zero_tmod _
    have HD1 := Lib.hid ((Below.refl X.heap.size X).drew.drew)
    have hZ : Below X.heap.size X (X.alloc (.cells #[.int .u64 0, .int .u64 0, .int .u64 0, .int .u64 0, .slice none 0 0] 128)) := (Below.refl _ _).alloc (Nat.le_refl _) _
    have HD2 := Lib.hid hZ.drew.drew
    have hcz : (X.alloc (.cells #[.int .u64 0, .int .u64 0, .int .u64 0, .int .u64 0, .slice none 0 0] 128)).cell? ⟨b, off, none⟩ = some (.slice sa 64 sc) := by rw [hZ.cell (World.block_lt_of_cell? X _ hc)]; exact hc
    have hc1z : (X.alloc (.cells #[.int .u64 0, .int .u64 0, .int .u64 0, .int .u64 0, .slice none 0 0] 128)).cell? ⟨pl, 1, none⟩ = some (.int .i64 (s.ring : Nat)) := by rw [hZ.cell (World.block_lt_of_cell? X _ c1)]; exact c1
    have hc7z : (X.alloc (.cells #[.int .u64 0, .int .u64 0, .int .u64 0, .int .u64 0, .slice none 0 0] 128)).cell? ⟨pl, 7, none⟩ = some (.int .i64 ((0 : Nat) : Int)) := by rw [hZ.cell (World.block_lt_of_cell? X _ c7)]; exact c7
    clear hZ
    go_cut [11, 12] (fun u ok wx => ∃ q2 a l c, u = .pointer (some ⟨q2, 0, none⟩) ∧ ok = .bool false ∧ wx.heap[q2]? = some (.cells #[.int .u64 0, .int .u64 0, .int .u64 0, .int .u64 0, .slice a l c] 128 (0, 0)) ∧ Below X.heap.size X wx)
    case first =>
      go_region_law (first
        | (go_simp; go_at_call 79; refine (HRC.out _ (by with_reducible exact HD1.out)).mono ?_; rintro e w3 ⟨ra, rl, rc, rfl, hb3⟩
           have HB3 := Lib.hid (HD1.out.trans (hb3.mono HD1.out.size))
           clear hb3)
        | (go_simp; go_at_call 79; refine (HRC.out _ (by with_reducible exact HD2.out)).mono ?_; rintro e w3 ⟨ra, rl, rc, rfl, hb3⟩
           have HB3 := Lib.hid (HD2.out.trans (hb3.mono HD2.out.size))
           have HX3 : Hid (w3.heap[X.heap.size]? = some (.cells #[.int .u64 0, .int .u64 0, .int .u64 0, .int .u64 0, .slice none 0 0] 128 (0, 0))) := Lib.hid ((hb3.block X.heap.size (by show _ < (X.heap.push _).size; simp)).trans (heap_alloc_new X _))
           have u0 := cell_of_row w3 X.heap.size 0 _ _ _ HX3.out
           have u1 := cell_of_row w3 X.heap.size 1 _ _ _ HX3.out
           have u2 := cell_of_row w3 X.heap.size 2 _ _ _ HX3.out
           have u3 := cell_of_row w3 X.heap.size 3 _ _ _ HX3.out
           have u4 := cell_of_row w3 X.heap.size 4 _ _ _ HX3.out
           simp only [List.getElem?_toArray, List.getElem?_cons_zero, List.getElem?_cons_succ] at u0 u1 u2 u3 u4
           have v0 := frozen_of_row w3 X.heap.size 0 _ _ HX3.out
           have v1 := frozen_of_row w3 X.heap.size 1 _ _ HX3.out
           have v2 := frozen_of_row w3 X.heap.size 2 _ _ HX3.out
           have v3 := frozen_of_row w3 X.heap.size 3 _ _ HX3.out
           have v4 := frozen_of_row w3 X.heap.size 4 _ _ HX3.out
           clear hb3))
      all_goals
        go_wp2_with fail
        go_meet
        first
          | (have e5 := set5_block HX3.out (.int .u64 0) (.int .u64 0) (.int .u64 0) (.int .u64 0) (.slice ra rl rc)
             have b5 := set5_beside w3 X.heap.size (.int .u64 0) (.int .u64 0) (.int .u64 0) (.int .u64 0) (.slice ra rl rc)
             have l5 := HB3.out.trans (b5.below (fun k hk => by rw [hk]; exact Nat.le_refl _) HB3.out.size)
             exact ⟨X.heap.size, ra, rl, rc, rfl, rfl, e5, l5⟩)
          | (have e5 := heap_alloc_new w3 (.cells #[.int .u64 0, .int .u64 0, .int .u64 0, .int .u64 0, .slice ra rl rc] 128)
             have l5 := HB3.out.alloc HB3.out.size (.cells #[.int .u64 0, .int .u64 0, .int .u64 0, .int .u64 0, .slice ra rl rc] 128)
             exact ⟨w3.heap.size, ra, rl, rc, rfl, rfl, e5, l5⟩)
    case rest =>
      obtain ⟨q2, ra, rl, rc, rfl, rfl, -, hbl2⟩ := hcut
      have hp0 := (hbl2.block w.heap.size (by have := HXS.out; omega)).trans H0.out
      have y0 := cell_of_row wc w.heap.size 0 _ _ _ hp0
      have y1 := cell_of_row wc w.heap.size 1 _ _ _ hp0
      have y2 := cell_of_row wc w.heap.size 2 _ _ _ hp0
      have y3 := cell_of_row wc w.heap.size 3 _ _ _ hp0
      simp only [List.getElem?_toArray, List.getElem?_cons_zero, List.getElem?_cons_succ] at y0 y1 y2 y3
      have f0 := frozen_of_row wc w.heap.size 0 _ _ hp0
      have f1 := frozen_of_row wc w.heap.size 1 _ _ hp0
      have f2 := frozen_of_row wc w.heap.size 2 _ _ hp0
      have f3 := frozen_of_row wc w.heap.size 3 _ _ hp0
      have hbb := HB.out.trans (hbl2.mono HB.out.size)
      have HE := Lib.hid (set4_block hp0 (.int .i64 0) (.int .u64 0) (.int .i64 0) (.slice none 0 0))
      have HBE := Lib.hid (hbb.trans ((set4_beside wc w.heap.size (.int .i64 0) (.int .u64 0) (.int .i64 0) (.slice none 0 0)).below (fun k hk => by rw [hk]; exact Nat.le_refl _) hbb.size))
      clear hp0 hbb hbl2 c1 c7 c8 c9 x2 hc hcz hc1z hc7z
      go_wp2_with fail
      refine bodyPost_ret (rec_ret _ _ w.heap.size _ _ _ rfl rfl rfl rfl HE.out) rfl ⟨rfl, HBE.out⟩
end
end Go.Proofs.Ytmnbkhgogogeiaa
