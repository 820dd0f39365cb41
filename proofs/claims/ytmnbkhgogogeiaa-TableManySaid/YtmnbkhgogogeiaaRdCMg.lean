/-
  A sector is read as a cell.
-/
import Derived.Test.YtmnbkhgogogeiaaMg16
namespace Go.Proofs.Ytmnbkhgogogeiaa
set_option linter.unusedVariables false
open Go.RowKit

def numN (l : List Nat) (lo n : Nat) : Nat := numAt l lo (lo + n)
def cellV (l : List Nat) (lo n : Nat) : Nat := if wholeL l then numN l lo n else 0
def okCell (l : List Nat) : Bool := wholeL l && decide (0 < numN l 1 8)
set_option maxRecDepth 100000 in
theorem cell_ret (tmps : Array Value) (w : World) (b : Nat) (cs : Array Value) (v : Value) (hsz : cs.size = 5) (hp : tmps.getD 2 undef = .pointer (some ⟨b, 0, none⟩)) (hv : tmps.getD 3 undef = v) (hg : w.heap[b]? = some (.cells cs 128 (0, 0))) :
    (results Try.f79 tmps).run Try.prog w = .ok (.tuple #[.agg cs, v]) w := by
  rw [results_cell_tmp (fn := Try.f79) (p := 2) (u := 3) (ty := 128) rfl, hp]
  have hl := run_loadVar_row (P := Try.prog) w b 128 128 cs (0, 0) _ hg Try.underlying128 rfl (by rw [hsz]; kernel_rfl)
  simp only [asAddr]
  show Result.andThen ((loadVar 128 ⟨b, 0, none⟩).run Try.prog w) _ = _
  rw [hl]
  show Result.ok _ _ = _
  rw [hv]
theorem set5_block {w : World} {q : Nat} {a b c d e : Value} {t : TypeId} (h : w.heap[q]? = some (.cells #[a, b, c, d, e] t (0, 0))) (x y z u v : Value) :
    (((((w.setCell ⟨q, 0, none⟩ x).setCell ⟨q, 1, none⟩ y).setCell ⟨q, 2, none⟩ z).setCell ⟨q, 3, none⟩ u).setCell ⟨q, 4, none⟩ v).heap[q]? = some (.cells #[x, y, z, u, v] t (0, 0)) := by
  have h1 := heap_setCell_same w q 0 _ t x h
  have h2 := heap_setCell_same _ q 1 _ t y h1
  have h3 := heap_setCell_same _ q 2 _ t z h2
  have h4 := heap_setCell_same _ q 3 _ t u h3
  exact heap_setCell_same _ q 4 _ t v h4
theorem set5_beside (w : World) (q : Nat) (x y z u v : Value) : Beside (fun k => k = q) w (((((w.setCell ⟨q, 0, none⟩ x).setCell ⟨q, 1, none⟩ y).setCell ⟨q, 2, none⟩ z).setCell ⟨q, 3, none⟩ u).setCell ⟨q, 4, none⟩ v) :=
  (set4_beside w q x y z u).setCell (p := ⟨q, 4, none⟩) (.inl rfl) v

set_option maxRecDepth 100000 in
set_option maxHeartbeats 4000000 in
theorem read_cell {w : World} {v : Value} {l : List Nat} (hr : RowB w v l) (h64 : l.length = 64) :
    Calls Try.prog 79 #[v] w fun e w' => ∃ dv, e = .returned (.tuple #[.agg #[.int .u64 (cellV l 1 8 : Nat), .int .u64 (cellV l 9 8 : Nat), .int .u64 (cellV l 17 4 : Nat), .int .u64 (cellV l 21 2 : Nat), dv], .bool (okCell l)]) ∧
      (wholeL l = true → RowB w dv ((l.take 63).drop 23)) ∧ Below w.heap.size w w' := by
  rcases hr.shape with ⟨rfl, _⟩ | ⟨b, off, cap, rfl, _, hc, hm, _⟩
  · simp at h64
  rw [h64] at hr hc ⊢
  have HR := Lib.hid hr
  obtain ⟨X, hX, hXb, hbX⟩ : ∃ X, X = w.alloc (.cells #[.int .u64 0, .int .u64 0, .int .u64 0, .int .u64 0, .slice none 0 0] 128) ∧ X.heap[w.heap.size]? = some (.cells #[.int .u64 0, .int .u64 0, .int .u64 0, .int .u64 0, .slice none 0 0] 128 (0, 0)) ∧ Below w.heap.size w X :=
    ⟨_, rfl, heap_alloc_new w _, (Below.refl _ _).alloc (Nat.le_refl _) _⟩
  have HWH := Lib.hid (whole_any (hr.below hbX) h64)
  have HXS : Hid (X.heap.size = w.heap.size + 1) := Lib.hid (by rw [hX]; simp)
  have HBX := Lib.hid hbX
  have HXB := Lib.hid hXb
  clear hr hbX hXb
  go_enter Try.func79, Try.ntmps79
  go_upto_region 1 with (fail)
  rw [← hX]
  clear hX
  cases hw : wholeL l
  · rw [hw] at HWH
    have HW := Lib.hid hw
    clear hw
    go_wp2_with (go_at_call 99; refine HWH.out.mono ?_; rintro e w2 ⟨rfl, hb2⟩
                 have hx2 := (hb2.block w.heap.size (by have := HXS.out; omega)).trans HXB.out
                 have z0 := cell_of_row w2 w.heap.size 0 _ _ _ hx2
                 have z1 := cell_of_row w2 w.heap.size 1 _ _ _ hx2
                 have z2 := cell_of_row w2 w.heap.size 2 _ _ _ hx2
                 have z3 := cell_of_row w2 w.heap.size 3 _ _ _ hx2
                 have z4 := cell_of_row w2 w.heap.size 4 _ _ _ hx2
                 simp only [List.getElem?_toArray, List.getElem?_cons_zero, List.getElem?_cons_succ] at z0 z1 z2 z3 z4
                 have y0 := frozen_of_row w2 w.heap.size 0 _ _ hx2
                 have y1 := frozen_of_row w2 w.heap.size 1 _ _ hx2
                 have y2 := frozen_of_row w2 w.heap.size 2 _ _ hx2
                 have y3 := frozen_of_row w2 w.heap.size 3 _ _ hx2
                 have y4 := frozen_of_row w2 w.heap.size 4 _ _ hx2
                 have HX2 := Lib.hid hx2
                 have HB2 := Lib.hid (HBX.out.trans (hb2.mono HBX.out.size))
                 clear hb2 hx2)
    have e4 := set5_block HX2.out (.int .u64 0) (.int .u64 0) (.int .u64 0) (.int .u64 0) (.slice none 0 0)
    have b4 := set5_beside w2 w.heap.size (.int .u64 0) (.int .u64 0) (.int .u64 0) (.int .u64 0) (.slice none 0 0)
    refine bodyPost_ret (cell_ret _ _ w.heap.size _ _ rfl rfl rfl e4) rfl ⟨.slice none 0 0, ?_, ?_, HB2.out.trans (b4.below (fun k hk => by rw [hk]; exact Nat.le_refl _) HB2.out.size)⟩
    · simp [cellV, okCell, HW.out]
    · intro h; rw [HW.out] at h; cases h
  · rw [hw] at HWH
    have HW := Lib.hid hw
    clear hw
    go_wp2_with (go_at_call 99; refine HWH.out.mono ?_; rintro e w2 ⟨rfl, hb2⟩
                 have HX2 := Lib.hid ((hb2.block w.heap.size (by have := HXS.out; omega)).trans HXB.out)
                 have HB2 := Lib.hid (HBX.out.trans (hb2.mono HBX.out.size))
                 have HS2 : Hid (w.heap.size < w2.heap.size) := Lib.hid (by have h1 := HXS.out; have h2 := hb2.size; omega)
                 clear hb2)
    have HG0 : Hid (∀ lo n W2, Below w.heap.size w W2 → n ≤ 8 → lo + n ≤ 64 → Calls Try.prog 100 #[.slice (some ⟨b, off + lo, none⟩) n (cap - lo)] W2 fun e w' => e = .returned (.int .u64 (numN l lo n : Nat)) ∧ W2 = w') := Lib.hid fun lo n W2 h2 h3 h4 => by
      have := getp_any (HR.out.below h2) h64 lo (lo + n) (by omega) (by omega) h4
      rwa [Nat.add_sub_cancel_left] at this
    have HA := Lib.hid (HB2.out.drew)
    have HBB := Lib.hid ((HB2.out.alloc HB2.out.size (.cells #[.int .u64 0, .int .u64 0, .int .u64 0, .int .u64 0, .slice none 0 0] 128)).drew)
    have c9 : ¬ cap = 1 := by omega
    have c10 : ¬ cap = 9 := by omega
    have c11 : ¬ cap = 17 := by omega
    have c12 : ¬ cap = 21 := by omega
    have c13 : ¬ cap = 23 := by omega
    have cz9 : (9 : Int) ≤ (cap : Int) := by omega
    have cz17 : (17 : Int) ≤ (cap : Int) := by omega
    have cz21 : (21 : Int) ≤ (cap : Int) := by omega
    have cz23 : (23 : Int) ≤ (cap : Int) := by omega
    have cz63 : (63 : Int) ≤ (cap : Int) := by omega
    go_cut [4] (fun u wx => ∃ q, u = .pointer (some ⟨q, 0, none⟩) ∧ wx.heap[q]? = some (.cells #[.int .u64 (numN l 1 8 : Nat), .int .u64 (numN l 9 8 : Nat), .int .u64 (numN l 17 4 : Nat), .int .u64 (numN l 21 2 : Nat), .slice (some ⟨b, off + 23, none⟩) 40 (cap - 23)] 128 (0, 0)) ∧ Below w2.heap.size w2 wx ∧ w2.heap.size ≤ q)
    case first =>
      go_region_law (first
        | (go_simp; go_at_call 100; refine (HG0.out _ _ _ (by first | with_reducible exact HA.out | with_reducible exact HBB.out) (by decide) (by decide)).mono ?_; rintro e w' ⟨rfl, rfl⟩))
      all_goals
        go_wp2_with fail
        go_meet
        exact ⟨w2.heap.size, rfl, heap_alloc_new w2 _, ((Below.refl _ _).alloc (Nat.le_refl _) _).drew, Nat.le_refl _⟩
    case rest =>
      obtain ⟨q, rfl, hbx, hbl, hqs⟩ := hcut
      have hx2 := (hbl.block w.heap.size HS2.out).trans HX2.out
      have HQN : Hid (¬ q = w.heap.size) := Lib.hid (by have := HS2.out; omega)
      have hqn := HQN.out
      have hqn2 : ¬ w.heap.size = q := fun e => hqn e.symm
      obtain ⟨n0, hn0⟩ : ∃ n0, numN l 1 8 = n0 := ⟨_, rfl⟩
      obtain ⟨n1, hn1⟩ : ∃ n1, numN l 9 8 = n1 := ⟨_, rfl⟩
      obtain ⟨n2, hn2⟩ : ∃ n2, numN l 17 4 = n2 := ⟨_, rfl⟩
      obtain ⟨n3, hn3⟩ : ∃ n3, numN l 21 2 = n3 := ⟨_, rfl⟩
      rw [hn0, hn1, hn2, hn3] at hbx
      have HN := Lib.hid (And.intro hn0 (And.intro hn1 (And.intro hn2 hn3)))
      have k0 := cell_of_row wc q 0 _ _ _ hbx
      have k1 := cell_of_row wc q 1 _ _ _ hbx
      have k2 := cell_of_row wc q 2 _ _ _ hbx
      have k3 := cell_of_row wc q 3 _ _ _ hbx
      have k4 := cell_of_row wc q 4 _ _ _ hbx
      simp only [List.getElem?_toArray, List.getElem?_cons_zero, List.getElem?_cons_succ] at k0 k1 k2 k3 k4
      have z0 := cell_of_row wc w.heap.size 0 _ _ _ hx2
      have z1 := cell_of_row wc w.heap.size 1 _ _ _ hx2
      have z2 := cell_of_row wc w.heap.size 2 _ _ _ hx2
      have z3 := cell_of_row wc w.heap.size 3 _ _ _ hx2
      have z4 := cell_of_row wc w.heap.size 4 _ _ _ hx2
      simp only [List.getElem?_toArray, List.getElem?_cons_zero, List.getElem?_cons_succ] at z0 z1 z2 z3 z4
      have y0 := frozen_of_row wc w.heap.size 0 _ _ hx2
      have y1 := frozen_of_row wc w.heap.size 1 _ _ hx2
      have y2 := frozen_of_row wc w.heap.size 2 _ _ hx2
      have y3 := frozen_of_row wc w.heap.size 3 _ _ hx2
      have y4 := frozen_of_row wc w.heap.size 4 _ _ hx2
      have HE := Lib.hid (set5_block hx2 (.int .u64 (n0 : Nat)) (.int .u64 (n1 : Nat)) (.int .u64 (n2 : Nat)) (.int .u64 (n3 : Nat)) (.slice (some ⟨b, off + 23, none⟩) 40 (cap - 23)))
      have hbb := HB2.out.trans (hbl.mono HB2.out.size)
      have HBE := Lib.hid (hbb.trans ((set5_beside wc w.heap.size (.int .u64 (n0 : Nat)) (.int .u64 (n1 : Nat)) (.int .u64 (n2 : Nat)) (.int .u64 (n3 : Nat)) (.slice (some ⟨b, off + 23, none⟩) 40 (cap - 23))).below (fun k hk => by rw [hk]; exact Nat.le_refl _) hbb.size))
      clear hbx hbl hx2 hn0 hn1 hn2 hn3 hqs hbb
      go_wp2_with go_region
      obtain ⟨m0, m1, m2, m3⟩ := HN.out
      refine bodyPost_ret (cell_ret _ _ w.heap.size _ _ rfl rfl rfl HE.out) rfl ⟨.slice (some ⟨b, off + 23, none⟩) 40 (cap - 23), ?_, fun _ => ?_, HBE.out.drew⟩
      · simp [cellV, okCell, HW.out, m0, m1, m2, m3]
      · have h := (rowB_part HR.out 23 63 (by decide) (by omega)).1
        have e : Option.map (fun x : Addr => x.add 23) (some ⟨b, off, none⟩) = some ⟨b, off + 23, none⟩ := by rw [Option.map_some, Addr.add_lit]
        rwa [e] at h
end Go.Proofs.Ytmnbkhgogogeiaa
