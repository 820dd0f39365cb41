/-
  Several texts of one proof, each in a section of its own: Recs, Rd.
-/
import Derived.Test.YtmnbkhgogogeiaaSyncRg
namespace Go.Proofs.Ytmnbkhgogogeiaa
section
set_option linter.unusedVariables false
open Go.RowKit

theorem Try.info23 : (Try.prog.info? 23).map (fun i => (i.zero, i.size, i.bytes)) = some (some (.slice none 0 0), 1, 24) := by kernel_rfl
/-- a row of rows of bytes -/
structure Rows2 (w : World) (B : Nat) (v : Value) (M : List (Value × List Nat)) : Prop where
  row : w.ownsRow B 23 1 v M.length (M.map (·.1))
  own : ∀ x ∈ M, OwnB w B x.1 x.2
theorem Rows2.nil (w : World) (B : Nat) : Rows2 w B (.slice none 0 0) [] := ⟨World.ownsRow_nil _ _ _ _, fun _ h => by cases h⟩
theorem Rows2.below {w w' : World} {B : Nat} {v : Value} {M : List (Value × List Nat)} (h : Rows2 w B v M) (hb : Below w.heap.size w w') : Rows2 w' B v M :=
  ⟨ownsRow_below h.row hb, fun x hx => ownsRow_below (h.own x hx) hb⟩
theorem Rows2.one (w : World) (B : Nat) (v : Value) (M : List (Value × List Nat)) (h : Rows2 w B v M) : ∀ u ∈ M.map (·.1), u.oneCell' = true := by
  intro u hu
  obtain ⟨x, hx, rfl⟩ := List.mem_map.1 hu
  obtain ⟨a, c, e⟩ := (h.own x hx).shape
  rw [e]; rfl
theorem Rows2.grown {w w' : World} {B n : Nat} {v o y : Value} {M : List (Value × List Nat)} {d : List Nat} (h : Rows2 w B v M) (hy : OwnB w B y d) (hg : w.grownBy w' v.ownBlock) (hn : n = M.length + 1) (ho : w'.ownsRow B 23 1 o n (M.map (·.1) ++ [y])) : Rows2 w' B o (M ++ [(y, d)]) := by
  subst hn
  have hb : Beside (fun k => v.ownBlock = some k) w w' := ⟨hg.os, hg.tape, hg.output, hg.size, fun k hk hn => hg.block k hk (fun e => hn e.symm)⟩
  have hk : ∀ (z : Value) (l : List Nat), OwnB w B z l → OwnB w' B z l := fun z l hz => ownsRow_beside hz hb (fun k hk hn => own_ne h.row hz (by decide) k hn k hk rfl)
  refine ⟨?_, fun x hx => ?_⟩
  · rw [List.map_append, List.length_append]
    exact ho
  · rcases List.mem_append.1 hx with hx | hx
    · exact hk _ _ (h.own x hx)
    · obtain rfl := List.mem_singleton.1 hx
      exact hk _ _ hy

set_option maxRecDepth 100000 in
set_option maxHeartbeats 4000000 in
theorem records_any {w : World} {pl B : Nat} {d ev : Value} {s : LgS} {L : List (Ent × Value)} (h : LgV w pl d ev s false) (he : EntR w B ev L) (hL : L.length ≤ 65536) (hd : ∀ x ∈ L, x.1.data.length ≤ 65536 ∧ ∀ n ∈ x.1.data, n < 256) :
    Calls Try.prog 27 #[.pointer (some ⟨pl, 0, none⟩)] w fun e w' => ∃ o M, e = .returned o ∧ Rows2 w' w.heap.size o M ∧ M.map (·.2) = L.map (·.1.data) ∧ Below w.heap.size w w' := by
  obtain ⟨-, -, -, -, -, -, c6, -, -, -, -, -⟩ := h.cells
  obtain ⟨ea, ec, rfl⟩ := own_shape he.row
  have HE := Lib.hid he
  have HD := Lib.hid hd
  have HL := Lib.hid hL
  obtain ⟨i0, hi, hz0, hz1, hz2⟩ := info_parts Try.info23
  have HI := Lib.hid hi
  clear he hd h hi
  obtain ⟨n, hn⟩ : ∃ n, L.length = n := ⟨_, rfl⟩
  rw [hn] at HE c6 hL
  have HN := Lib.hid hn
  clear hn
  go_enter Try.func27, Try.ntmps27
  go_wp2_with fail
  go_loopw [13, 3] (fun i o wr => ∃ k M, k ≤ n ∧ i = .int .i64 (k : Nat) ∧ Rows2 wr w.heap.size o M ∧ M.map (·.2) = (L.take k).map (·.1.data) ∧ Below w.heap.size w wr) (fun i _ _ => n - (RowKit.intOf i).toNat)
  case atStart => exact ⟨0, [], Nat.zero_le _, rfl, Rows2.nil _ _, rfl, Below.refl _ _⟩
  case round =>
    obtain ⟨k, M, hk, rfl, hm, hmm, hb⟩ := hrel
    obtain ⟨oa, oc, rfl⟩ := own_shape hm.row
    have HM := Lib.hid hm
    have HMM := Lib.hid hmm
    have HB := Lib.hid hb
    by_cases hkn : k < n
    · have hkz : (k : Int) < (n : Int) := by omega
      have hkl : k < L.length := by rw [HN.out]; exact hkn
      have hee := HE.out.qb (Below.qb hb) (Nat.le_refl _)
      obtain ⟨eg, rfl⟩ : ∃ eg, ea = some ⟨eg, 0, none⟩ := by
        rcases HE.out.row.2 with ⟨e, h0⟩ | ⟨g, cap, cur, e, _⟩
        · omega
        · exact ⟨g, by simpa using (Value.slice.inj e).1⟩
      obtain ⟨k0, k1, k2, k3⟩ := ent_cell hee k hkl
      have hoy := hee.own _ (List.getElem_mem hkl)
      obtain ⟨da, dc, hdv⟩ : ∃ da dc, (L[k]).2 = .slice da (L[k]).1.data.length dc := hoy.shape
      rw [hdv] at k3 hoy
      have hdd := HD.out _ (List.getElem_mem hkl)
      have HNX : Hid ((L.take (k + 1)).map (·.1.data) = (L.take k).map (·.1.data) ++ [(L[k]).1.data]) := Lib.hid (by rw [List.take_succ_eq_append_getElem hkl, List.map_append]; rfl)
      generalize (L[k]).1 = y at *
      obtain ⟨dl, hdl⟩ : ∃ dl, y.data.length = dl := ⟨_, rfl⟩
      rw [hdl] at k3 hoy
      obtain ⟨Z, hZ, hZb, hbZ⟩ : ∃ Z, Z = wr.alloc (.cells #[.int .i64 (y.place : Nat), .int .u64 (y.behind : Nat), .int .i64 (y.cells : Nat), .slice da dl dc] 98) ∧ Z.heap[wr.heap.size]? = some (.cells #[.int .i64 (y.place : Nat), .int .u64 (y.behind : Nat), .int .i64 (y.cells : Nat), .slice da dl dc] 98 (0, 0)) ∧ Below wr.heap.size wr Z :=
        ⟨_, rfl, heap_alloc_new wr _, (Below.refl _ _).alloc (Nat.le_refl _) _⟩
      have HBZ := Lib.hid (hb.trans (hbZ.mono hb.size))
      have HMZ := Lib.hid (hm.below hbZ)
      have HYZ := Lib.hid ((Below.qb hbZ).own (Nat.le_refl _) hoy)
      have HCL := Lib.hid (bclone_any (.slice da dl dc) y.data Z (HYZ.out.rowB hdd.2) (by omega))
      have HKN := Lib.hid hkn
      have z3 := cell_of_row Z wr.heap.size 3 _ _ _ hZb
      simp only [List.getElem?_toArray, List.getElem?_cons_zero, List.getElem?_cons_succ] at z3
      clear hm hmm hb hee hoy hdd hdl hZb hbZ hdv
      go_upto_region 7 with (fail)
      rw [← hZ]
      clear hZ k0 k1 k2 k3
      go_wp2_with (first
        | (go_at_call 37; refine HCL.out.mono ?_; rintro e w5 ⟨o2, rfl, ho, hb5⟩
           obtain ⟨pa, pc, rfl⟩ := ho.shape
           have h5 : Rows2 w5 w.heap.size (.slice oa M.length oc) M := HMZ.out.below hb5
           have HM5 : Hid (Rows2 (w5.alloc (.cells #[.slice pa y.data.length pc] 23)) w.heap.size (.slice oa M.length oc) M) := Lib.hid (h5.below ((Below.refl _ _).alloc (Nat.le_refl _) _))
           have HB5 : Hid (Below w.heap.size w (w5.alloc (.cells #[.slice pa y.data.length pc] 23))) := Lib.hid ((HBZ.out.trans (hb5.mono HBZ.out.size)).alloc (Nat.le_trans HBZ.out.size hb5.size) _)
           have HY5 : Hid (OwnB (w5.alloc (.cells #[.slice pa y.data.length pc] 23)) w.heap.size (.slice pa y.data.length pc) y.data) := Lib.hid ((owns_mono ho HBZ.out.size).alloc _)
           have HW5 : Hid ((w5.alloc (.cells #[.slice pa y.data.length pc] 23)).heap[w5.heap.size]? = some (.cells #[.slice pa y.data.length pc] 23 (0, 0))) := Lib.hid (heap_alloc_new w5 _)
           have HML : Hid (M.length = k) := Lib.hid (by have h1 := congrArg List.length HMM.out; simp at h1; have := HN.out; omega)
           clear ho hb5 h5)
        | (at_builtin; go_loud (refine wpList_append_own _ rfl (.tmp 17) (.tmp 21) 69 rfl w.heap.size 23 i0 _ 1 24 Try.underlying69 HI.out hz0 hz1 hz2 rfl (by decide) (.slice oa M.length oc) M.length (M.map (·.1)) rfl HM5.out.row ⟨w5.heap.size, 0, none⟩ 1 1 [.slice pa y.data.length pc] rfl rfl (World.news_of_block (cs := #[.slice pa y.data.length pc]) (t := 23) (fr := (0, 0)) HW5.out) (by simp [Value.oneCell']) (by have := HML.out; unfold maxLen; omega) (by have := HML.out; omega) HB5.out.size ?_)))
      intro o w6 ho hgr _
      have HM6 := Lib.hid (HM5.out.grown HY5.out hgr rfl ho)
      have HB6 : Hid (Below w.heap.size w w6) := Lib.hid (HB5.out.grown hgr HB5.out.size (fun j hj => (World.ownsRow.lt HM5.out.row j hj).1))
      obtain ⟨oa2, oc2, rfl⟩ := own_shape ho
      clear ho hgr
      go_wp2_with fail
      go_roundw
      case rel => exact ⟨k + 1, M ++ [(.slice pa y.data.length pc, y.data)], HKN.out, by go_num, HM6.out, by rw [HNX.out, List.map_append, HMM.out]; rfl, HB6.out⟩
      case measure => simp [intOf]; omega
    · obtain rfl : k = n := by omega
      go_wp2_with fail
      go_ret
      refine ⟨_, M, rfl, HM.out, ?_, HB.out⟩
      rw [HMM.out, List.take_of_length_le (by rw [HN.out]; exact Nat.le_refl _)]
end
section
set_option linter.unusedVariables false
open Go.RowKit

/-- the number at a place of a sector that was written whole -/
def numAt (l : List Nat) (lo hi : Nat) : Nat := val ((l.take hi).drop lo)
theorem numAt_lt (l : List Nat) (lo hi : Nat) (h : hi ≤ lo + 8) (h256 : ∀ n ∈ l, n < 256) : numAt l lo hi < 18446744073709551616 := by
  unfold numAt
  refine Nat.lt_of_lt_of_le (val_lt _ fun n hn => h256 n (List.mem_of_mem_take (List.mem_of_mem_drop hn))) ?_
  have e1 : ((l.take hi).drop lo).length ≤ 8 := by simp; omega
  exact Nat.pow_le_pow_right (by decide) e1
def headV (l : List Nat) (i : Nat) : Nat := if wholeL l then numAt l (1 + i * 8) (9 + i * 8) else 0
def row4 (a b c d : Nat) : Array Value := #[.int .u64 (a : Nat), .int .u64 (b : Nat), .int .u64 (c : Nat), .int .u64 (d : Nat)]

def hk (l : List Nat) (k i : Nat) : Nat := if i < k then numAt l (1 + i * 8) (9 + i * 8) else 0
def arrK (l : List Nat) (k : Nat) : Array Value := row4 (hk l k 0) (hk l k 1) (hk l k 2) (hk l k 3)
set_option maxRecDepth 100000 in
theorem head_ret (tmps : Array Value) (w : World) (b : Nat) (cs : Array Value) (v : Value) (hsz : cs.size = 4) (hp : tmps.getD 2 undef = .pointer (some ⟨b, 0, none⟩)) (hv : tmps.getD 3 undef = v) (hg : w.heap[b]? = some (.cells cs 88 (0, 0))) :
    (results Try.f76 tmps).run Try.prog w = .ok (.tuple #[.agg cs, v]) w := by
  rw [results_cell_tmp (fn := Try.f76) (p := 2) (u := 3) (ty := 88) rfl, hp]
  have hl := run_loadVar_row (P := Try.prog) w b 88 88 cs (0, 0) _ hg Try.underlying88 rfl (by rw [hsz]; kernel_rfl)
  simp only [asAddr]
  show Result.andThen ((loadVar 88 ⟨b, 0, none⟩).run Try.prog w) _ = _
  rw [hl]
  show Result.ok _ _ = _
  rw [hv]
theorem getp_any {w : World} {b off cap : Nat} {l : List Nat} (hr : RowB w (.slice (some ⟨b, off, none⟩) 64 cap) l) (h64 : l.length = 64) (lo hi : Nat) (h1 : lo ≤ hi) (h2 : hi ≤ lo + 8) (h3 : hi ≤ 64) :
    Calls Try.prog 100 #[.slice (some ⟨b, off + lo, none⟩) (hi - lo) (cap - lo)] w fun e w' => e = .returned (.int .u64 (numAt l lo hi : Nat)) ∧ w = w' := by
  have h := (rowB_part hr lo hi h1 (by omega)).1
  have e : Option.map (fun x : Addr => x.add lo) (some ⟨b, off, none⟩) = some ⟨b, off + lo, none⟩ := by rw [Option.map_some, Addr.add_lit]
  rw [e] at h
  exact get_any h (by simp; omega)

set_option maxRecDepth 100000 in
set_option maxHeartbeats 4000000 in
theorem read_head {w : World} {v : Value} {l : List Nat} (hr : RowB w v l) (h64 : l.length = 64) :
    Calls Try.prog 76 #[v] w fun e w' => e = .returned (.tuple #[.agg (row4 (headV l 0) (headV l 1) (headV l 2) (headV l 3)), .bool (wholeL l)]) ∧ Below w.heap.size w w' := by
  rcases hr.shape with ⟨rfl, _⟩ | ⟨b, off, cap, rfl, _, hc, hm, _⟩
  · simp at h64
  rw [h64] at hr hc ⊢
  have HR := Lib.hid hr
  have HZ : Hid (∀ t, (w.alloc (.cells #[.int .u64 0, .int .u64 0, .int .u64 0, .int .u64 0] t)).heap[w.heap.size]? = some (.cells #[.int .u64 0, .int .u64 0, .int .u64 0, .int .u64 0] t (0, 0))) := Lib.hid fun t => heap_alloc_new w _
  obtain ⟨X, hX, hXb, hbX⟩ : ∃ X, X = w.alloc (.cells #[.int .u64 0, .int .u64 0, .int .u64 0, .int .u64 0] 88) ∧ X.heap[w.heap.size]? = some (.cells #[.int .u64 0, .int .u64 0, .int .u64 0, .int .u64 0] 88 (0, 0)) ∧ Below w.heap.size w X :=
    ⟨_, rfl, heap_alloc_new w _, (Below.refl _ _).alloc (Nat.le_refl _) _⟩
  have HWH := Lib.hid (whole_any (hr.below hbX) h64)
  have HXS : Hid (X.heap.size = w.heap.size + 1) := Lib.hid (by rw [hX]; simp)
  have HBX := Lib.hid hbX
  have HXB := Lib.hid hXb
  have hlit : (⟨b, off, none⟩ : Addr) = ⟨b, off, none⟩ := rfl
  clear hr hbX hXb HZ hlit
  go_enter Try.func76, Try.ntmps76
  go_upto_region 1 with (fail)
  rw [← hX]
  clear hX
  cases hw : wholeL l
  · rw [hw] at HWH
    have HW := Lib.hid hw
    clear hw
    go_wp2_with (go_at_call 99; refine HWH.out.mono ?_; rintro e w2 ⟨rfl, hb2⟩
                 have hx2 := (hb2.block w.heap.size (by have := HXS.out; omega)).trans HXB.out
                 have z0 := cell_of_row w2 w.heap.size 0 _ _ _ hx2
                 have z1 := cell_of_row w2 w.heap.size 1 _ _ _ hx2
                 have z2 := cell_of_row w2 w.heap.size 2 _ _ _ hx2
                 have z3 := cell_of_row w2 w.heap.size 3 _ _ _ hx2
                 simp only [List.getElem?_toArray, List.getElem?_cons_zero, List.getElem?_cons_succ] at z0 z1 z2 z3
                 have y0 := frozen_of_row w2 w.heap.size 0 _ _ hx2
                 have y1 := frozen_of_row w2 w.heap.size 1 _ _ hx2
                 have y2 := frozen_of_row w2 w.heap.size 2 _ _ hx2
                 have y3 := frozen_of_row w2 w.heap.size 3 _ _ hx2
                 have HX2 := Lib.hid hx2
                 have HB2 := Lib.hid (HBX.out.trans (hb2.mono HBX.out.size))
                 clear hb2 hx2)
    have e4 := set4_block HX2.out (.int .u64 0) (.int .u64 0) (.int .u64 0) (.int .u64 0)
    have b4 := set4_beside w2 w.heap.size (.int .u64 0) (.int .u64 0) (.int .u64 0) (.int .u64 0)
    refine bodyPost_ret (head_ret _ _ w.heap.size _ _ rfl rfl rfl e4) rfl ⟨?_, HB2.out.trans (b4.below (fun k hk => by rw [hk]; exact Nat.le_refl _) HB2.out.size)⟩
    simp [headV, row4, HW.out]
  · rw [hw] at HWH
    have HW := Lib.hid hw
    clear hw
    go_wp2_with (go_at_call 99; refine HWH.out.mono ?_; rintro e w2 ⟨rfl, hb2⟩
                 have HX2 := Lib.hid ((hb2.block w.heap.size (by have := HXS.out; omega)).trans HXB.out)
                 have HB2 := Lib.hid (HBX.out.trans (hb2.mono HBX.out.size))
                 have HS2 : Hid (w.heap.size < w2.heap.size) := Lib.hid (by have h1 := HXS.out; have h2 := hb2.size; omega)
                 clear hb2)
    have HXA := Lib.hid ((Below.heap_alloc w2 (.cells #[.int .u64 0, .int .u64 0, .int .u64 0, .int .u64 0] 148) w.heap.size HS2.out).trans HX2.out)
    have HBA := Lib.hid (HB2.out.alloc HB2.out.size (.cells #[.int .u64 0, .int .u64 0, .int .u64 0, .int .u64 0] 148))
    have HQA := Lib.hid (heap_alloc_new w2 (.cells #[.int .u64 0, .int .u64 0, .int .u64 0, .int .u64 0] 148))
    go_loopw [10] (fun i wr => ∃ k : Nat, k ≤ 4 ∧ i = .int .i64 (k : Nat) ∧ wr.heap[w2.heap.size]? = some (.cells (arrK l k) 148 (0, 0)) ∧ Below w.heap.size w wr ∧ wr.heap[w.heap.size]? = some (.cells #[.int .u64 0, .int .u64 0, .int .u64 0, .int .u64 0] 88 (0, 0))) (fun i _ => 4 - (RowKit.intOf i).toNat)
    case atStart => exact ⟨0, by decide, rfl, HQA.out, HBA.out, HXA.out⟩
    case round =>
      obtain ⟨k, hk4, rfl, hq, hbw, hxw⟩ := hrel
      have HQ := Lib.hid hq
      have HBW := Lib.hid hbw
      have HXW := Lib.hid hxw
      have HRW := Lib.hid (HR.out.below hbw)
      clear hq hbw hxw
      by_cases hkn : k < 4
      · have : k = 0 ∨ k = 1 ∨ k = 2 ∨ k = 3 := by omega
        rcases this with rfl | rfl | rfl | rfl
        · have z0 := cell_of_row wr w2.heap.size 0 _ _ _ HQ.out
          simp only [arrK, row4, List.getElem?_toArray, List.getElem?_cons_zero] at z0
          have f0 := frozen_of_row wr w2.heap.size 0 _ _ HQ.out
          have HGP := Lib.hid (getp_any HRW.out h64 1 9 (by decide) (by decide) (by decide))
          have HST : Hid ((wr.setCell ⟨w2.heap.size, 0, none⟩ (.int .u64 (numAt l 1 9 : Nat))).heap[w2.heap.size]? = some (.cells (arrK l 1) 148 (0, 0))) := Lib.hid (heap_setCell_same wr w2.heap.size 0 _ 148 (.int .u64 (numAt l 1 9 : Nat)) HQ.out)
          have HBS := Lib.hid (HBW.out.setCell (p := ⟨w2.heap.size, 0, none⟩) (Nat.le_of_lt HS2.out) (.int .u64 (numAt l 1 9 : Nat)))
          have HXS2 : Hid ((wr.setCell ⟨w2.heap.size, 0, none⟩ (.int .u64 (numAt l 1 9 : Nat))).heap[w.heap.size]? = some (.cells #[.int .u64 0, .int .u64 0, .int .u64 0, .int .u64 0] 88 (0, 0))) := Lib.hid ((Below.heap_setCell _ _ _ _ (by have := HS2.out; show w.heap.size ≠ w2.heap.size; omega)).trans HXW.out)
          go_wp2_with (go_at_call 100; refine HGP.out.mono ?_; rintro e w3 ⟨rfl, rfl⟩)
          go_roundw
          case rel => exact ⟨1, by decide, rfl, HST.out, HBS.out, HXS2.out⟩
          case measure => simp [intOf]
        · have z0 := cell_of_row wr w2.heap.size 1 _ _ _ HQ.out
          simp only [arrK, row4, List.getElem?_toArray, List.getElem?_cons_zero, List.getElem?_cons_succ] at z0
          have f0 := frozen_of_row wr w2.heap.size 1 _ _ HQ.out
          have HGP := Lib.hid (getp_any HRW.out h64 9 17 (by decide) (by decide) (by decide))
          have HST : Hid ((wr.setCell ⟨w2.heap.size, 1, none⟩ (.int .u64 (numAt l 9 17 : Nat))).heap[w2.heap.size]? = some (.cells (arrK l 2) 148 (0, 0))) := Lib.hid (heap_setCell_same wr w2.heap.size 1 _ 148 (.int .u64 (numAt l 9 17 : Nat)) HQ.out)
          have HBS := Lib.hid (HBW.out.setCell (p := ⟨w2.heap.size, 1, none⟩) (Nat.le_of_lt HS2.out) (.int .u64 (numAt l 9 17 : Nat)))
          have HXS2 : Hid ((wr.setCell ⟨w2.heap.size, 1, none⟩ (.int .u64 (numAt l 9 17 : Nat))).heap[w.heap.size]? = some (.cells #[.int .u64 0, .int .u64 0, .int .u64 0, .int .u64 0] 88 (0, 0))) := Lib.hid ((Below.heap_setCell _ _ _ _ (by have := HS2.out; show w.heap.size ≠ w2.heap.size; omega)).trans HXW.out)
          go_wp2_with (go_at_call 100; refine HGP.out.mono ?_; rintro e w3 ⟨rfl, rfl⟩)
          go_roundw
          case rel => exact ⟨2, by decide, rfl, HST.out, HBS.out, HXS2.out⟩
          case measure => simp [intOf]
        · have z0 := cell_of_row wr w2.heap.size 2 _ _ _ HQ.out
          simp only [arrK, row4, List.getElem?_toArray, List.getElem?_cons_zero, List.getElem?_cons_succ] at z0
          have f0 := frozen_of_row wr w2.heap.size 2 _ _ HQ.out
          have HGP := Lib.hid (getp_any HRW.out h64 17 25 (by decide) (by decide) (by decide))
          have HST : Hid ((wr.setCell ⟨w2.heap.size, 2, none⟩ (.int .u64 (numAt l 17 25 : Nat))).heap[w2.heap.size]? = some (.cells (arrK l 3) 148 (0, 0))) := Lib.hid (heap_setCell_same wr w2.heap.size 2 _ 148 (.int .u64 (numAt l 17 25 : Nat)) HQ.out)
          have HBS := Lib.hid (HBW.out.setCell (p := ⟨w2.heap.size, 2, none⟩) (Nat.le_of_lt HS2.out) (.int .u64 (numAt l 17 25 : Nat)))
          have HXS2 : Hid ((wr.setCell ⟨w2.heap.size, 2, none⟩ (.int .u64 (numAt l 17 25 : Nat))).heap[w.heap.size]? = some (.cells #[.int .u64 0, .int .u64 0, .int .u64 0, .int .u64 0] 88 (0, 0))) := Lib.hid ((Below.heap_setCell _ _ _ _ (by have := HS2.out; show w.heap.size ≠ w2.heap.size; omega)).trans HXW.out)
          go_wp2_with (go_at_call 100; refine HGP.out.mono ?_; rintro e w3 ⟨rfl, rfl⟩)
          go_roundw
          case rel => exact ⟨3, by decide, rfl, HST.out, HBS.out, HXS2.out⟩
          case measure => simp [intOf]
        · have z0 := cell_of_row wr w2.heap.size 3 _ _ _ HQ.out
          simp only [arrK, row4, List.getElem?_toArray, List.getElem?_cons_zero, List.getElem?_cons_succ] at z0
          have f0 := frozen_of_row wr w2.heap.size 3 _ _ HQ.out
          have HGP := Lib.hid (getp_any HRW.out h64 25 33 (by decide) (by decide) (by decide))
          have HST : Hid ((wr.setCell ⟨w2.heap.size, 3, none⟩ (.int .u64 (numAt l 25 33 : Nat))).heap[w2.heap.size]? = some (.cells (arrK l 4) 148 (0, 0))) := Lib.hid (heap_setCell_same wr w2.heap.size 3 _ 148 (.int .u64 (numAt l 25 33 : Nat)) HQ.out)
          have HBS := Lib.hid (HBW.out.setCell (p := ⟨w2.heap.size, 3, none⟩) (Nat.le_of_lt HS2.out) (.int .u64 (numAt l 25 33 : Nat)))
          have HXS2 : Hid ((wr.setCell ⟨w2.heap.size, 3, none⟩ (.int .u64 (numAt l 25 33 : Nat))).heap[w.heap.size]? = some (.cells #[.int .u64 0, .int .u64 0, .int .u64 0, .int .u64 0] 88 (0, 0))) := Lib.hid ((Below.heap_setCell _ _ _ _ (by have := HS2.out; show w.heap.size ≠ w2.heap.size; omega)).trans HXW.out)
          go_wp2_with (go_at_call 100; refine HGP.out.mono ?_; rintro e w3 ⟨rfl, rfl⟩)
          go_roundw
          case rel => exact ⟨4, by decide, rfl, HST.out, HBS.out, HXS2.out⟩
          case measure => simp [intOf]
      · obtain rfl : k = 4 := by omega
        have z0 := cell_of_row wr w2.heap.size 0 _ _ _ HQ.out
        have z1 := cell_of_row wr w2.heap.size 1 _ _ _ HQ.out
        have z2 := cell_of_row wr w2.heap.size 2 _ _ _ HQ.out
        have z3 := cell_of_row wr w2.heap.size 3 _ _ _ HQ.out
        simp only [arrK, row4, List.getElem?_toArray, List.getElem?_cons_zero, List.getElem?_cons_succ] at z0 z1 z2 z3
        have y0 := cell_of_row wr w.heap.size 0 _ _ _ HXW.out
        have y1 := cell_of_row wr w.heap.size 1 _ _ _ HXW.out
        have y2 := cell_of_row wr w.heap.size 2 _ _ _ HXW.out
        have y3 := cell_of_row wr w.heap.size 3 _ _ _ HXW.out
        simp only [List.getElem?_toArray, List.getElem?_cons_zero, List.getElem?_cons_succ] at y0 y1 y2 y3
        have f0 := frozen_of_row wr w.heap.size 0 _ _ HXW.out
        have f1 := frozen_of_row wr w.heap.size 1 _ _ HXW.out
        have f2 := frozen_of_row wr w.heap.size 2 _ _ HXW.out
        have f3 := frozen_of_row wr w.heap.size 3 _ _ HXW.out
        have e4 := set4_block HXW.out (.int .u64 (hk l 4 0 : Nat)) (.int .u64 (hk l 4 1 : Nat)) (.int .u64 (hk l 4 2 : Nat)) (.int .u64 (hk l 4 3 : Nat))
        have b4 := set4_beside wr w.heap.size (.int .u64 (hk l 4 0 : Nat)) (.int .u64 (hk l 4 1 : Nat)) (.int .u64 (hk l 4 2 : Nat)) (.int .u64 (hk l 4 3 : Nat))
        have HE4 := Lib.hid e4
        have HB4 := Lib.hid (HBW.out.trans (b4.below (fun k hk => by rw [hk]; exact Nat.le_refl _) HBW.out.size))
        clear e4 b4
        go_wp2_with fail
        refine bodyPost_ret (head_ret _ _ w.heap.size _ _ rfl rfl rfl HE4.out) rfl ⟨?_, HB4.out⟩
        simp [headV, row4, HW.out, hk]
end
end Go.Proofs.Ytmnbkhgogogeiaa
