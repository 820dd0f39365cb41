/-
  Records.
-/
import Derived.Test.YtmnbkhgogogeiaaSync
namespace Go.Proofs.Ytmnbkhgogogeiaa
set_option linter.unusedVariables false
open Go.RowKit

theorem Try.info23 : (Try.prog.info? 23).map (fun i => (i.zero, i.size, i.bytes)) = some (some (.slice none 0 0), 1, 24) := by kernel_rfl
/-- a row of rows of bytes -/
structure Rows2 (w : World) (B : Nat) (v : Value) (M : List (Value × List Nat)) : Prop where
  row : w.ownsRow B 23 1 v M.length (M.map (·.1))
  own : ∀ x ∈ M, OwnB w B x.1 x.2
theorem Rows2.nil (w : World) (B : Nat) : Rows2 w B (.slice none 0 0) [] := ⟨World.ownsRow_nil _ _ _ _, fun _ h => by cases h⟩
theorem Rows2.below {w w' : World} {B : Nat} {v : Value} {M : List (Value × List Nat)} (h : Rows2 w B v M) (hb : Below w.heap.size w w') : Rows2 w' B v M :=
  ⟨ownsRow_below h.row hb, fun x hx => ownsRow_below (h.own x hx) hb⟩
theorem Rows2.one (w : World) (B : Nat) (v : Value) (M : List (Value × List Nat)) (h : Rows2 w B v M) : ∀ u ∈ M.map (·.1), u.oneCell' = true := by
  intro u hu
  obtain ⟨x, hx, rfl⟩ := List.mem_map.1 hu
  obtain ⟨a, c, e⟩ := (h.own x hx).shape
  rw [e]; rfl
theorem Rows2.grown {w w' : World} {B n : Nat} {v o y : Value} {M : List (Value × List Nat)} {d : List Nat} (h : Rows2 w B v M) (hy : OwnB w B y d) (hg : w.grownBy w' v.ownBlock) (hn : n = M.length + 1) (ho : w'.ownsRow B 23 1 o n (M.map (·.1) ++ [y])) : Rows2 w' B o (M ++ [(y, d)]) := by
  subst hn
  have hb : Beside (fun k => v.ownBlock = some k) w w' := ⟨hg.os, hg.tape, hg.output, hg.size, fun k hk hn => hg.block k hk (fun e => hn e.symm)⟩
  have hk : ∀ (z : Value) (l : List Nat), OwnB w B z l → OwnB w' B z l := fun z l hz => ownsRow_beside hz hb (fun k hk hn => own_ne h.row hz (by decide) k hn k hk rfl)
  refine ⟨?_, fun x hx => ?_⟩
  · rw [List.map_append, List.length_append]
    exact ho
  · rcases List.mem_append.1 hx with hx | hx
    · exact hk _ _ (h.own x hx)
    · obtain rfl := List.mem_singleton.1 hx
      exact hk _ _ hy

set_option maxRecDepth 100000 in
set_option maxHeartbeats 4000000 in
theorem records_any {w : World} {pl B : Nat} {d ev : Value} {s : LgS} {L : List (Ent × Value)} (h : LgV w pl d ev s false) (he : EntR w B ev L) (hL : L.length ≤ 65536) (hd : ∀ x ∈ L, x.1.data.length ≤ 65536 ∧ ∀ n ∈ x.1.data, n < 256) :
    Calls Try.prog 27 #[.pointer (some ⟨pl, 0, none⟩)] w fun e w' => ∃ o M, e = .returned o ∧ Rows2 w' w.heap.size o M ∧ M.map (·.2) = L.map (·.1.data) ∧ Below w.heap.size w w' := by
  obtain ⟨-, -, -, -, -, -, c6, -, -, -, -, -⟩ := h.cells
  obtain ⟨ea, ec, rfl⟩ := own_shape he.row
  have HE := Lib.hid he
  have HD := Lib.hid hd
  have HL := Lib.hid hL
  obtain ⟨i0, hi, hz0, hz1, hz2⟩ := info_parts Try.info23
  have HI := Lib.hid hi
  clear he hd h hi
  obtain ⟨n, hn⟩ : ∃ n, L.length = n := ⟨_, rfl⟩
  rw [hn] at HE c6 hL
  have HN := Lib.hid hn
  clear hn
  go_enter Try.func27, Try.ntmps27
  go_wp2_with fail
  go_loopw [13, 3] (fun i o wr => ∃ k M, k ≤ n ∧ i = .int .i64 (k : Nat) ∧ Rows2 wr w.heap.size o M ∧ M.map (·.2) = (L.take k).map (·.1.data) ∧ Below w.heap.size w wr) (fun i _ _ => n - (RowKit.intOf i).toNat)
  case atStart => exact ⟨0, [], Nat.zero_le _, rfl, Rows2.nil _ _, rfl, Below.refl _ _⟩
  case round =>
    obtain ⟨k, M, hk, rfl, hm, hmm, hb⟩ := hrel
    obtain ⟨oa, oc, rfl⟩ := own_shape hm.row
    have HM := Lib.hid hm
    have HMM := Lib.hid hmm
    have HB := Lib.hid hb
    by_cases hkn : k < n
    · have hkz : (k : Int) < (n : Int) := by omega
      have hkl : k < L.length := by rw [HN.out]; exact hkn
      have hee := HE.out.qb (Below.qb hb) (Nat.le_refl _)
      obtain ⟨eg, rfl⟩ : ∃ eg, ea = some ⟨eg, 0, none⟩ := by
        rcases HE.out.row.2 with ⟨e, h0⟩ | ⟨g, cap, cur, e, _⟩
        · omega
        · exact ⟨g, by simpa using (Value.slice.inj e).1⟩
      obtain ⟨k0, k1, k2, k3⟩ := ent_cell hee k hkl
      have hoy := hee.own _ (List.getElem_mem hkl)
      obtain ⟨da, dc, hdv⟩ : ∃ da dc, (L[k]).2 = .slice da (L[k]).1.data.length dc := hoy.shape
      rw [hdv] at k3 hoy
      have hdd := HD.out _ (List.getElem_mem hkl)
      have HNX : Hid ((L.take (k + 1)).map (·.1.data) = (L.take k).map (·.1.data) ++ [(L[k]).1.data]) := Lib.hid (by rw [List.take_succ_eq_append_getElem hkl, List.map_append]; rfl)
      generalize (L[k]).1 = y at *
      obtain ⟨dl, hdl⟩ : ∃ dl, y.data.length = dl := ⟨_, rfl⟩
      rw [hdl] at k3 hoy
      obtain ⟨Z, hZ, hZb, hbZ⟩ : ∃ Z, Z = wr.alloc (.cells #[.int .i64 (y.place : Nat), .int .u64 (y.behind : Nat), .int .i64 (y.cells : Nat), .slice da dl dc] 98) ∧ Z.heap[wr.heap.size]? = some (.cells #[.int .i64 (y.place : Nat), .int .u64 (y.behind : Nat), .int .i64 (y.cells : Nat), .slice da dl dc] 98 (0, 0)) ∧ Below wr.heap.size wr Z :=
        ⟨_, rfl, heap_alloc_new wr _, (Below.refl _ _).alloc (Nat.le_refl _) _⟩
      have HBZ := Lib.hid (hb.trans (hbZ.mono hb.size))
      have HMZ := Lib.hid (hm.below hbZ)
      have HYZ := Lib.hid ((Below.qb hbZ).own (Nat.le_refl _) hoy)
      have HCL := Lib.hid (bclone_any (.slice da dl dc) y.data Z (HYZ.out.rowB hdd.2) (by omega))
      have HKN := Lib.hid hkn
      have z3 := cell_of_row Z wr.heap.size 3 _ _ _ hZb
      simp only [List.getElem?_toArray, List.getElem?_cons_zero, List.getElem?_cons_succ] at z3
      clear hm hmm hb hee hoy hdd hdl hZb hbZ hdv
      go_upto_region 7 with (fail)
      rw [← hZ]
      clear hZ k0 k1 k2 k3
      go_wp2_with (first
        | (go_at_call 37; refine HCL.out.mono ?_; rintro e w5 ⟨o2, rfl, ho, hb5⟩
           obtain ⟨pa, pc, rfl⟩ := ho.shape
           have h5 : Rows2 w5 w.heap.size (.slice oa M.length oc) M := HMZ.out.below hb5
           have HM5 : Hid (Rows2 (w5.alloc (.cells #[.slice pa y.data.length pc] 23)) w.heap.size (.slice oa M.length oc) M) := Lib.hid (h5.below ((Below.refl _ _).alloc (Nat.le_refl _) _))
           have HB5 : Hid (Below w.heap.size w (w5.alloc (.cells #[.slice pa y.data.length pc] 23))) := Lib.hid ((HBZ.out.trans (hb5.mono HBZ.out.size)).alloc (Nat.le_trans HBZ.out.size hb5.size) _)
           have HY5 : Hid (OwnB (w5.alloc (.cells #[.slice pa y.data.length pc] 23)) w.heap.size (.slice pa y.data.length pc) y.data) := Lib.hid ((owns_mono ho HBZ.out.size).alloc _)
           have HW5 : Hid ((w5.alloc (.cells #[.slice pa y.data.length pc] 23)).heap[w5.heap.size]? = some (.cells #[.slice pa y.data.length pc] 23 (0, 0))) := Lib.hid (heap_alloc_new w5 _)
           have HML : Hid (M.length = k) := Lib.hid (by have h1 := congrArg List.length HMM.out; simp at h1; have := HN.out; omega)
           clear ho hb5 h5)
        | (at_builtin; go_loud (refine wpList_append_own _ rfl (.tmp 17) (.tmp 21) 69 rfl w.heap.size 23 i0 _ 1 24 Try.underlying69 HI.out hz0 hz1 hz2 rfl (by decide) (.slice oa M.length oc) M.length (M.map (·.1)) rfl HM5.out.row ⟨w5.heap.size, 0, none⟩ 1 1 [.slice pa y.data.length pc] rfl rfl (World.news_of_block (cs := #[.slice pa y.data.length pc]) (t := 23) (fr := (0, 0)) HW5.out) (by simp [Value.oneCell']) (by have := HML.out; unfold maxLen; omega) (by have := HML.out; omega) HB5.out.size ?_)))
      intro o w6 ho hgr _
      have HM6 := Lib.hid (HM5.out.grown HY5.out hgr rfl ho)
      have HB6 : Hid (Below w.heap.size w w6) := Lib.hid (HB5.out.grown hgr HB5.out.size (fun j hj => (World.ownsRow.lt HM5.out.row j hj).1))
      obtain ⟨oa2, oc2, rfl⟩ := own_shape ho
      clear ho hgr
      go_wp2_with fail
      go_roundw
      case rel => exact ⟨k + 1, M ++ [(.slice pa y.data.length pc, y.data)], HKN.out, by go_num, HM6.out, by rw [HNX.out, List.map_append, HMM.out]; rfl, HB6.out⟩
      case measure => simp [intOf]; omega
    · obtain rfl : k = n := by omega
      go_wp2_with fail
      go_ret
      refine ⟨_, M, rfl, HM.out, ?_, HB.out⟩
      rw [HMM.out, List.take_of_length_le (by rw [HN.out]; exact Nat.le_refl _)]
end Go.Proofs.Ytmnbkhgogogeiaa
