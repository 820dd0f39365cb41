/-
  record, at any sectors.
-/
import Derived.Test.YtmkedanlpapndaaRecB
import Derived.Test.YtmkedanlpapndaaApp
namespace Go.Proofs.Ytmkedanlpapndaa
set_option linter.unusedVariables false
open Go.RowKit

def recEnd (w w' : World) (s : LgS) (R : Option (Nat × Nat × List Nat)) (e : Ending) : Prop :=
  match R with
  | none => e = .returned (.tuple #[.agg #[.int .i64 0, .int .u64 0, .int .i64 0, .slice none 0 0], .int .u64 0, .bool false])
  | some (c, n, data) => ∃ dv, e = .returned (.tuple #[.agg #[.int .i64 (s.place : Nat), .int .u64 (s.last : Nat), .int .i64 (c : Nat), dv], .int .u64 (n : Nat), .bool true]) ∧ OwnB w' w.heap.size dv data

set_option maxRecDepth 100000 in
set_option maxHeartbeats 4000000 in
theorem record_any {w : World} {pl : Nat} {d ev : Value} {s : LgS} (h : LgV w pl d ev s false) (hp : s.place ≤ 65536) (hu : s.used ≤ 65536) (hr0 : 0 < s.ring) (hrb : s.ring ≤ 65536) {v : Value} {L : Nat → List Nat} (hs : SecL w v s.ring L) :
    Calls Try.prog 51 #[.pointer (some ⟨pl, 0, none⟩), v] w fun e w' => recEnd w w' s (recR L s.ring s.place s.used 3000 0 1 s.last 0 []) e ∧ Below w.heap.size w w' := by
  obtain ⟨b, off, cap, rfl, h1, h2, -⟩ := id hs
  have HS := Lib.hid hs
  have HLG := Lib.hid h
  obtain ⟨X, hX, hI, hq⟩ : ∃ X, X = (((w.alloc (.cells #[.int .i64 0, .int .u64 0, .int .i64 0, .slice none 0 0] 80)).alloc (.cells #[.int .i64 (s.place : Nat), .int .u64 (s.last : Nat), .int .i64 1, .slice none 0 0] 80)).drew) ∧
      RecI w X (w.heap.size + 1) s L (recR L s.ring s.place s.used 3000 0 1 s.last 0 []) 0 1 s.last 0 (.slice none 0 0) [] ∧ w.heap.size + 1 < X.heap.size := by
    have e2 := heap_alloc_new (w.alloc (.cells #[.int .i64 0, .int .u64 0, .int .i64 0, .slice none 0 0] 80)) (.cells #[.int .i64 (s.place : Nat), .int .u64 (s.last : Nat), .int .i64 1, .slice none 0 0] 80)
    rw [World.size_alloc] at e2
    refine ⟨_, rfl, ⟨(((Below.refl _ _).alloc (Nat.le_refl _) _).alloc (by simp) _).drew, (Below.heap_alloc _ _ _ (by simp)).trans (heap_alloc_new w _), e2, ⟨by simp, .inl ⟨rfl, rfl⟩⟩, rfl, by decide, by decide, rfl, by decide, by simp, .inl ⟨rfl, rfl⟩⟩, by show _ < ((w.alloc _).alloc _).heap.size; simp⟩
  have hA : Below w.heap.size w (w.alloc (.cells #[.int .i64 0, .int .u64 0, .int .i64 0, .slice none 0 0] 80)) := (Below.refl _ _).alloc (Nat.le_refl _) _
  obtain ⟨-, -, -, -, -, -, -, a7, -, a9, -, -⟩ := (h.qb (Below.qb hA) (Nat.le_refl _)).cells
  have hA2 : Below w.heap.size w (((w.alloc (.cells #[.int .i64 0, .int .u64 0, .int .i64 0, .slice none 0 0] 80)).alloc (.cells #[.int .i64 0, .int .u64 0, .int .i64 0, .slice none 0 0] 80))).drew := (((Below.refl _ _).alloc (Nat.le_refl _) _).alloc (by simp) _).drew
  obtain ⟨-, -, -, -, -, -, -, b7, -, b9, -, -⟩ := (h.qb (Below.qb hA2) (Nat.le_refl _)).cells
  obtain ⟨-, c1, -, -, -, -, -, c7, c8, c9, -, -⟩ := h.cells
  generalize hR : recR L s.ring s.place s.used 3000 0 1 s.last 0 [] = R at *
  have HI := Lib.hid hI
  have HQS := Lib.hid hq
  clear hI hq hA hA2 h hs hR
  go_enter Try.func51, Try.ntmps51
  go_upto_region 2 with (first | go_region)
  rw [← hX]
  clear hX a7 a9 b7 b9 c1 c7 c8 c9
  have hlx := HLG.out.qb (Below.qb HI.out.below) (Nat.le_refl _)
  obtain ⟨-, c1, -, -, -, -, -, c7, c8, c9, -, -⟩ := hlx.cells
  have HXQ : Hid (w.heap.size + 1 < X.heap.size ∧ w.heap.size ≠ w.heap.size + 1) := Lib.hid ⟨HQS.out, by omega⟩
  generalize hqq : w.heap.size + 1 = q at *
  have HQQ := Lib.hid hqq
  clear hqq hlx
  go_wp2_with fail
  go_loopw [8, 9, 10] (fun l z p wr => ∃ part cells last size dv data, l = .int .u64 (last : Nat) ∧ z = .int .u64 (size : Nat) ∧ p = .int .i64 (part : Nat) ∧ RecI w wr q s L R part cells last size dv data) (fun _ _ p _ => 3000 - (RowKit.intOf p).toNat)
  case atStart => exact ⟨0, 1, s.last, 0, _, [], rfl, rfl, rfl, HI.out⟩
  case round =>
    obtain ⟨part, cells, last, size, dv, data, rfl, rfl, rfl, hri⟩ := hrel
    have HRI := Lib.hid hri
    have hlw := HLG.out.qb (Below.qb hri.below) (Nat.le_refl _)
    obtain ⟨-, c1, -, -, -, -, -, c7, c8, -, -, -⟩ := hlw.cells
    have e0 := cell_of_row wr q 0 _ _ _ hri.ent
    have e1 := cell_of_row wr q 1 _ _ _ hri.ent
    have e2 := cell_of_row wr q 2 _ _ _ hri.ent
    have e3 := cell_of_row wr q 3 _ _ _ hri.ent
    have y0 := cell_of_row wr w.heap.size 0 _ _ _ hri.zero
    have y1 := cell_of_row wr w.heap.size 1 _ _ _ hri.zero
    have y2 := cell_of_row wr w.heap.size 2 _ _ _ hri.zero
    have y3 := cell_of_row wr w.heap.size 3 _ _ _ hri.zero
    simp only [List.getElem?_toArray, List.getElem?_cons_zero, List.getElem?_cons_succ] at e0 e1 e2 e3 y0 y1 y2 y3
    have f0 := frozen_of_row wr w.heap.size 0 _ _ hri.zero
    have f1 := frozen_of_row wr w.heap.size 1 _ _ hri.zero
    have f2 := frozen_of_row wr w.heap.size 2 _ _ hri.zero
    have f3 := frozen_of_row wr w.heap.size 3 _ _ hri.zero
    have hcl := hri.cl
    have hle := hri.le
    have HPL := Lib.hid (lt_of_block hlw)
    clear hri hlw
    obtain ⟨g, hg⟩ : ∃ g, s.used + cells = g := ⟨_, rfl⟩
    have hg2 : (s.used : Int) + (cells : Int) = (g : Int) := by omega
    have HG := Lib.hid hg
    by_cases hpc : part < cells
    · have hpz : (part : Int) < (cells : Int) := by omega
      by_cases hfull : s.ring < g
      · have hfz : (g : Int) > (s.ring : Int) := by omega
        clear hg
        have HZ := HRI.out.zero
        have HE := Lib.hid (set4_block HZ (.int .i64 0) (.int .u64 0) (.int .i64 0) (.slice none 0 0))
        have HBE := Lib.hid (HRI.out.below.trans ((set4_beside wr w.heap.size (.int .i64 0) (.int .u64 0) (.int .i64 0) (.slice none 0 0)).below (fun k hk => by rw [hk]; exact Nat.le_refl _) HRI.out.below.size))
        clear HZ
        go_wp2_with (first | go_region | fail)
        have hR : R = none := by
          rw [← HRI.out.fn, show 3000 - part = (3000 - part - 1) + 1 by omega, recR, if_pos hpc, if_pos (by rw [HG.out]; exact hfull)]
        refine bodyPost_ret (rec_ret _ _ w.heap.size _ _ _ rfl rfl rfl rfl HE.out) rfl ⟨?_, ?_⟩
        · rw [hR]; rfl
        · exact HBE.out.drew
      · have hfz : ¬ (g : Int) > (s.ring : Int) := by omega
        obtain ⟨j, hj⟩ : ∃ j : Nat, (s.place + part) % s.ring = j := ⟨_, rfl⟩
        have hjr : j < s.ring := by have := Nat.mod_lt (s.place + part) hr0; omega
        have hmod : ((s.place : Int) + (part : Int)).tmod (s.ring : Int) = (j : Int) := by
          rw [Int.tmod_eq_emod_of_nonneg (by omega), ← hj, ← Int.natCast_add]
          exact (Int.natCast_emod _ _).symm
        have hring : ((s.ring : Int) == 0) = false := by simp; omega
        have hring2 : ¬ s.ring = 0 := by omega
        have hw64 : wrap64 (j : Int) = (j : Int) := by unfold wrap64; omega
        have hjz : (j : Int) < (s.ring : Int) := Int.ofNat_lt.2 hjr
        have hpp : part ≤ 1640 := by omega
        have hwj : (IntKind.i64.wrap ((s.place : Int) + (part : Int))).tmod (s.ring : Int) = (j : Int) := by rw [wrap_sum _ _ (by omega)]; exact hmod
        have HJ := Lib.hid hj
        have HSW := Lib.hid (HS.out.below HRI.out.below)
        obtain ⟨b', off', cap', e, -, -, hcell⟩ := HSW.out
        obtain ⟨⟨rfl, rfl⟩, rfl⟩ : (b = b' ∧ off = off') ∧ cap = cap' := by simpa using e
        obtain ⟨sa, sc, hc, hrow, h64⟩ := hcell j hjr
        have HRC : Hid (∀ W2, Below wr.heap.size wr W2 → Calls Try.prog 52 #[.slice sa 64 sc] W2 fun e w' => ∃ dv, e = .returned (.tuple #[.agg #[.int .u64 (cellV (L j) 1 8 : Nat), .int .u64 (cellV (L j) 9 8 : Nat), .int .u64 (cellV (L j) 17 4 : Nat), .int .u64 (cellV (L j) 21 2 : Nat), dv], .bool (okCell (L j))]) ∧
            (∃ a l c, dv = .slice a l c) ∧ (wholeL (L j) = true → RowB W2 dv (((L j).take 63).drop 23)) ∧ Below W2.heap.size W2 w') := Lib.hid fun W2 hb => read_cellS (hrow.below hb) h64
        have HROW := Lib.hid hrow
        clear hcell e hg hj hrow
        generalize hn0 : cellV (L j) 1 8 = n0 at HRC
        generalize hn1 : cellV (L j) 9 8 = n1 at HRC
        generalize hn2 : cellV (L j) 17 4 = n2 at HRC
        generalize hn3 : cellV (L j) 21 2 = n3 at HRC
        generalize hok : okCell (L j) = ok at HRC
        have HN := Lib.hid (And.intro hn0 (And.intro hn1 (And.intro hn2 (And.intro hn3 hok))))
        clear hn0 hn1 hn2 hn3 hok
        go_upto_region 9 with (first | go_region)
        have HD1 := Lib.hid ((Below.refl wr.heap.size wr).drew.drew)
        have hZ : Below wr.heap.size wr (wr.alloc (.cells #[.int .u64 0, .int .u64 0, .int .u64 0, .int .u64 0, .slice none 0 0] 82)) := (Below.refl _ _).alloc (Nat.le_refl _) _
        have HD2 := Lib.hid hZ.drew.drew
        have hcz : (wr.alloc (.cells #[.int .u64 0, .int .u64 0, .int .u64 0, .int .u64 0, .slice none 0 0] 82)).cell? ⟨b, off + j, none⟩ = some (.slice sa 64 sc) := by rw [hZ.cell (World.block_lt_of_cell? wr _ hc)]; exact hc
        have hc1z : (wr.alloc (.cells #[.int .u64 0, .int .u64 0, .int .u64 0, .int .u64 0, .slice none 0 0] 82)).cell? ⟨pl, 1, none⟩ = some (.int .i64 (s.ring : Nat)) := by rw [hZ.cell (World.block_lt_of_cell? wr _ c1)]; exact c1
        have hc7z : (wr.alloc (.cells #[.int .u64 0, .int .u64 0, .int .u64 0, .int .u64 0, .slice none 0 0] 82)).cell? ⟨pl, 7, none⟩ = some (.int .i64 (s.place : Nat)) := by rw [hZ.cell (World.block_lt_of_cell? wr _ c7)]; exact c7
        clear hZ
        go_cut [11, 12] (fun u okv wx => ∃ q2 a l c, u = .pointer (some ⟨q2, 0, none⟩) ∧ okv = .bool ok ∧ wx.heap[q2]? = some (.cells #[.int .u64 (n0 : Nat), .int .u64 (n1 : Nat), .int .u64 (n2 : Nat), .int .u64 (n3 : Nat), .slice a l c] 82 (0, 0)) ∧ (wholeL (L j) = true → RowB wx (.slice a l c) (((L j).take 63).drop 23)) ∧ wr.heap.size ≤ q2 ∧ Below wr.heap.size wr wx)
        case first =>
          go_region_law (first
            | (go_simp; go_at_call 52; refine (HRC.out _ (by with_reducible exact HD1.out)).mono ?_; rintro e w3 ⟨dv, rfl, ⟨ra, rl, rc, rfl⟩, hdv, hb3⟩
               have HB3 := Lib.hid (HD1.out.trans (hb3.mono HD1.out.size))
               have HS3 : Hid (wr.heap.size ≤ w3.heap.size) := Lib.hid HB3.out.size
               have HDV : Hid (wholeL (L j) = true → ∀ w4, Below w3.heap.size w3 w4 → RowB w4 (.slice ra rl rc) (((L j).take 63).drop 23)) := Lib.hid fun hw w4 h4 => (hdv hw).below (hb3.trans (h4.mono hb3.size))
               clear hb3 hdv)
            | (go_simp; go_at_call 52; refine (HRC.out _ (by with_reducible exact HD2.out)).mono ?_; rintro e w3 ⟨dv, rfl, ⟨ra, rl, rc, rfl⟩, hdv, hb3⟩
               have HB3 := Lib.hid (HD2.out.trans (hb3.mono HD2.out.size))
               have HDV : Hid (wholeL (L j) = true → RowB w3 (.slice ra rl rc) (((L j).take 63).drop 23)) := Lib.hid fun hw => (hdv hw).below hb3
               have HX3 : Hid (w3.heap[wr.heap.size]? = some (.cells #[.int .u64 0, .int .u64 0, .int .u64 0, .int .u64 0, .slice none 0 0] 82 (0, 0))) := Lib.hid ((hb3.block wr.heap.size (by show _ < (wr.heap.push _).size; simp)).trans (heap_alloc_new wr _))
               have u0 := cell_of_row w3 wr.heap.size 0 _ _ _ HX3.out
               have u1 := cell_of_row w3 wr.heap.size 1 _ _ _ HX3.out
               have u2 := cell_of_row w3 wr.heap.size 2 _ _ _ HX3.out
               have u3 := cell_of_row w3 wr.heap.size 3 _ _ _ HX3.out
               have u4 := cell_of_row w3 wr.heap.size 4 _ _ _ HX3.out
               simp only [List.getElem?_toArray, List.getElem?_cons_zero, List.getElem?_cons_succ] at u0 u1 u2 u3 u4
               have v0 := frozen_of_row w3 wr.heap.size 0 _ _ HX3.out
               have v1 := frozen_of_row w3 wr.heap.size 1 _ _ HX3.out
               have v2 := frozen_of_row w3 wr.heap.size 2 _ _ HX3.out
               have v3 := frozen_of_row w3 wr.heap.size 3 _ _ HX3.out
               have v4 := frozen_of_row w3 wr.heap.size 4 _ _ HX3.out
               clear hb3 hdv))
          all_goals
            go_wp2_with fail
            go_meet
            first
              | (have e5 := set5_block HX3.out (.int .u64 (n0 : Nat)) (.int .u64 (n1 : Nat)) (.int .u64 (n2 : Nat)) (.int .u64 (n3 : Nat)) (.slice ra rl rc)
                 have b5 := set5_beside w3 wr.heap.size (.int .u64 (n0 : Nat)) (.int .u64 (n1 : Nat)) (.int .u64 (n2 : Nat)) (.int .u64 (n3 : Nat)) (.slice ra rl rc)
                 have l5 := HB3.out.trans (b5.below (fun k hk => by rw [hk]; exact Nat.le_refl _) HB3.out.size)
                 exact ⟨wr.heap.size, ra, rl, rc, rfl, rfl, e5, fun hw => rowB_beside82 (HDV.out hw) b5 HX3.out, Nat.le_refl _, l5⟩)
              | (have e5 := heap_alloc_new w3 (.cells #[.int .u64 (n0 : Nat), .int .u64 (n1 : Nat), .int .u64 (n2 : Nat), .int .u64 (n3 : Nat), .slice ra rl rc] 82)
                 have l5 := HB3.out.alloc HB3.out.size (.cells #[.int .u64 (n0 : Nat), .int .u64 (n1 : Nat), .int .u64 (n2 : Nat), .int .u64 (n3 : Nat), .slice ra rl rc] 82)
                 exact ⟨w3.heap.size, ra, rl, rc, rfl, rfl, e5, fun hw => HDV.out hw _ ((Below.refl _ _).alloc (Nat.le_refl _) _), HS3.out, l5⟩)
        case rest =>
          obtain ⟨q2, ra, rl, rc, rfl, rfl, hx2, hdr, hq2, hbc⟩ := hcut
          have HDR := Lib.hid hdr
          have HX2 := Lib.hid hx2
          have HBC := Lib.hid hbc
          have HQ2 := Lib.hid hq2
          have hqc := (hbc.block q (lt_of_block HRI.out.ent)).trans HRI.out.ent
          have hzc := (hbc.block w.heap.size (lt_of_block HRI.out.zero)).trans HRI.out.zero
          have k0 := cell_of_row wc q2 0 _ _ _ hx2
          have k1 := cell_of_row wc q2 1 _ _ _ hx2
          have k2 := cell_of_row wc q2 2 _ _ _ hx2
          have k3 := cell_of_row wc q2 3 _ _ _ hx2
          have k4 := cell_of_row wc q2 4 _ _ _ hx2
          have y0 := cell_of_row wc w.heap.size 0 _ _ _ hzc
          have y1 := cell_of_row wc w.heap.size 1 _ _ _ hzc
          have y2 := cell_of_row wc w.heap.size 2 _ _ _ hzc
          have y3 := cell_of_row wc w.heap.size 3 _ _ _ hzc
          simp only [List.getElem?_toArray, List.getElem?_cons_zero, List.getElem?_cons_succ] at k0 k1 k2 k3 k4 y0 y1 y2 y3
          have f0 := frozen_of_row wc w.heap.size 0 _ _ hzc
          have f1 := frozen_of_row wc w.heap.size 1 _ _ hzc
          have f2 := frozen_of_row wc w.heap.size 2 _ _ hzc
          have f3 := frozen_of_row wc w.heap.size 3 _ _ hzc
          have HQC := Lib.hid hqc
          have HE := Lib.hid (set4_block hzc (.int .i64 0) (.int .u64 0) (.int .i64 0) (.slice none 0 0))
          have HBE := Lib.hid ((HRI.out.below.trans (hbc.mono HRI.out.below.size)).trans ((set4_beside wc w.heap.size (.int .i64 0) (.int .u64 0) (.int .i64 0) (.slice none 0 0)).below (fun k hk => by rw [hk]; exact Nat.le_refl _) (Nat.le_trans HRI.out.below.size hbc.size)))
          clear hdr hx2 hbc hq2 hqc hzc hc hcz hc1z hc7z hmod hwj
          have hfail : fitC (L j) last part = false → R = none := fun hf => by
            rw [← HRI.out.fn, show 3000 - part = (3000 - part - 1) + 1 by omega, recR, if_pos hpc, if_neg (by rw [HG.out]; exact hfull), HJ.out, hf]
            rfl
          have HFAIL := Lib.hid hfail
          clear hfail
          cases ok
          · go_wp2_with (first | go_region | fail)
            refine bodyPost_ret (rec_ret _ _ w.heap.size _ _ _ rfl rfl rfl rfl HE.out) rfl ⟨?_, ?_⟩
            · rw [HFAIL.out (by unfold fitC; rw [HN.out.2.2.2.2]; rfl)]; rfl
            · exact HBE.out
          · have hw : wholeL (L j) = true := by
              have h := HN.out.2.2.2.2
              unfold okCell at h
              simp at h
              exact h.1
            by_cases hb1 : n1 = last
            · subst hb1
              have hb1z : ((n1 : Int) == (n1 : Int)) = true := by simp
              have hb1y : ((n1 : Int) != (n1 : Int)) = false := by simp
              by_cases hb3 : n3 = part
              · subst hb3
                have hb3y : ((n3 : Int) != (n3 : Int)) = false := by simp
                by_cases hb2 : n2 ≤ 65536
                · have hb2z : ¬ (n2 : Int) > 65536 := by omega
                  obtain ⟨m0, m1, m2, m3⟩ : numN (L j) 1 8 = n0 ∧ numN (L j) 9 8 = n1 ∧ numN (L j) 17 4 = n2 ∧ numN (L j) 21 2 = n3 := by
                    have := HN.out
                    simp [cellV, hw] at this
                    exact ⟨this.1, this.2.1, this.2.2.1, this.2.2.2.1⟩
                  have hfit : fitC (L j) n1 n3 = true := by
                    unfold fitC
                    rw [m1, m2, m3, HN.out.2.2.2.2]
                    simp [hb2]
                  have hstep := HRI.out.fn
                  rw [show 3000 - n3 = (3000 - n3 - 1) + 1 by omega, recR, if_pos hpc, if_neg (by rw [HG.out]; exact hfull), HJ.out, if_pos hfit, m0, m2] at hstep
                  have HST := Lib.hid hstep
                  have HM := Lib.hid (And.intro m0 (And.intro m1 (And.intro m2 m3)))
                  clear hstep hfit m0 m1 m2 m3
                  by_cases hp0 : n3 = 0
                  · have hp0y : ((n3 : Int) == 0) = true := by simp; omega
                    have hR := HST.out
                    rw [if_pos hp0] at hR
                    have hszy : ((n2 : Int) != (n2 : Int)) = false := by simp
                    obtain ⟨da, dc, rfl⟩ := HRI.out.own.shape
                    have hbk : Beside (fun k => k = q) wc (wc.setCell ⟨q, 2, none⟩ (.int .i64 (cellsN n2 : Nat))) := (Beside.refl (fun k => k = q) wc).setCell (p := ⟨q, 2, none⟩) (.inl rfl) _
                    have hqk : (wc.setCell ⟨q, 2, none⟩ (.int .i64 (cellsN n2 : Nat))).heap[q]? = some (.cells #[.int .i64 (s.place : Nat), .int .u64 (s.last : Nat), .int .i64 (cellsN n2 : Nat), .slice da data.length dc] 80 (0, 0)) := heap_setCell_same wc q 2 _ 80 _ HQC.out
                    have hqw : w.heap.size ≤ q := by have := HQQ.out; omega
                    have hsw : w.heap.size ≤ wc.heap.size := Nat.le_trans HRI.out.below.size HBC.out.size
                    have HBK : Hid (Below w.heap.size w (wc.setCell ⟨q, 2, none⟩ (.int .i64 (cellsN n2 : Nat)))) := Lib.hid ((HRI.out.below.trans (HBC.out.mono HRI.out.below.size)).trans (hbk.below (fun k hk => by rw [hk]; exact hqw) hsw))
                    have HZK : Hid ((wc.setCell ⟨q, 2, none⟩ (.int .i64 (cellsN n2 : Nat))).heap[w.heap.size]? = some (.cells #[.int .i64 0, .int .u64 0, .int .i64 0, .slice none 0 0] 80 (0, 0))) := Lib.hid ((Below.heap_setCell wc ⟨q, 2, none⟩ _ w.heap.size HXQ.out.2).trans ((HBC.out.block w.heap.size (lt_of_block HRI.out.zero)).trans HRI.out.zero))
                    have HQK := Lib.hid hqk
                    have hownk : OwnB (wc.setCell ⟨q, 2, none⟩ (.int .i64 (cellsN n2 : Nat))) w.heap.size (.slice da data.length dc) data := ownB_beside80 (ownsRow_below HRI.out.own HBC.out) hbk HQC.out
                    have hc2 : cellsN n2 ≤ 1640 := by unfold cellsN; omega
                    have hc3 : 1 ≤ cellsN n2 := by unfold cellsN; omega
                    have HCA := Lib.hid (cells_any n2 hb2 wc)
                    have g2 := frozen_of_row wc q 2 _ _ HQC.out
                    have g2c := cell_of_row wc q 2 _ _ _ HQC.out
                    simp only [List.getElem?_toArray, List.getElem?_cons_zero, List.getElem?_cons_succ] at g2c
                    have hne : ¬ q2 = q := by have h1 := HQ2.out; have h2 := lt_of_block HRI.out.ent; omega
                    have hne2 : ¬ q = q2 := fun e => hne e.symm
                    have HCC : Hid (1 ≤ cellsN n2 ∧ cellsN n2 ≤ 1640) := Lib.hid ⟨hc3, hc2⟩
                    have hrk : RowB (wc.setCell ⟨q, 2, none⟩ (.int .i64 (cellsN n2 : Nat))) (.slice ra rl rc) (((L j).take 63).drop 23) := rowB_beside80 (HDR.out hw) hbk HQC.out
                    have hD : (((L j).take 63).drop 23).length = 40 := by rw [List.length_drop, List.length_take, h64]; rfl
                    obtain ⟨D, hDD⟩ : ∃ D, ((L j).take 63).drop 23 = D := ⟨_, rfl⟩
                    rw [hDD] at hR hD
                    have HRR := Lib.hid hR
                    have HDL := Lib.hid hD
                    have hdrow := hrk
                    rw [hDD] at hdrow
                    have HDB := Lib.hid hdrow.lt
                    obtain ⟨ax, len, cp, e, hl, hcc, hm, hwl, hnn, hcell⟩ := hdrow
                    obtain ⟨rfl, rfl, rfl⟩ : ra = ax ∧ rl = len ∧ rc = cp := by simpa using e
                    rw [hD] at hl
                    subst hl
                    obtain ⟨x, rfl⟩ : ∃ x, ra = some x := by
                      cases ra with
                      | none => have := (hnn rfl).1; omega
                      | some x => exact ⟨x, rfl⟩
                    have hnews : ∀ j u, (u8s D)[j]? = some u → (wc.setCell ⟨q, 2, none⟩ (.int .i64 (cellsN n2 : Nat))).cell? (x.add j) = some u := by
                      intro j u hj
                      have hjl : j < D.length := by have := (List.getElem?_eq_some_iff.1 hj).1; simpa using this
                      rw [u8s_get D j hjl] at hj
                      cases hj
                      exact hcell x rfl j hjl
                    have one : ∀ u ∈ u8s D, u.oneCell' = true := by
                      intro u hu
                      obtain ⟨_, _, rfl⟩ := List.mem_map.1 hu
                      rfl
                    have Hone := Lib.hid one
                    have Hnews := Lib.hid hnews
                    obtain ⟨i0, hi, hz0, hz1, hz2⟩ := info_parts Try.info5
                    have HI5 := Lib.hid hi
                    have HOW := Lib.hid hownk
                    have HLN := Lib.hid HRI.out.len
                    have e3c := cell_of_row wc q 3 _ _ _ HQC.out
                    simp only [List.getElem?_toArray, List.getElem?_cons_zero, List.getElem?_cons_succ] at e3c
                    have HSZ : Hid (w.heap.size ≤ (wc.setCell ⟨q, 2, none⟩ (.int .i64 (cellsN n2 : Nat))).heap.size) := Lib.hid HBK.out.size
                    clear hR hD hDD e hcc hm hwl hnn hcell hnews one hi hownk hbk hqk hrk y0 y1 y2 y3 f0 f1 f2 f3
                    go_wp2_with (first
                      | go_region
                      | (go_at_call 39; refine HCA.out.mono ?_; rintro e w' ⟨rfl, rfl⟩)
                      | (at_builtin; go_loud (refine wpList_append_own _ rfl (.tmp 100) (.tmp 102) 34 rfl (w.heap.size) 5 i0 (.int .u8 0) 1 1 Try.underlying34 HI5.out hz0 hz1 hz2 rfl (by decide) (.slice da data.length dc) data.length (u8s data) rfl HOW.out x 40 rc (u8s D) rfl (by rw [u8s_length, HDL.out]) Hnews.out Hone.out (by have := HLN.out; unfold maxLen; omega) (by have := HLN.out; omega) HSZ.out ?_)))
                    intro o w6 ho hgr _
                    obtain ⟨oa, oc, rfl⟩ := own_shape ho
                    have hq6 := (hgr.block q (lt_of_block HQK.out) (fun e => ownsRow_ne (e := 5) HOW.out HQK.out (by decide) q e.symm rfl)).trans HQK.out
                    have hzc := HZK.out
                    have hz6 := (hgr.block w.heap.size (lt_of_block hzc) (fun e => ownsRow_ne (e := 5) HOW.out hzc (by decide) w.heap.size e.symm rfl)).trans hzc
                    have g3 := frozen_of_row w6 q 3 _ _ hq6
                    have x3 := cell_of_row w6 q 3 _ _ _ hq6
                    simp only [List.getElem?_toArray, List.getElem?_cons_zero, List.getElem?_cons_succ] at x3
                    have hb6 : Beside (fun k => k = q) w6 (w6.setCell ⟨q, 3, none⟩ (.slice oa (data.length + 40) oc)) := (Beside.refl (fun k => k = q) w6).setCell (p := ⟨q, 3, none⟩) (.inl rfl) _
                    have hbl : Below w.heap.size w w6 := HBK.out.grown hgr HSZ.out (fun k hk => (World.ownsRow.lt HOW.out k hk).1)
                    have hbl2 := hbl.trans (hb6.below (fun k hk => by rw [hk]; exact hqw) hbl.size)
                    have hown6 : OwnB w6 w.heap.size (.slice oa (data.length + 40) oc) (data ++ D) := by
                      unfold OwnB
                      rw [List.length_append, HDL.out, u8s_append]
                      exact ho
                    have hRI : RecI w (w6.setCell ⟨q, 3, none⟩ (.slice oa (data.length + 40) oc)) q s L R 1 (cellsN n2) n0 n2 (.slice oa (data.length + 40) oc) (data ++ D) :=
                      ⟨hbl2, (Below.heap_setCell w6 ⟨q, 3, none⟩ _ w.heap.size HXQ.out.2).trans hz6, heap_setCell_same w6 q 3 _ 80 _ hq6, ownB_beside80 hown6 hb6 hq6, by have h := HRR.out; rw [hp0] at h; exact h, HCC.out.1, HCC.out.2, by rw [List.length_append, HDL.out, HLN.out]; omega, hb2,
                        fun n hn => by rcases List.mem_append.1 hn with hn | hn; exact HRI.out.lt n hn; exact HDB.out n hn, .inr ⟨by omega, rfl⟩⟩
                    have HRN := Lib.hid hRI
                    clear hq6 hz6 hzc hb6 hbl hbl2 hown6 hRI ho hgr
                    go_wp2_with (first | go_region | fail)
                    go_roundw
                    case rel => exact ⟨1, cellsN n2, n0, n2, _, data ++ D, rfl, rfl, by first | rfl | (rw [hp0]; rfl), HRN.out⟩
                    case measure => simp [intOf]; omega
                  · have hp0y : ((n3 : Int) == 0) = false := by simp; omega
                    by_cases hsz : n2 = size
                    · subst hsz
                      have hszy : ((n2 : Int) != (n2 : Int)) = false := by simp
                      have hR := HST.out
                      rw [if_neg hp0, if_pos rfl] at hR
                      have hD : (((L j).take 63).drop 23).length = 40 := by rw [List.length_drop, List.length_take, h64]; rfl
                      obtain ⟨D, hDD⟩ : ∃ D, ((L j).take 63).drop 23 = D := ⟨_, rfl⟩
                      rw [hDD] at hR hD
                      have HRR := Lib.hid hR
                      have HDL := Lib.hid hD
                      have hdrow := HDR.out hw
                      rw [hDD] at hdrow
                      have HDB := Lib.hid hdrow.lt
                      obtain ⟨ax, len, cp, e, hl, hcc, hm, hwl, hnn, hcell⟩ := hdrow
                      obtain ⟨rfl, rfl, rfl⟩ : ra = ax ∧ rl = len ∧ rc = cp := by simpa using e
                      rw [hD] at hl
                      subst hl
                      obtain ⟨x, rfl⟩ : ∃ x, ra = some x := by
                        cases ra with
                        | none => have := (hnn rfl).1; omega
                        | some x => exact ⟨x, rfl⟩
                      have hnews : ∀ j u, (u8s D)[j]? = some u → wc.cell? (x.add j) = some u := by
                        intro j u hj
                        have hjl : j < D.length := by have := (List.getElem?_eq_some_iff.1 hj).1; simpa using this
                        rw [u8s_get D j hjl] at hj
                        cases hj
                        exact hcell x rfl j hjl
                      have one : ∀ u ∈ u8s D, u.oneCell' = true := by
                        intro u hu
                        obtain ⟨_, _, rfl⟩ := List.mem_map.1 hu
                        rfl
                      have Hone := Lib.hid one
                      have Hnews := Lib.hid hnews
                      obtain ⟨i0, hi, hz0, hz1, hz2⟩ := info_parts Try.info5
                      have HI5 := Lib.hid hi
                      have hown : OwnB wc w.heap.size dv data := ownsRow_below HRI.out.own HBC.out
                      obtain ⟨da, dc, rfl⟩ := hown.shape
                      have HOW := Lib.hid hown
                      have HLN := Lib.hid HRI.out.len
                      have e3c := cell_of_row wc q 3 _ _ _ HQC.out
                      simp only [List.getElem?_toArray, List.getElem?_cons_zero, List.getElem?_cons_succ] at e3c
                      have HSZ : Hid (w.heap.size ≤ wc.heap.size) := Lib.hid (Nat.le_trans HRI.out.below.size HBC.out.size)
                      clear hR hD hDD e hcc hm hwl hnn hcell hnews one hi hown y0 y1 y2 y3 f0 f1 f2 f3
                      go_wp2_with (first
                        | go_region
                        | (at_builtin; go_loud (refine wpList_append_own _ rfl (.tmp 100) (.tmp 102) 34 rfl (w.heap.size) 5 i0 (.int .u8 0) 1 1 Try.underlying34 HI5.out hz0 hz1 hz2 rfl (by decide) (.slice da data.length dc) data.length (u8s data) rfl HOW.out x 40 rc (u8s D) rfl (by rw [u8s_length, HDL.out]) Hnews.out Hone.out (by have := HLN.out; unfold maxLen; omega) (by have := HLN.out; omega) HSZ.out ?_)))
                      intro o w6 ho hgr _
                      obtain ⟨oa, oc, rfl⟩ := own_shape ho
                      have hq6 := (hgr.block q (lt_of_block HQC.out) (fun e => ownsRow_ne (e := 5) HOW.out HQC.out (by decide) q e.symm rfl)).trans HQC.out
                      have hzc := (HBC.out.block w.heap.size (lt_of_block HRI.out.zero)).trans HRI.out.zero
                      have hz6 := (hgr.block w.heap.size (lt_of_block hzc) (fun e => ownsRow_ne (e := 5) HOW.out hzc (by decide) w.heap.size e.symm rfl)).trans hzc
                      have g3 := frozen_of_row w6 q 3 _ _ hq6
                      have x3 := cell_of_row w6 q 3 _ _ _ hq6
                      simp only [List.getElem?_toArray, List.getElem?_cons_zero, List.getElem?_cons_succ] at x3
                      have hqw : w.heap.size ≤ q := by have := HQQ.out; omega
                      have hb6 : Beside (fun k => k = q) w6 (w6.setCell ⟨q, 3, none⟩ (.slice oa (data.length + 40) oc)) := (Beside.refl (fun k => k = q) w6).setCell (p := ⟨q, 3, none⟩) (.inl rfl) _
                      have hbl : Below w.heap.size w w6 := (HRI.out.below.trans (HBC.out.mono HRI.out.below.size)).grown hgr HSZ.out (fun k hk => (World.ownsRow.lt HOW.out k hk).1)
                      have hbl2 := hbl.trans (hb6.below (fun k hk => by rw [hk]; exact hqw) hbl.size)
                      have hown6 : OwnB w6 w.heap.size (.slice oa (data.length + 40) oc) (data ++ D) := by
                        unfold OwnB
                        rw [List.length_append, HDL.out, u8s_append]
                        exact ho
                      have hRI : RecI w (w6.setCell ⟨q, 3, none⟩ (.slice oa (data.length + 40) oc)) q s L R (n3 + 1) cells n0 n2 (.slice oa (data.length + 40) oc) (data ++ D) :=
                        ⟨hbl2, (Below.heap_setCell w6 ⟨q, 3, none⟩ _ w.heap.size HXQ.out.2).trans hz6, heap_setCell_same w6 q 3 _ 80 _ hq6, ownB_beside80 hown6 hb6 hq6, HRR.out, hpc, hcl, by rw [List.length_append, HDL.out, HLN.out]; omega, HRI.out.sz,
                          fun n hn => by rcases List.mem_append.1 hn with hn | hn; exact HRI.out.lt n hn; exact HDB.out n hn, .inr ⟨by omega, by rcases HRI.out.of with h | h; omega; exact h.2⟩⟩
                      have HRN := Lib.hid hRI
                      clear hq6 hz6 hzc hb6 hbl hbl2 hown6 hRI ho hgr
                      go_wp2_with (first | go_region | fail)
                      go_roundw
                      case rel => exact ⟨n3 + 1, cells, n0, n2, _, data ++ D, rfl, rfl, by go_num, HRN.out⟩
                      case measure => simp [intOf]; omega
                    · have hszy : ((n2 : Int) != (size : Int)) = true := by simp; omega
                      go_wp2_with (first | go_region | fail)
                      refine bodyPost_ret (rec_ret _ _ w.heap.size _ _ _ rfl rfl rfl rfl HE.out) rfl ⟨?_, ?_⟩
                      · have hR := HST.out
                        rw [if_neg hp0, if_neg hsz] at hR
                        rw [← hR]; rfl
                      · exact HBE.out
                · have hb2z : (n2 : Int) > 65536 := by omega
                  go_wp2_with (first | go_region | fail)
                  refine bodyPost_ret (rec_ret _ _ w.heap.size _ _ _ rfl rfl rfl rfl HE.out) rfl ⟨?_, ?_⟩
                  · rw [HFAIL.out (by unfold fitC; have := HN.out.2.2.1; simp [cellV, hw] at this; rw [this]; simp [hb2])]; rfl
                  · exact HBE.out
              · have hb3z : ((n3 : Int) == (part : Int)) = false := by simp; omega
                have hb3y : ((n3 : Int) != (part : Int)) = true := by simp; omega
                go_wp2_with (first | go_region | fail)
                refine bodyPost_ret (rec_ret _ _ w.heap.size _ _ _ rfl rfl rfl rfl HE.out) rfl ⟨?_, ?_⟩
                · rw [HFAIL.out (by unfold fitC; have := HN.out.2.2.2.1; simp [cellV, hw] at this; rw [this]; simp [hb3])]; rfl
                · exact HBE.out
            · have hb1z : ((n1 : Int) == (last : Int)) = false := by simp; omega
              have hb1y : ((n1 : Int) != (last : Int)) = true := by simp; omega
              go_wp2_with (first | go_region | fail)
              refine bodyPost_ret (rec_ret _ _ w.heap.size _ _ _ rfl rfl rfl rfl HE.out) rfl ⟨?_, ?_⟩
              · rw [HFAIL.out (by unfold fitC; have := HN.out.2.1; simp [cellV, hw] at this; rw [this]; simp [hb1])]; rfl
              · exact HBE.out
    · obtain rfl : part = cells := by omega
      by_cases hfull : s.ring < g
      · have hfz : (g : Int) > (s.ring : Int) := by omega
        clear hg
        have HZ := HRI.out.zero
        have HE := Lib.hid (set4_block HZ (.int .i64 0) (.int .u64 0) (.int .i64 0) (.slice none 0 0))
        have HBE := Lib.hid (HRI.out.below.trans ((set4_beside wr w.heap.size (.int .i64 0) (.int .u64 0) (.int .i64 0) (.slice none 0 0)).below (fun k hk => by rw [hk]; exact Nat.le_refl _) HRI.out.below.size))
        clear HZ
        go_wp2_with (first | go_region | fail)
        have hR : R = none := by
          rw [← HRI.out.fn, show 3000 - part = (3000 - part - 1) + 1 by omega, recR, if_neg (by omega), if_pos (by rw [HG.out]; exact hfull)]
        refine bodyPost_ret (rec_ret _ _ w.heap.size _ _ _ rfl rfl rfl rfl HE.out) rfl ⟨?_, ?_⟩
        · rw [hR]; rfl
        · exact HBE.out.drew
      · have hfz : ¬ (g : Int) > (s.ring : Int) := by omega
        have hlen := HRI.out.len
        have hsz : size ≤ data.length := by
          have := HRI.out.of
          unfold cellsN at this
          omega
        have hpos : 0 < part := by have := HRI.out.of; unfold cellsN at this; omega
        have hrow : RowB wr dv data := HRI.out.own.rowB HRI.out.lt
        obtain ⟨a, ca, rfl⟩ := HRI.out.own.shape
        obtain ⟨dl, hdl⟩ : ∃ dl, data.length = dl := ⟨_, rfl⟩
        have HDL := Lib.hid hdl
        obtain ⟨bb, hbb⟩ : ∃ bb, a = some bb := by
          obtain ⟨a', len', cap', e, k1, k2, k3, k4, k5, k6⟩ := hrow
          obtain ⟨rfl, rfl, rfl⟩ : a = a' ∧ data.length = len' ∧ ca = cap' := by simpa using e
          cases a with
          | none => have := (k5 rfl).1; omega
          | some x => exact ⟨x, rfl⟩
        subst hbb
        have hcap : data.length ≤ ca := by
          obtain ⟨a', len', cap', e, k1, k2, k3, k4, k5, k6⟩ := hrow
          simp at e
          omega
        have hcz : (size : Int) ≤ (ca : Int) := by omega
        have HCL := Lib.hid (fun W2 (hb : Below wr.heap.size wr W2) => clone_any (.slice (some bb) size ca) (data.take size) W2 (by
          have := (rowB_part hrow 0 size (Nat.zero_le _) hsz).1
          rw [List.drop_zero, Nat.sub_zero, Nat.sub_zero] at this
          simp only [Option.map_some] at this
          have e : bb.add 0 = bb := by simp [Addr.add]
          rw [e] at this
          exact this.below hb) (by simp; omega))
        have HTL : Hid ((data.take size).length = size) := Lib.hid (by rw [List.length_take]; omega)
        have hqn := HXQ.out.2
        have hqn2 : ¬ q = w.heap.size := fun e => hqn e.symm
        have HQN := Lib.hid hqn
        have HBD := Lib.hid ((Below.refl wr.heap.size wr).drew)
        clear hg hrow e0 e1 e2 e3 y0 y1 y2 y3 f0 f1 f2 f3 hsz hlen hdl
        have e2 := cell_of_row wr q 2 _ _ _ HRI.out.ent
        have e3 := cell_of_row wr q 3 _ _ _ HRI.out.ent
        simp only [List.getElem?_toArray, List.getElem?_cons_zero, List.getElem?_cons_succ] at e2 e3
        go_wp2_with (first
          | go_region
          | (go_at_call 61; refine (HCL.out _ (by with_reducible exact HBD.out)).mono ?_; rintro e w5 ⟨o, rfl, ho, hb5⟩
             have hb5 : Below wr.heap.size wr w5 := HBD.out.trans hb5
             have ho : OwnB w5 wr.heap.size o (data.take size) := ho
             obtain ⟨oa, oc, rfl⟩ := ho.shape
             rw [HTL.out] at ho
             rw [HTL.out]
             have hq5 := (hb5.block q (lt_of_block HRI.out.ent)).trans HRI.out.ent
             have hz5 := (hb5.block w.heap.size (lt_of_block HRI.out.zero)).trans HRI.out.zero
             have g3 := frozen_of_row w5 q 3 _ _ hq5
             have x0 := cell_of_row w5 q 0 _ _ _ hq5
             have x1 := cell_of_row w5 q 1 _ _ _ hq5
             have x2 := cell_of_row w5 q 2 _ _ _ hq5
             have x3 := cell_of_row w5 q 3 _ _ _ hq5
             have y0 := cell_of_row w5 w.heap.size 0 _ _ _ hz5
             have y1 := cell_of_row w5 w.heap.size 1 _ _ _ hz5
             have y2 := cell_of_row w5 w.heap.size 2 _ _ _ hz5
             have y3 := cell_of_row w5 w.heap.size 3 _ _ _ hz5
             simp only [List.getElem?_toArray, List.getElem?_cons_zero, List.getElem?_cons_succ] at x0 x1 x2 x3 y0 y1 y2 y3
             have f0 := frozen_of_row w5 w.heap.size 0 _ _ hz5
             have f1 := frozen_of_row w5 w.heap.size 1 _ _ hz5
             have f2 := frozen_of_row w5 w.heap.size 2 _ _ hz5
             have f3 := frozen_of_row w5 w.heap.size 3 _ _ hz5
             have HQ5 := Lib.hid hq5
             have HZ5 := Lib.hid hz5
             have HB5 := Lib.hid (HRI.out.below.trans (hb5.mono HRI.out.below.size))
             have HO5 := Lib.hid (owns_mono ho HRI.out.below.size)
             clear ho hb5 hq5 hz5))
        have hz6 := (Below.heap_setCell w5 ⟨q, 3, none⟩ (.slice oa size oc) w.heap.size HQN.out).trans HZ5.out
        have hb6 : Beside (fun k => k = q) w5 (w5.setCell ⟨q, 3, none⟩ (.slice oa size oc)) := (Beside.refl (fun k => k = q) w5).setCell (p := ⟨q, 3, none⟩) (.inl rfl) _
        have HB6 := HB5.out.trans (hb6.below (fun k hk => by rw [hk]; have := HQQ.out; omega) HB5.out.size)
        have HO6 := ownB_beside80 HO5.out hb6 HQ5.out
        have HE := Lib.hid (set4_block hz6 (.int .i64 (s.place : Nat)) (.int .u64 (s.last : Nat)) (.int .i64 (part : Nat)) (.slice oa size oc))
        have b4 := set4_beside (w5.setCell ⟨q, 3, none⟩ (.slice oa size oc)) w.heap.size (.int .i64 (s.place : Nat)) (.int .u64 (s.last : Nat)) (.int .i64 (part : Nat)) (.slice oa size oc)
        have HBE := Lib.hid (HB6.trans (b4.below (fun k hk => by rw [hk]; exact Nat.le_refl _) HB6.size))
        have HOE := Lib.hid (ownB_beside80 HO6 b4 hz6)
        have hR : R = some (part, last, data.take size) := by
          rw [← HRI.out.fn, show 3000 - part = (3000 - part - 1) + 1 by omega, recR, if_neg (by omega), if_neg (by rw [HG.out]; exact hfull)]
        refine bodyPost_ret (rec_ret _ _ w.heap.size _ _ _ rfl rfl rfl rfl HE.out) rfl ⟨?_, ?_⟩
        · rw [hR]; exact ⟨_, rfl, HOE.out⟩
        · exact HBE.out
end Go.Proofs.Ytmkedanlpapndaa
