/-
  The contract of the reference's Parse: a text of the form's length and signs, up to the fields' numbers.
-/
import Derived.Test.YthcgdbmcpnmeeaaRParse
import Derived.Laws.ResultCell
namespace Go.Proofs.Ythcgdbmcpnmeeaa
set_option linter.unusedVariables false
open Go.RowKit

theorem alloc_drewN (w : World) (n : Nat) (o : Obj) : (w.drewN n).alloc o = (w.alloc o).drewN n := rfl
theorem alloc_drew (w : World) (o : Obj) : w.drew.alloc o = (w.alloc o).drew := rfl
theorem setCell_drewN (w : World) (n : Nat) (a : Addr) (v : Value) : (w.drewN n).setCell a v = (w.setCell a v).drewN n := rfl
theorem setCell_twice (w : World) (blk off : Nat) (v v' : Value) : (w.setCell ⟨blk, off, none⟩ v).setCell ⟨blk, off, none⟩ v' = w.setCell ⟨blk, off, none⟩ v' := by
  unfold World.setCell
  simp only
  congr 1
  apply Array.ext_getElem?
  intro i
  simp only [Array.getElem?_modify]
  by_cases h : blk = i
  · subst h
    simp only [if_pos]
    cases w.heap[blk]? with
    | none => rfl
    | some o => cases o <;> simp
  · simp only [if_neg h]
attribute [local go_sem] alloc_drewN alloc_drew setCell_drewN setCell_twice

/-- a post that holds behind a normal end alone -/
def OnlyN (R : Act → World → Prop) : Exit → Act → World → Prop
  | .normal, a, w => R a w
  | _, _, _ => False
theorem OnlyN.mk {R : Act → World → Prop} {a : Act} {w : World} (h : R a w) : OnlyN R .normal a w := h
/-- a piece of code behind which the frame is one: its ways meet -/
theorem wp_via {P : Program} {c : Code} {Q : Exit → Act → World → Prop} {a : Act} {w : World} (W : World → Prop) (h : ∃ A, c.wp P (OnlyN fun a' w' => a' = A ∧ W w') a w ∧ ∀ w', W w' → Q .normal A w') : c.wp P Q a w := by
  obtain ⟨A, h1, h2⟩ := h
  exact Code.wp_mono (fun e a' w' h => by cases e <;> first | (obtain ⟨rfl, hw⟩ : a' = A ∧ W w' := h; exact h2 _ hw) | exact (h : False).elim) h1

/-- a stamp's row -/
def StRow (w : World) (q : Nat) (y mo d h mi s z : Int) : Prop := w.heap[q]? = some (.cells (St7 y mo d h mi s z) 23 (0, 0))
theorem StRow.cells {w : World} {q : Nat} {y mo d h mi s z : Int} (r : StRow w q y mo d h mi s z) : StAt w q y mo d h mi s z := StAt.of_row r
theorem StRow.froz {w : World} {q : Nat} {y mo d h mi s z : Int} (r : StRow w q y mo d h mi s z) (j : Nat) : w.frozen? ⟨q, j, none⟩ = false := frozen_of_row _ _ _ _ _ r
theorem StRow.below {w w' : World} {q S : Nat} {y mo d h mi s z : Int} (r : StRow w q y mo d h mi s z) (hb : Below S w w') (hq : q < S) : StRow w' q y mo d h mi s z := by
  unfold StRow; rw [hb.block _ hq]; exact r
theorem StRow.lt {w : World} {q : Nat} {y mo d h mi s z : Int} (r : StRow w q y mo d h mi s z) : q < w.heap.size := (Array.getElem?_eq_some_iff.1 r).1
theorem StRow.set0 {w : World} {q : Nat} {y mo d h mi s z : Int} (r : StRow w q y mo d h mi s z) (x : Int) : StRow (w.setCell ⟨q, 0, none⟩ (.int .i64 x)) q x mo d h mi s z := heap_setCell_same w q 0 _ _ _ r
theorem StRow.set1 {w : World} {q : Nat} {y mo d h mi s z : Int} (r : StRow w q y mo d h mi s z) (x : Int) : StRow (w.setCell ⟨q, 1, none⟩ (.int .i64 x)) q y x d h mi s z := heap_setCell_same w q 1 _ _ _ r
theorem StRow.set2 {w : World} {q : Nat} {y mo d h mi s z : Int} (r : StRow w q y mo d h mi s z) (x : Int) : StRow (w.setCell ⟨q, 2, none⟩ (.int .i64 x)) q y mo x h mi s z := heap_setCell_same w q 2 _ _ _ r
theorem StRow.set6 {w : World} {q : Nat} {y mo d h mi s z : Int} (r : StRow w q y mo d h mi s z) (x : Int) : StRow (w.setCell ⟨q, 6, none⟩ (.int .i64 x)) q y mo d h mi s x := heap_setCell_same w q 6 _ _ _ r

/-- the reference refuses the fields -/
def RBad (A B H M c : Int) (z : Bool) : Prop := A < 0 ∨ (0 ≤ A ∧ B < 0) ∨ (0 ≤ A ∧ 0 ≤ B ∧ H < 0) ∨ (0 ≤ A ∧ 0 ≤ B ∧ 0 ≤ H ∧ M < 0) ∨ (0 ≤ A ∧ 0 ≤ B ∧ 0 ≤ H ∧ 0 ≤ M ∧ 59 < M) ∨ (0 ≤ A ∧ 0 ≤ B ∧ 0 ≤ H ∧ 0 ≤ M ∧ M ≤ 59 ∧ (c != 43) = true ∧ (c != 45) = true) ∨ (0 ≤ A ∧ 0 ≤ B ∧ 0 ≤ H ∧ 0 ≤ M ∧ M ≤ 59 ∧ (c != 43) = true ∧ (c != 45) = false ∧ z = true)
/-- it takes them, with this zone -/
def RGood (A B H M c : Int) (z : Bool) (zone : Int) : Prop := 0 ≤ A ∧ 0 ≤ B ∧ 0 ≤ H ∧ 0 ≤ M ∧ M ≤ 59 ∧ z = false ∧ ((c != 43) = false ∧ (c == 45) = false ∧ zone = 60 * H + M ∨ (c != 43) = true ∧ (c != 45) = false ∧ (c == 45) = true ∧ zone = -(60 * H + M))
def PAns (v : Array Value) (er : Int) (e : Ending) : Prop := e = .returned (.tuple #[.agg v, .int .i64 er])

set_option maxRecDepth 8000 in
set_option maxHeartbeats 4000000 in
theorem rparse_mid (s : ByteArray) (w : World) (hs : s.size = 26) (hall : ∀ q, q < 26 → sepAt s q = true) (tw : Nat → Int) (tz : Int)
    (hT : ∀ i j w, j = i + 2 → i ≤ 24 → Calls Try.prog 19 #[.string (s.extract i j)] w (DrewI (tw i) w)) (hZ : ∀ w, Calls Try.prog 19 #[.string (⟨#[48]⟩ ++ s.extract 1 2)] w (DrewI tz w))
    (hbd : ∀ i, -1 ≤ tw i ∧ tw i ≤ 99) (day mo : Int) (hday : ((s[0].toNat : Int) == 32) = true ∧ day = tz ∨ ((s[0].toNat : Int) == 32) = false ∧ day = tw 0) (hmo : moF (s.extract 3 6) 12 = mo) (V : Array Value) (er : Int)
    (hG : RBad (tw 7) (tw 9) (tw 22) (tw 24) (s[21].toNat : Int) ((s.extract 21 26).toList == [45, 48, 48, 48, 48]) ∧ V = St7 0 0 0 0 0 0 0 ∧ er = 9 ∨
      ∃ zone, RGood (tw 7) (tw 9) (tw 22) (tw 24) (s[21].toNat : Int) ((s.extract 21 26).toList == [45, 48, 48, 48, 48]) zone ∧ (RightS (100 * tw 7 + tw 9) mo day (tw 12) (tw 15) (tw 18) zone ∧ V = St7 (100 * tw 7 + tw 9) mo day (tw 12) (tw 15) (tw 18) zone ∧ er = 0 ∨ ¬ RightS (100 * tw 7 + tw 9) mo day (tw 12) (tw 15) (tw 18) zone ∧ V = St7 0 0 0 0 0 0 0 ∧ er = 9)) :
    Calls Try.prog 8 #[.string s] w fun e w' => PAns V er e ∧ Below w.heap.size w w' := by
  have HBD := Lib.hid hbd
  have HMO := Lib.hid hmo
  have HG := Lib.hid hG
  clear hbd hmo hG
  have HN := Lib.hid hall
  have HT := Lib.hid hT
  have HTZ := Lib.hid hZ
  have HD := Lib.hid hday
  clear hall hT hZ hday
  go_enter Try.func8, Try.ntmps8
  go_wp2_with fail
  have kc := Go.Joins.run_convert_bytes_const_at (P := Try.prog) (w.alloc (.cells z7 23)) 42 5 maskV 26 26 (w.heap.size + 1) (by simp) Try.underlying42 Try.underlying5
  unfold z7 maskV at kc
  rw [kc]
  clear kc
  go_wp2_with fail
  have e0 : mw w = mw w := rfl
  conv at e0 => lhs; unfold mw z7 maskV
  rw [e0]
  clear e0
  have HC := Lib.hid (mw_cell w)
  have HZ := Lib.hid (mw_z7 w)
  have HB := Lib.hid (mw_below w)
  have HS := Lib.hid (mw_size w)
  generalize mw w = w0 at *
  go_loop [19] (fun i => ∃ k : Nat, k ≤ 26 ∧ i = .int .i64 k) (fun i => 26 - (intOf i).toNat)
  case atStart => exact ⟨0, by omega, rfl⟩
  case round =>
    obtain ⟨k, hk, rfl⟩ := hrel
    by_cases hlt : k < 26
    · have hc := HC.out k hlt
      rcases sep_ways s k (by omega) with ⟨h1, h2⟩ | ⟨h1, h2, h3⟩
      · clear h1
        generalize maskN k = c at *
        rcases h2 with h2 | ⟨h2, h3⟩
        all_goals
          go_wp2_with fail
          go_round
          case rel => exact ⟨k + 1, by omega, by go_num⟩
          case measure => simp [intOf]; omega
      · rw [HN.out k hlt] at h1; cases h1
    · have hk26 : k = 26 := by omega
      subst hk26
      have hsz := HS.out
      have hbs : w.heap.size < w0.heap.size := by omega
      clear hsz
      go_wp2_with fail
      go_cut [6] (fun p wx => ∃ q, p = .pointer (some ⟨q, 0, none⟩) ∧ w0.heap.size ≤ q ∧ StRow wx q 0 0 (tw 0) (tw 12) (tw 15) (tw 18) 0 ∧ Below w0.heap.size w0 wx)
      case first =>
        refine wp_via (fun w' => ∃ n, w' = (w0.alloc (.cells (St7 0 0 (tw 0) (tw 12) (tw 15) (tw 18) 0) 23)).drewN n) ?_
        apply Exists.intro
        refine ⟨?_, ?_⟩
        · go_region_held3 (fun _ => True) (trivial)
            ((go_at_call 19; refine (HT.out _ _ _ rfl (by decide)).mono ?_; rintro e w2 ⟨rfl, n2, rfl⟩))
          all_goals exact OnlyN.mk ⟨rfl, _, rfl⟩
        · rintro _ ⟨n, rfl⟩
          go_wp2_with fail
          go_meet
          exact ⟨w0.heap.size, rfl, Nat.le_refl _, heap_alloc_new w0 _, below_drewN ((Below.refl _ _).alloc (Nat.le_refl _) _) _⟩
      case rest =>
        obtain ⟨q, hp, hq, hrow, hbx⟩ := hcut
        subst hp
        have HR := Lib.hid hrow
        have HBX := Lib.hid hbx
        clear hrow hbx
        have nq : q ≠ w.heap.size := by omega
        have nq' : w.heap.size ≠ q := by omega
        go_upto_if 50 with (fail)
        go_cut [] (fun wx => StRow wx q 0 0 day (tw 12) (tw 15) (tw 18) 0 ∧ Below w0.heap.size w0 wx)
        case first =>
          rcases HD.out with ⟨hd, rfl⟩ | ⟨hd, rfl⟩
          · obtain ⟨c0, c1, c2, c3, c4, c5, c6⟩ := HR.out.cells
            have f2 := HR.out.froz 2
            clear c0 c1 c3 c4 c5 c6
            go_wp2_with fail
            refine (HTZ.out _).mono ?_
            rintro e w2 ⟨rfl, n2, rfl⟩
            go_wp2_with fail
            go_meet
            exact ⟨HR.out.set2 _, below_drewN (HBX.out.setCell (p := ⟨q, 2, none⟩) hq _) _⟩
          · go_wp2_with fail
            go_meet
            exact ⟨HR.out, HBX.out⟩
        case rest =>
          obtain ⟨hrow, hbx⟩ := hcut
          have HR3 := Lib.hid hrow
          have HBX3 := Lib.hid hbx
          clear hrow hbx HR HBX
          go_wp2_with fail
          go_loopw [7] (fun i wr => ∃ k : Nat, k ≤ 12 ∧ i = .int .i64 ((k : Int) + 1) ∧ StRow wr q 0 (moF (s.extract 3 6) k) day (tw 12) (tw 15) (tw 18) 0 ∧ Below w0.heap.size w0 wr) (fun i _ => 13 - (intOf i).toNat)
          case atStart => exact ⟨0, by omega, by rfl, HR3.out, HBX3.out⟩
          case round =>
            obtain ⟨k, hk, rfl, hrow, hbx⟩ := hrel
            have HR1 := Lib.hid hrow
            have HBX1 := Lib.hid hbx
            clear HR3 HBX3 hrow hbx
            by_cases hlt : k < 12
            · have hk1 : (k : Int) + 1 ≤ 12 := by omega
              rcases Bool.eq_false_or_eq_true ((s.extract 3 6).toList == (nameB k).toList) with ht | ht
              · have HM : Hid (moF (s.extract 3 6) (k + 1) = (k : Int) + 1) := Lib.hid (by unfold moF; rw [if_pos ht])
                obtain ⟨c0, c1, c2, c3, c4, c5, c6⟩ := HR1.out.cells
                have f1 := HR1.out.froz 1
                clear c0 c2 c3 c4 c5 c6
                go_wp2_with fail
                go_quiet ((go_at_call 20; exact Calls.quiet_of_same ((rmonth_any k _ hlt).mono fun e w' h => ⟨h.1, h.2.symm⟩)))
                go_wp2_with fail
                go_roundw
                case rel => exact ⟨k + 1, by omega, by go_num, by rw [HM.out]; exact HR1.out.set1 _, below_drewN (HBX1.out.setCell (p := ⟨q, 1, none⟩) hq _) _⟩
                case measure => simp [intOf]; omega
              · have HM : Hid (moF (s.extract 3 6) (k + 1) = moF (s.extract 3 6) k) := Lib.hid (by conv => lhs; unfold moF; rw [if_neg (by rw [ht]; decide)])
                go_wp2_with fail
                go_quiet ((go_at_call 20; exact Calls.quiet_of_same ((rmonth_any k _ hlt).mono fun e w' h => ⟨h.1, h.2.symm⟩)))
                go_wp2_with fail
                go_roundw
                case rel => exact ⟨k + 1, by omega, by go_num, by rw [HM.out]; exact HR1.out, below_drewN HBX1.out _⟩
                case measure => simp [intOf]; omega
            · have hk12 : k = 12 := by omega
              subst hk12
              clear hlt hk
              go_wp2_with fail
              go_quiet ((go_at_call 19; exact Calls.quiet_of (HT.out _ _ _ rfl (by decide))))
              have HR2 : Hid (StRow (wr.drewN nq) q 0 mo day (tw 12) (tw 15) (tw 18) 0) := Lib.hid (by rw [← HMO.out]; exact HR1.out)
              have HB2 : Hid (Below w0.heap.size w0 (wr.drewN nq)) := Lib.hid (below_drewN HBX1.out _)
              clear HR1 HBX1 HMO
              generalize wr.drewN nq = wx at *
              have HRZ : Hid (StRow wx w.heap.size 0 0 0 0 0 0 0) := Lib.hid (StRow.below (S := w0.heap.size) HZ.out HB2.out hbs)
              have HBW : Hid (Below w.heap.size w wx) := Lib.hid (HB.out.trans (HB2.out.mono (by omega)))
              obtain ⟨l7, m7⟩ := HBD.out 7
              obtain ⟨l9, m9⟩ := HBD.out 9
              obtain ⟨l22, m22⟩ := HBD.out 22
              obtain ⟨l24, m24⟩ := HBD.out 24
              rcases HG.out with ⟨hbad, rfl, rfl⟩ | ⟨zone, hgood, hans⟩
              · rcases hbad with h1 | ⟨h1, h2⟩ | ⟨h1, h2, h3⟩ | ⟨h1, h2, h3, h4⟩ | ⟨h1, h2, h3, h4, h5⟩ | ⟨h1, h2, h3, h4, h5, h6, h7⟩ | ⟨h1, h2, h3, h4, h5, h6, h7, h8⟩
                all_goals
                  try (have x1 : decide (tw 7 < 0) = false := (by simp; omega))
                  try (have x2 : decide (tw 9 < 0) = false := (by simp; omega))
                  try (have x3 : decide (tw 22 < 0) = false := (by simp; omega))
                  try (have x4 : decide (tw 24 < 0) = false := (by simp; omega))
                  try (have x5 : decide (59 < tw 24) = false := (by simp; omega))
                  obtain ⟨g0, g1, g2, g3, g4, g5, g6⟩ := HRZ.out.cells
                  have k0 := HRZ.out.froz 0
                  have k1 := HRZ.out.froz 1
                  have k2 := HRZ.out.froz 2
                  have k3 := HRZ.out.froz 3
                  have k4 := HRZ.out.froz 4
                  have k5 := HRZ.out.froz 5
                  have k6 := HRZ.out.froz 6
                  go_wp2_with fail
                  have hfin := put7_row wx w.heap.size 0 0 0 0 0 0 0 HRZ.out
                  refine bodyPost_ret (v := .tuple #[.agg (St7 0 0 0 0 0 0 0), .int .i64 9]) (parse_ret8 _ _ _ _ _ _ _ _ _ _ _ rfl rfl hfin) rfl ⟨rfl, ?_⟩
                  exact put7_below _ _ _ _ _ _ _ _ HBW.out (Nat.le_refl _)
              · obtain ⟨h1, h2, h3, h4, h5, hz0, hs0⟩ := hgood
                have x1 : decide (tw 7 < 0) = false := (by simp; omega)
                have x2 : decide (tw 9 < 0) = false := (by simp; omega)
                have x3 : decide (tw 22 < 0) = false := (by simp; omega)
                have x4 : decide (tw 24 < 0) = false := (by simp; omega)
                have x5 : decide (59 < tw 24) = false := (by simp; omega)
                have hqx := HR2.out.lt
                rcases hs0 with ⟨s1, s2, rfl⟩ | ⟨s1, s2, s3, rfl⟩
                · rcases hans with ⟨hr, rfl, rfl⟩ | ⟨hr, rfl, rfl⟩
                  · have HRR := Lib.hid hr
                    clear hr
                    obtain ⟨c0, c1, c2, c3, c4, c5, c6⟩ := HR2.out.cells
                    have f0 := HR2.out.froz 0
                    have f6 := HR2.out.froz 6
                    go_wp2_with fail
                    refine (rright_yes _ _ _ _ _ _ _ _ HRR.out).mono ?_
                    rintro e w3 ⟨rfl, hb3⟩
                    have hbq : Below q wx w3 := (((Below.refl q wx).setCell (p := ⟨q, 0, none⟩) (Nat.le_refl _) _).setCell (p := ⟨q, 6, none⟩) (Nat.le_refl _) _).trans (hb3.mono (by simp; omega))
                    have HT3 : StRow w3 q (100 * tw 7 + tw 9) mo day (tw 12) (tw 15) (tw 18) (60 * tw 22 + tw 24) := ((HR2.out.set0 _).set6 _).below hb3 (by simp; exact hqx)
                    have HZ3 := HRZ.out.below hbq (by omega)
                    have HB3 : Hid (Below w.heap.size w w3) := Lib.hid (HBW.out.trans (hbq.mono (by omega)))
                    clear c0 c1 c2 c3 c4 c5 c6 f0 f6 hbq hb3
                    obtain ⟨c0, c1, c2, c3, c4, c5, c6⟩ := HT3.cells
                    obtain ⟨g0, g1, g2, g3, g4, g5, g6⟩ := HZ3.cells
                    have k0 := HZ3.froz 0
                    have k1 := HZ3.froz 1
                    have k2 := HZ3.froz 2
                    have k3 := HZ3.froz 3
                    have k4 := HZ3.froz 4
                    have k5 := HZ3.froz 5
                    have k6 := HZ3.froz 6
                    have HZ4 := Lib.hid HZ3
                    clear HT3 HZ3
                    go_wp2_with fail
                    have hfin := put7_row w3 w.heap.size (100 * tw 7 + tw 9) mo day (tw 12) (tw 15) (tw 18) (60 * tw 22 + tw 24) HZ4.out
                    refine bodyPost_ret (v := .tuple #[.agg (St7 (100 * tw 7 + tw 9) mo day (tw 12) (tw 15) (tw 18) (60 * tw 22 + tw 24)), .int .i64 0]) (parse_ret8 _ _ _ _ _ _ _ _ _ _ _ rfl rfl hfin) rfl ⟨rfl, ?_⟩
                    exact put7_below _ _ _ _ _ _ _ _ HB3.out (Nat.le_refl _)
                  · have HRR := Lib.hid hr
                    clear hr
                    obtain ⟨c0, c1, c2, c3, c4, c5, c6⟩ := HR2.out.cells
                    have f0 := HR2.out.froz 0
                    have f6 := HR2.out.froz 6
                    go_wp2_with fail
                    refine (rright_no _ _ _ _ _ _ _ _ HRR.out).mono ?_
                    rintro e w3 ⟨rfl, hb3⟩
                    have hbq : Below q wx w3 := (((Below.refl q wx).setCell (p := ⟨q, 0, none⟩) (Nat.le_refl _) _).setCell (p := ⟨q, 6, none⟩) (Nat.le_refl _) _).trans (hb3.mono (by simp; omega))
                    have HT3 : StRow w3 q (100 * tw 7 + tw 9) mo day (tw 12) (tw 15) (tw 18) (60 * tw 22 + tw 24) := ((HR2.out.set0 _).set6 _).below hb3 (by simp; exact hqx)
                    have HZ3 := HRZ.out.below hbq (by omega)
                    have HB3 : Hid (Below w.heap.size w w3) := Lib.hid (HBW.out.trans (hbq.mono (by omega)))
                    clear c0 c1 c2 c3 c4 c5 c6 f0 f6 hbq hb3
                    obtain ⟨c0, c1, c2, c3, c4, c5, c6⟩ := HT3.cells
                    obtain ⟨g0, g1, g2, g3, g4, g5, g6⟩ := HZ3.cells
                    have k0 := HZ3.froz 0
                    have k1 := HZ3.froz 1
                    have k2 := HZ3.froz 2
                    have k3 := HZ3.froz 3
                    have k4 := HZ3.froz 4
                    have k5 := HZ3.froz 5
                    have k6 := HZ3.froz 6
                    have HZ4 := Lib.hid HZ3
                    clear HT3 HZ3
                    go_wp2_with fail
                    have hfin := put7_row w3 w.heap.size 0 0 0 0 0 0 0 HZ4.out
                    refine bodyPost_ret (v := .tuple #[.agg (St7 0 0 0 0 0 0 0), .int .i64 9]) (parse_ret8 _ _ _ _ _ _ _ _ _ _ _ rfl rfl hfin) rfl ⟨rfl, ?_⟩
                    exact put7_below _ _ _ _ _ _ _ _ HB3.out (Nat.le_refl _)
                · rcases hans with ⟨hr, rfl, rfl⟩ | ⟨hr, rfl, rfl⟩
                  · have HRR := Lib.hid hr
                    clear hr
                    obtain ⟨c0, c1, c2, c3, c4, c5, c6⟩ := HR2.out.cells
                    have f0 := HR2.out.froz 0
                    have f6 := HR2.out.froz 6
                    go_wp2_with fail
                    refine (rright_yes _ _ _ _ _ _ _ _ HRR.out).mono ?_
                    rintro e w3 ⟨rfl, hb3⟩
                    have hbq : Below q wx w3 := (((Below.refl q wx).setCell (p := ⟨q, 0, none⟩) (Nat.le_refl _) _).setCell (p := ⟨q, 6, none⟩) (Nat.le_refl _) _).trans (hb3.mono (by simp; omega))
                    have HT3 : StRow w3 q (100 * tw 7 + tw 9) mo day (tw 12) (tw 15) (tw 18) (-(60 * tw 22 + tw 24)) := ((HR2.out.set0 _).set6 _).below hb3 (by simp; exact hqx)
                    have HZ3 := HRZ.out.below hbq (by omega)
                    have HB3 : Hid (Below w.heap.size w w3) := Lib.hid (HBW.out.trans (hbq.mono (by omega)))
                    clear c0 c1 c2 c3 c4 c5 c6 f0 f6 hbq hb3
                    obtain ⟨c0, c1, c2, c3, c4, c5, c6⟩ := HT3.cells
                    obtain ⟨g0, g1, g2, g3, g4, g5, g6⟩ := HZ3.cells
                    have k0 := HZ3.froz 0
                    have k1 := HZ3.froz 1
                    have k2 := HZ3.froz 2
                    have k3 := HZ3.froz 3
                    have k4 := HZ3.froz 4
                    have k5 := HZ3.froz 5
                    have k6 := HZ3.froz 6
                    have HZ4 := Lib.hid HZ3
                    clear HT3 HZ3
                    go_wp2_with fail
                    have hfin := put7_row w3 w.heap.size (100 * tw 7 + tw 9) mo day (tw 12) (tw 15) (tw 18) (-(60 * tw 22 + tw 24)) HZ4.out
                    refine bodyPost_ret (v := .tuple #[.agg (St7 (100 * tw 7 + tw 9) mo day (tw 12) (tw 15) (tw 18) (-(60 * tw 22 + tw 24))), .int .i64 0]) (parse_ret8 _ _ _ _ _ _ _ _ _ _ _ rfl rfl hfin) rfl ⟨rfl, ?_⟩
                    exact put7_below _ _ _ _ _ _ _ _ HB3.out (Nat.le_refl _)
                  · have HRR := Lib.hid hr
                    clear hr
                    obtain ⟨c0, c1, c2, c3, c4, c5, c6⟩ := HR2.out.cells
                    have f0 := HR2.out.froz 0
                    have f6 := HR2.out.froz 6
                    go_wp2_with fail
                    refine (rright_no _ _ _ _ _ _ _ _ HRR.out).mono ?_
                    rintro e w3 ⟨rfl, hb3⟩
                    have hbq : Below q wx w3 := (((Below.refl q wx).setCell (p := ⟨q, 0, none⟩) (Nat.le_refl _) _).setCell (p := ⟨q, 6, none⟩) (Nat.le_refl _) _).trans (hb3.mono (by simp; omega))
                    have HT3 : StRow w3 q (100 * tw 7 + tw 9) mo day (tw 12) (tw 15) (tw 18) (-(60 * tw 22 + tw 24)) := ((HR2.out.set0 _).set6 _).below hb3 (by simp; exact hqx)
                    have HZ3 := HRZ.out.below hbq (by omega)
                    have HB3 : Hid (Below w.heap.size w w3) := Lib.hid (HBW.out.trans (hbq.mono (by omega)))
                    clear c0 c1 c2 c3 c4 c5 c6 f0 f6 hbq hb3
                    obtain ⟨c0, c1, c2, c3, c4, c5, c6⟩ := HT3.cells
                    obtain ⟨g0, g1, g2, g3, g4, g5, g6⟩ := HZ3.cells
                    have k0 := HZ3.froz 0
                    have k1 := HZ3.froz 1
                    have k2 := HZ3.froz 2
                    have k3 := HZ3.froz 3
                    have k4 := HZ3.froz 4
                    have k5 := HZ3.froz 5
                    have k6 := HZ3.froz 6
                    have HZ4 := Lib.hid HZ3
                    clear HT3 HZ3
                    go_wp2_with fail
                    have hfin := put7_row w3 w.heap.size 0 0 0 0 0 0 0 HZ4.out
                    refine bodyPost_ret (v := .tuple #[.agg (St7 0 0 0 0 0 0 0), .int .i64 9]) (parse_ret8 _ _ _ _ _ _ _ _ _ _ _ rfl rfl hfin) rfl ⟨rfl, ?_⟩
                    exact put7_below _ _ _ _ _ _ _ _ HB3.out (Nat.le_refl _)
end Go.Proofs.Ythcgdbmcpnmeeaa
