/-
  The reference's Lex.
-/
import Derived.Test.YtghibofnfjnfcaaDoorRefC
import Derived.Test.YtghibofnfjnfcaaDoorJoinW
namespace Go.Proofs.YtghibofnfjnfcaaDoor
set_option linter.unusedVariables false
open Go.RowKit

theorem out_bad (O : List Tk) (c : Nat) (r : List Nat) (h1 : singleN c = 0) (h2 : c ≠ 34) (h3 : c ≠ 123) (h4 : inAtomN c = false) : outL (stS O) (c :: r) = (9, []) := by
  have e : (stepL (stS O) c).2 = 9 := by
    show (betS (stS O) c).2 = _
    unfold betS
    rw [if_neg (by rw [h1]; decide), if_neg h2, if_neg h3, h4, if_neg (by decide)]
  rw [outL_cons, if_neg (by rw [e]; decide), e]

theorem cntR_le (r : List Nat) (h : (cntR r).1 = 0) : (cntR r).2.2 ≤ r.length := by
  unfold cntR at h ⊢
  by_cases h1 : 1 < (r.takeWhile digB).length ∧ r.head? = some 48
  · rw [if_pos h1] at h; cases h
  · rw [if_neg h1] at h ⊢
    have h2 := (cntA_pos _ _ h).2
    have h3 : (r.takeWhile digB).length ≤ r.length := by
      have := congrArg List.length (takeWhile_split r).1
      rw [List.length_append] at this
      omega
    simp only [List.length_drop] at h2
    omega

set_option maxRecDepth 100000 in
set_option maxHeartbeats 16000000 in
theorem rlex_any (v : Value) (l : List Nat) (w : World) (hr : RowB w v l) (hl : l.length ≤ 100000) : Calls Tryd.prog 8 #[v] w (LexOut w (lexS l)) := by
  obtain ⟨a, cap, rfl⟩ : ∃ a c, v = .slice a l.length c := by obtain ⟨a, len, c, e, h, _⟩ := hr; exact ⟨a, c, by rw [e, h]⟩
  have HROW := Lib.hid hr
  clear hr
  go_enter Tryd.func8, Tryd.ntmps8
  go_wp2_with fail
  go_loopw [4, 5] (fun ov i wr => ∃ (O : List Tk) (k : Nat), k ≤ l.length ∧ i = .int .i64 (k : Int) ∧ OwnT wr w.heap.size ov O ∧ lexS l = outL (stS O) (l.drop k) ∧ O.length ≤ k ∧ Below w.heap.size w wr) (fun _ i _ => l.length - (intOf i).toNat)
  case atStart => exact ⟨[], 0, Nat.zero_le _, rfl, ownT_nil _ _, rfl, Nat.zero_le _, Below.refl _ _⟩
  case round =>
    obtain ⟨O, k, hk, rfl, ho, hq, hol, hb⟩ := hrel
    obtain ⟨oa, oc, eo⟩ := ho.shape
    subst eo
    have HQ := Lib.hid hq
    have HO := Lib.hid ho
    have HB := Lib.hid hb
    have hbs := hb.size
    clear hq ho hb
    by_cases hlt : k < l.length
    · obtain ⟨lb, lo, ha, hcap, hcell⟩ := row_addr (HROW.out.below HB.out) (by omega)
      subst ha
      obtain ⟨c, hc⟩ : ∃ c, l[k] = c := ⟨_, rfl⟩
      have hcc := hcell k hlt
      rw [hc] at hcc
      have hcb : c < 256 := by rw [← hc]; exact HROW.out.lt _ (List.getElem_mem hlt)
      have hdr : l.drop k = c :: l.drop (k + 1) := by rw [List.drop_eq_getElem_cons hlt, hc]
      have HQ2 := Lib.hid (HQ.out.trans (by rw [hdr]) : lexS l = outL (stS O) (c :: l.drop (k + 1)))
      have HC := Lib.hid hc
      have HCELL := Lib.hid hcell
      have HAL := Lib.hid (alone_any c hcb)
      have HAT := Lib.hid (ratom_any c hcb)
      clear hdr hcell hc
      by_cases h0 : singleN c = 0
      · rw [h0] at HAL
        cases hat : inAtomN c
        · rw [hat] at HAT
          by_cases h34 : c = 34
          · subst h34
            clear h0 hat
            go_wp2_with fail
            refine (HAL.out _).mono ?_
            rintro e w2 ⟨rfl, rfl⟩
            go_wp2_with fail
            refine (HAT.out _).mono ?_
            rintro e w2 ⟨rfl, rfl⟩
            go_upto_region 15 with fail
            go_cut [8, 9, 10] (fun sv nv ev wx => sv = .string (strN (quoF [] 0 (l.drop (k + 1))).2.1) ∧ nv = .int .i64 (((quoF [] 0 (l.drop (k + 1))).2.2 : Nat) : Int) ∧ ev = .int .i64 (((quoF [] 0 (l.drop (k + 1))).1 : Nat) : Int) ∧ Below wr.heap.size wr wx)
            case first =>
              have hrow := HROW.out.below HB.out
              have hdl : (l.drop (k + 1)).length = l.length - (k + 1) := by simp
              have HDL := Lib.hid hdl
              by_cases hce : cap = k + 1
              · subst hce
                have hr2 := hrow.tail_end (k := k + 1) rfl (by omega) (by simp)
                have HR2 := Lib.hid hr2
                have hl0 : l.length - (k + 1) = 0 := by omega
                have HL0 := Lib.hid hl0
                have hcall : Calls Tryd.prog 17 #[.slice (some ⟨lb, lo, none⟩) 0 0] wr (TextOut wr (quoF [] 0 (l.drop (k + 1)))) := quoted_ref _ (l.drop (k + 1)) wr (by have := HR2.out; rw [HL0.out] at this; exact this) (by rw [HDL.out]; omega)
                have HCALL := Lib.hid hcall
                have gl : (l.length : Int) = (k : Int) + 1 := by omega
                clear hr2 hl0 hcall hrow hdl
                go_wp2_with fail
                refine HCALL.out.mono ?_
                rintro e w4 ⟨rfl, hb4⟩
                go_wp2_with fail
                go_meet
                exact ⟨rfl, rfl, rfl, hb4⟩
              · have hr2 := row_part hrow (k + 1) l.length (by omega) (Nat.le_refl _)
                rw [List.take_of_length_le (by simp)] at hr2
                have HCALL := Lib.hid (quoted_ref _ (l.drop (k + 1)) wr hr2 (by rw [HDL.out]; omega))
                have g5 : (k : Int) + 1 ≤ (l.length : Int) := by omega
                clear hr2 hrow hdl
                go_wp2_with fail
                refine HCALL.out.mono ?_
                rintro e w4 ⟨rfl, hb4⟩
                go_wp2_with fail
                go_meet
                exact ⟨rfl, rfl, rfl, hb4⟩
            case rest =>
              obtain ⟨rfl, rfl, rfl, hb4⟩ := hcut
              have hq := HQ2.out
              rw [out_quote] at hq
              have HQ3 := Lib.hid hq
              have HB4 := Lib.hid (HB.out.trans (hb4.mono hbs))
              have HO4 := Lib.hid (HO.out.same (w' := wc) fun g hg => hb4.block g (ownT_type HO.out g hg).1)
              have hbs4 := HB4.out.size
              have hpos : (quoF [] 0 (l.drop (k + 1))).1 = 0 → (quoF [] 0 (l.drop (k + 1))).2.2 ≤ (l.drop (k + 1)).length := fun h => by have := ((quo_out [] 0 _ _ (Nat.le_refl (l.drop (k + 1)).length) [] 0).2 h).2; omega
              have HPOS := Lib.hid hpos
              clear hq hb4 HQ2 hpos
              generalize quoF [] 0 (l.drop (k + 1)) = q at *
              obtain ⟨e1, t1, n1⟩ := q
              by_cases he : e1 = 0
              · subst he
                have hnn : n1 ≤ (l.drop (k + 1)).length := HPOS.out rfl
                have hdl : (l.drop (k + 1)).length = l.length - (k + 1) := by simp
                rw [hdl] at hnn
                have hq := HQ3.out
                unfold tellQ at hq
                rw [if_pos rfl] at hq
                simp only [Nat.sub_zero, List.drop_drop] at hq
                have HQ4 := Lib.hid hq
                clear hq hdl HQ3 HPOS
                simp only
                go_wp2_with (at_builtin; go_loud (refine applT (by rfl) (.tmp 75) (.tmp 78) rfl (B := w.heap.size) (by simp; omega) (World.ownsRow.alloc HO4.out _) (rowT_one wc 2 t1) rfl rfl (by simp; omega) ?_); intro o5 w5 ho5 hg5; have HB5 : Hid (Below w.heap.size w w5) := Lib.hid ((HB4.out.alloc hbs4 _).grown hg5 (by simp; omega) (fun x hx => ownT_ge HO4.out x hx)); have HO5 := Lib.hid ho5; clear ho5 hg5)
                go_roundw
                case rel => exact ⟨O ++ [(2, t1)], k + 1 + n1, by omega, by go_num, HO5.out, HQ4.out, by simp; omega, HB5.out⟩
                case measure => simp [intOf]; omega
              · have hq := HQ3.out
                unfold tellQ at hq
                rw [if_neg he] at hq
                have HQ4 := Lib.hid hq
                have gn : ¬ ((e1 : Nat) : Int) = 0 := by omega
                have gn2 : (((e1 : Nat) : Int) != 0) = true := by simpa using he
                clear hq he HQ3 HPOS
                simp only
                go_wp2_with fail
                refine bodyPost_ret (v := .tuple #[.slice none 0 0, .int .i64 ((e1 : Nat) : Int)]) (by simp [results, Tryd.results8, go_sem]) rfl ?_
                rw [HQ4.out]
                exact ⟨_, rfl, ownT_nil _ _, HB4.out⟩
          · by_cases h123 : c = 123
            · subst h123
              clear h0 hat h34
              go_wp2_with fail
              refine (HAL.out _).mono ?_
              rintro e w2 ⟨rfl, rfl⟩
              go_wp2_with fail
              refine (HAT.out _).mono ?_
              rintro e w2 ⟨rfl, rfl⟩
              go_upto_region 21 with fail
              go_cut [11, 12, 13] (fun sv nv ev wx => sv = .string (strN (cntR (l.drop (k + 1))).2.1) ∧ nv = .int .i64 (((cntR (l.drop (k + 1))).2.2 : Nat) : Int) ∧ ev = .int .i64 (((cntR (l.drop (k + 1))).1 : Nat) : Int) ∧ Below wr.heap.size wr wx)
              case first =>
                have hrow := HROW.out.below HB.out
                have hdl : (l.drop (k + 1)).length = l.length - (k + 1) := by simp
                have HDL := Lib.hid hdl
                by_cases hce : cap = k + 1
                · subst hce
                  have hr2 := hrow.tail_end (k := k + 1) rfl (by omega) (by simp)
                  have HR2 := Lib.hid hr2
                  have hl0 : l.length - (k + 1) = 0 := by omega
                  have HL0 := Lib.hid hl0
                  have hcall : Calls Tryd.prog 18 #[.slice (some ⟨lb, lo, none⟩) 0 0] wr (TextOut wr (cntR (l.drop (k + 1)))) := counted_ref _ (l.drop (k + 1)) wr (by have := HR2.out; rw [HL0.out] at this; exact this) (by rw [HDL.out]; omega)
                  have HCALL := Lib.hid hcall
                  have gl : (l.length : Int) = (k : Int) + 1 := by omega
                  clear hr2 hl0 hcall hrow hdl
                  go_wp2_with fail
                  refine HCALL.out.mono ?_
                  rintro e w4 ⟨rfl, hb4⟩
                  go_wp2_with fail
                  go_meet
                  exact ⟨rfl, rfl, rfl, hb4⟩
                · have hr2 := row_part hrow (k + 1) l.length (by omega) (Nat.le_refl _)
                  rw [List.take_of_length_le (by simp)] at hr2
                  have HCALL := Lib.hid (counted_ref _ (l.drop (k + 1)) wr hr2 (by rw [HDL.out]; omega))
                  have g5 : (k : Int) + 1 ≤ (l.length : Int) := by omega
                  clear hr2 hrow hdl
                  go_wp2_with fail
                  refine HCALL.out.mono ?_
                  rintro e w4 ⟨rfl, hb4⟩
                  go_wp2_with fail
                  go_meet
                  exact ⟨rfl, rfl, rfl, hb4⟩
              case rest =>
                obtain ⟨rfl, rfl, rfl, hb4⟩ := hcut
                have hq := HQ2.out
                rw [out_brace] at hq
                have HQ3 := Lib.hid hq
                have HB4 := Lib.hid (HB.out.trans (hb4.mono hbs))
                have HO4 := Lib.hid (HO.out.same (w' := wc) fun g hg => hb4.block g (ownT_type HO.out g hg).1)
                have hbs4 := HB4.out.size
                have hpos : (cntR (l.drop (k + 1))).1 = 0 → (cntR (l.drop (k + 1))).2.2 ≤ (l.drop (k + 1)).length := fun h => cntR_le _ h
                have HPOS := Lib.hid hpos
                clear hq hb4 HQ2 hpos
                generalize cntR (l.drop (k + 1)) = q at *
                obtain ⟨e1, t1, n1⟩ := q
                by_cases he : e1 = 0
                · subst he
                  have hnn : n1 ≤ (l.drop (k + 1)).length := HPOS.out rfl
                  have hdl : (l.drop (k + 1)).length = l.length - (k + 1) := by simp
                  rw [hdl] at hnn
                  have hq := HQ3.out
                  unfold tellQ at hq
                  rw [if_pos rfl] at hq
                  simp only [Nat.sub_zero, List.drop_drop] at hq
                  have HQ4 := Lib.hid hq
                  clear hq hdl HQ3 HPOS
                  simp only
                  go_wp2_with (at_builtin; go_loud (refine applT (by rfl) (.tmp 99) (.tmp 102) rfl (B := w.heap.size) (by simp; omega) (World.ownsRow.alloc HO4.out _) (rowT_one wc 3 t1) rfl rfl (by simp; omega) ?_); intro o5 w5 ho5 hg5; have HB5 : Hid (Below w.heap.size w w5) := Lib.hid ((HB4.out.alloc hbs4 _).grown hg5 (by simp; omega) (fun x hx => ownT_ge HO4.out x hx)); have HO5 := Lib.hid ho5; clear ho5 hg5)
                  go_roundw
                  case rel => exact ⟨O ++ [(3, t1)], k + 1 + n1, by omega, by go_num, HO5.out, HQ4.out, by simp; omega, HB5.out⟩
                  case measure => simp [intOf]; omega
                · have hq := HQ3.out
                  unfold tellQ at hq
                  rw [if_neg he] at hq
                  have HQ4 := Lib.hid hq
                  have gn : ¬ ((e1 : Nat) : Int) = 0 := by omega
                  have gn2 : (((e1 : Nat) : Int) != 0) = true := by simpa using he
                  clear hq he HQ3 HPOS
                  simp only
                  go_wp2_with fail
                  refine bodyPost_ret (v := .tuple #[.slice none 0 0, .int .i64 ((e1 : Nat) : Int)]) (by simp [results, Tryd.results8, go_sem]) rfl ?_
                  rw [HQ4.out]
                  exact ⟨_, rfl, ownT_nil _ _, HB4.out⟩
            · have hq := HQ2.out
              rw [out_bad O c _ h0 h34 h123 hat] at hq
              have HQ3 := Lib.hid hq
              have g1 : ¬ (c : Int) = 34 := by omega
              have g2 : ¬ (c : Int) = 123 := by omega
              have g1b : ((c : Int) == 34) = false := beq_false_of_ne g1
              have g2b : ((c : Int) == 123) = false := beq_false_of_ne g2
              clear hq h0 hat h34 h123
              go_wp2_with fail
              refine (HAL.out _).mono ?_
              rintro e w2 ⟨rfl, rfl⟩
              go_wp2_with fail
              refine (HAT.out _).mono ?_
              rintro e w2 ⟨rfl, rfl⟩
              go_wp2_with fail
              refine bodyPost_ret (v := .tuple #[.slice none 0 0, .int .i64 9]) (by simp [results, Tryd.results8, go_sem]) rfl ?_
              rw [HQ3.out]
              exact ⟨_, rfl, ownT_nil _ _, HB.out⟩
        · rw [hat] at HAT
          have HATT := Lib.hid hat
          clear h0 hat
          go_wp2_with fail
          refine (HAL.out _).mono ?_
          rintro e w2 ⟨rfl, rfl⟩
          go_wp2_with fail
          refine (HAT.out _).mono ?_
          rintro e w2 ⟨rfl, rfl⟩
          go_wp2_with fail
          go_loopw [5] (fun i wx => wr = wx ∧ ∃ j : Nat, k ≤ j ∧ j ≤ l.length ∧ i = .int .i64 (j : Int) ∧ ∀ y ∈ (l.drop k).take (j - k), inAtomN y = true) (fun i _ => l.length - (intOf i).toNat)
          case atStart => exact ⟨rfl, k, Nat.le_refl _, by omega, rfl, by simp⟩
          case round =>
            obtain ⟨rfl, j, hkj, hj, rfl, hall⟩ := hrel
            have HALL := Lib.hid hall
            clear hall
            by_cases hjl : j < l.length
            · obtain ⟨d, hd⟩ : ∃ d, l[j] = d := ⟨_, rfl⟩
              have hdc := HCELL.out j hjl
              rw [hd] at hdc
              have hdb : d < 256 := by rw [← hd]; exact HROW.out.lt _ (List.getElem_mem hjl)
              have HD := Lib.hid hd
              have HDA := Lib.hid (ratom_any d hdb)
              clear hd
              cases hda : inAtomN d
              · rw [hda] at HDA
                have hjk : k < j := by
                  by_cases h : k < j
                  · exact h
                  · have : j = k := by omega
                    subst this
                    have h1 := HD.out
                    rw [HC.out] at h1
                    rw [← h1, HATT.out] at hda
                    cases hda
                have HEND : Hid (j = l.length ∨ ∃ h : j < l.length, inAtomN l[j] = false) := Lib.hid (.inr ⟨hjl, by rw [HD.out]; exact hda⟩)
                clear hda
                go_wp2_with fail
                refine (HDA.out _).mono ?_
                rintro e w3 ⟨rfl, rfl⟩
                have hmid := row_part (HROW.out.below HB.out) k j (by omega) hj
                have hstr := run_str hmid
                have HRA := Lib.hid (ref_atom O l k j hjk hj HALL.out HEND.out)
                have gk1 : (0 : Int) ≤ (k : Int) := by omega
                have gk2 : (k : Int) ≤ (j : Int) := by omega
                have gk3 : (j : Int) ≤ (cap : Int) := by omega
                clear hmid
                go_wp2_with (at_builtin; go_loud (refine applT (by rfl) (.tmp 51) (.tmp 58) rfl (B := w.heap.size) (by simp; omega) (World.ownsRow.alloc HO.out _) (rowT_one wr 1 ((l.drop k).take (j - k))) rfl rfl (by simp; omega) ?_); intro o5 w5 ho5 hg5; have HB5 : Hid (Below w.heap.size w w5) := Lib.hid ((HB.out.alloc hbs _).grown hg5 (by simp; omega) (fun x hx => ownT_ge HO.out x hx)); have HO5 := Lib.hid ho5; clear ho5 hg5)
                go_roundw
                case rel => exact ⟨O ++ [(1, (l.drop k).take (j - k))], j, hj, by go_num, HO5.out, by rw [HQ.out, HRA.out], by simp; omega, HB5.out⟩
                case measure => simp [intOf]; omega
              · rw [hda] at HDA
                have hsn : (l.drop k).take (j + 1 - k) = (l.drop k).take (j - k) ++ [d] := by
                  rw [show j + 1 - k = (j - k) + 1 by omega, List.take_succ_eq_append_getElem (by simp; omega)]
                  congr 1
                  simp only [List.getElem_drop]
                  rw [← HD.out]
                  congr 1
                  simp only [show k + (j - k) = j by omega]
                have HSN := Lib.hid hsn
                have HDB := Lib.hid hda
                clear hsn hda
                go_wp2_with fail
                refine (HDA.out _).mono ?_
                rintro e w3 ⟨rfl, rfl⟩
                go_wp2_with fail
                go_roundw
                case rel => exact ⟨by first | rfl | trivial, j + 1, by omega, by omega, by go_num, by rw [HSN.out]; exact mem_snocN (P := fun n => inAtomN n = true) HALL.out HDB.out⟩
                case measure => simp [intOf]; omega
            · obtain rfl : j = l.length := by omega
              have hjk : k < l.length := hlt
              have HEND : Hid (l.length = l.length ∨ ∃ h : l.length < l.length, inAtomN l[l.length] = false) := Lib.hid (.inl rfl)
              have hmid := row_part (HROW.out.below HB.out) k l.length (by omega) hj
              have hstr := run_str hmid
              have HRA := Lib.hid (ref_atom O l k l.length hjk hj HALL.out HEND.out)
              have gk1 : (0 : Int) ≤ (k : Int) := by omega
              have gk2 : (k : Int) ≤ (l.length : Int) := by omega
              have gk3 : (l.length : Int) ≤ (cap : Int) := by omega
              clear hmid
              go_wp2_with (at_builtin; go_loud (refine applT (by rfl) (.tmp 51) (.tmp 58) rfl (B := w.heap.size) (by simp; omega) (World.ownsRow.alloc HO.out _) (rowT_one wr 1 ((l.drop k).take (l.length - k))) rfl rfl (by simp; omega) ?_); intro o5 w5 ho5 hg5; have HB5 : Hid (Below w.heap.size w w5) := Lib.hid ((HB.out.alloc hbs _).grown hg5 (by simp; omega) (fun x hx => ownT_ge HO.out x hx)); have HO5 := Lib.hid ho5; clear ho5 hg5)
              go_roundw
              case rel => exact ⟨O ++ [(1, (l.drop k).take (l.length - k))], l.length, hj, by go_num, HO5.out, by rw [HQ.out, HRA.out], by simp; omega, HB5.out⟩
              case measure => simp [intOf]; omega
      · have hq := HQ2.out
        rw [out_alone O c _ h0] at hq
        have HQ3 := Lib.hid hq
        have g1 : ¬ ((singleN c : Nat) : Int) = 0 := by omega
        have g1b : (((singleN c : Nat) : Int) != 0) = true := by simpa using h0
        clear hq h0
        generalize singleN c = kd at *
        go_wp2_with fail
        refine (HAL.out _).mono ?_
        rintro e w2 ⟨rfl, rfl⟩
        go_wp2_with fail
        refine (HAL.out _).mono ?_
        rintro e w2 ⟨rfl, rfl⟩
        go_wp2_with (at_builtin; go_loud (refine applT (by rfl) (.tmp 26) (.tmp 30) rfl (B := w.heap.size) (by simp; omega) (World.ownsRow.alloc HO.out _) (rowT_one wr kd []) rfl rfl (by simp; omega) ?_); intro o5 w5 ho5 hg5; have HB5 : Hid (Below w.heap.size w w5) := Lib.hid ((HB.out.alloc hbs _).grown hg5 (by simp; omega) (fun x hx => ownT_ge HO.out x hx)); have HO5 := Lib.hid ho5; clear ho5 hg5)
        go_roundw
        case rel => exact ⟨O ++ [(kd, [])], k + 1, by omega, by go_num, HO5.out, HQ3.out, by simp; omega, HB5.out⟩
        case measure => simp [intOf]; omega
    · obtain rfl : k = l.length := by omega
      have hq := HQ.out
      rw [List.drop_length] at hq
      have HQ3 := Lib.hid hq
      clear hq hlt
      go_wp2_with fail
      refine bodyPost_ret (v := .tuple #[.slice oa O.length oc, .int .i64 0]) (by simp [results, Tryd.results8, go_sem]) rfl ?_
      rw [HQ3.out]
      exact ⟨_, rfl, HO.out, HB.out⟩
end Go.Proofs.YtghibofnfjnfcaaDoor
