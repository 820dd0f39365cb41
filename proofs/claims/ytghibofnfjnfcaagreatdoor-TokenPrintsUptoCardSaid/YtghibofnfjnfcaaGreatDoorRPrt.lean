/-
  The reference's Print: the walk.
-/
import Derived.Test.YtghibofnfjnfcaaGreatDoorRefB
namespace Go.Proofs.YtghibofnfjnfcaaGreatDoor
set_option linter.unusedVariables false
open Go.RowKit

/-- 'append(out, c)' of one byte, the row beside -/
theorem run_app8 {w : World} {B : Nat} {v : Value} {l : List Nat} (ty : TypeId) (h : OwnB w B v l) (g : Nat) (z : Int) (n : Nat) (hz : z = (n : Int)) (hc : w.cell? ⟨g, 0, none⟩ = some (.int .u8 z)) (hn : l.length + 1 ≤ 100000000) (hB : B ≤ w.heap.size) :
    ∃ v' w', (Builtin.append_ #[27, 27] ty #[v, .slice (some ⟨g, 0, none⟩) 1 1]).run Tryz.prog w = .ok v' w' ∧ OwnB w' B v' (l ++ [n]) ∧ w.grownBy w' v.ownBlock := by
  subst hz
  obtain ⟨i0, hi, hz0, hz1, hz2⟩ := info_parts Tryz.info5
  obtain ⟨v', w', hr, ho, hg, -⟩ := run_append_own (P := Tryz.prog) w B 27 ty 5 i0 _ 1 1 Tryz.underlying27 hi hz0 hz1 hz2 rfl (by decide) v l.length (u8s l) h ⟨g, 0, none⟩ 1 1 [.int .u8 (n : Nat)] (by simp) (fun j u hj => by
    match j, hj with
    | 0, hj => simp at hj; subst hj; rw [Addr.add_lit]; exact hc) (by simp [Value.oneCell']) (by simp [maxLen]; omega) (by omega) hB
  refine ⟨v', w', hr, ?_, hg⟩
  unfold OwnB
  rw [u8s_append, List.length_append]
  exact ho
theorem app8 {ops : Array Oper} {rest : List Oper} {o : Oper} {a : Act} {Q : Exit → Act → World → Prop} {w : World} (hgd : o.guard = none) (s x : Operand)
    (ho : o.op = .call { callee := .builtin .append, args := #[s, x], argTypes := #[27, 27] }) {v y : Value} (hs : a.eval s = v) (hx : a.eval x = y) {R : Value → World → Prop}
    (hr : ∃ v' w', (Builtin.append_ #[27, 27] o.type #[v, y]).run Tryz.prog w = .ok v' w' ∧ R v' w') (h : ∀ v' w', R v' w' → wpList Tryz.prog ops Q rest (a.put o.dst v') w') : wpList Tryz.prog ops Q (o :: rest) a w := by
  refine wpList_plain hgd fun K hK => ?_
  obtain ⟨v', w', hr, hR⟩ := hr
  unfold Oper.wp
  simp [execOp, ho, resolve, invoke, builtin, hs, hx, hr, Result.andThen]
  exact hK _ _ (h v' w' hR)
/-- in a round: the row, the token's block, the world -/
structure St (w0 : World) (q : Nat) (z : Int) (T : List Nat) (W : World) (o : Value) (l : List Nat) : Prop where
  own : OwnB W w0.heap.size o l
  tok : W.heap[q]? = some (.cells #[.int .i64 z, .string (strN T)] 26 (0, 0))
  bel : Below w0.heap.size w0 W
theorem St.ne {w0 : World} {q : Nat} {z : Int} {T : List Nat} {W : World} {o : Value} {l : List Nat} (h : St w0 q z T W o l) : o.ownBlock ≠ some q := by
  intro e
  rcases h.own.2 with ⟨rfl, _⟩ | ⟨g, cap, cur, rfl, hb, hh, _⟩
  · cases e
  · simp only [Value.ownBlock, Option.some.injEq] at e
    subst e
    have := h.tok
    rw [hh] at this
    simp at this
theorem St.cells {w0 : World} {q : Nat} {z : Int} {T : List Nat} {W : World} {o : Value} {l : List Nat} (h : St w0 q z T W o l) : W.cell? ⟨q, 0, none⟩ = some (.int .i64 z) ∧ W.cell? ⟨q, 1, none⟩ = some (.string (strN T)) :=
  ⟨cell_of_row W q 0 _ _ _ h.tok, cell_of_row W q 1 _ _ _ h.tok⟩
theorem St.app {w0 : World} {q : Nat} {z : Int} {T : List Nat} {W w' : World} {o o' : Value} {l m : List Nat} (h : St w0 q z T W o l) (ho : OwnB w' w0.heap.size o' m) (hg : W.grownBy w' o.ownBlock) : St w0 q z T w' o' m :=
  ⟨ho, by rw [hg.block q (Array.getElem?_eq_some_iff.1 h.tok).1 (fun e => h.ne e.symm)]; exact h.tok, h.bel.grown hg h.bel.size (ownB_ge h.own)⟩
theorem St.below {w0 : World} {q : Nat} {z : Int} {T : List Nat} {W w' : World} {o : Value} {l : List Nat} (h : St w0 q z T W o l) (hb : Below W.heap.size W w') : St w0 q z T w' o l :=
  ⟨h.own.keep hb (owns_ltZ h.own), by rw [hb.block q (Array.getElem?_eq_some_iff.1 h.tok).1]; exact h.tok, h.bel.trans (hb.mono h.bel.size)⟩
theorem St.alloc {w0 : World} {q : Nat} {z : Int} {T : List Nat} {W : World} {o : Value} {l : List Nat} (h : St w0 q z T W o l) (x : Obj) : St w0 q z T (W.alloc x) o l := h.below ((Below.refl _ _).alloc (Nat.le_refl _) x)
theorem St.sz {w0 : World} {q : Nat} {z : Int} {T : List Nat} {W : World} {o : Value} {l : List Nat} (h : St w0 q z T W o l) : w0.heap.size ≤ W.heap.size := h.bel.size
theorem st_new {w0 W : World} {o : Value} {l : List Nat} (h : OwnB W w0.heap.size o l) (hb : Below w0.heap.size w0 W) (z : Int) (T : List Nat) : St w0 W.heap.size z T (W.alloc (.cells #[.int .i64 z, .string (strN T)] 26)) o l :=
  ⟨h.keep ((Below.refl W.heap.size W).alloc (Nat.le_refl _) _) (owns_ltZ h), heap_alloc_new W _, hb.alloc hb.size _⟩
theorem newcell2 (W : World) (A : Obj) (z : Int) : ((W.alloc A).alloc (.cells #[.int .u8 z] 5)).cell? ⟨W.heap.size + 1, 0, none⟩ = some (.int .u8 z) := by
  have := newcell (W.alloc A) z
  rwa [World.size_alloc] at this
theorem show_two (T : List Nat) : showT (2, T) = 34 :: escL T ++ [34] := rfl
theorem show_three (T : List Nat) : showT (3, T) = 123 :: decL T.length ++ [125, 13, 10] ++ T := rfl

set_option maxRecDepth 100000 in
set_option maxHeartbeats 16000000 in
theorem rprint_any (v : Value) (L : List TkI) (w : World) (hL : TkIn w v L) (hb : ∀ t ∈ L, (∀ c ∈ t.2, c < 256) ∧ t.2.length ≤ 1100000) (hn : L.length ≤ 100000000) (hsum : (said L L.length).length ≤ 100000000) :
    Calls Tryz.prog 9 #[v] w (PrintOut w (printL (L.map nrm))) := by
  obtain ⟨a, c, rfl⟩ := hL.shape
  obtain ⟨b, off, hat⟩ := hL.at
  have HAT := Lib.hid hat
  have HBB := Lib.hid hb
  have HSUM := Lib.hid hsum
  clear hL hat hb hsum
  go_enter Tryz.func9, Tryz.ntmps9
  go_wp2_with fail
  go_loopw [4, 5] (fun o i wr => ∃ k : Nat, k ≤ L.length ∧ i = .int .i64 k ∧ OwnB wr w.heap.size o (said L k) ∧ printL ((L.take k).map nrm) = some (said L k) ∧ Below w.heap.size w wr) (fun _ i _ => L.length - (intOf i).toNat)
  case atStart => exact ⟨0, Nat.zero_le _, rfl, World.ownsRow_nil _ _ _ _, rfl, Below.refl _ _⟩
  case round =>
    obtain ⟨k, hk, rfl, hown, hpre, hbel⟩ := hrel
    obtain ⟨oa, oc, ho⟩ := hown.shape
    have HO := Lib.hid hown
    have HP := Lib.hid hpre
    have HB := Lib.hid hbel
    have hsz := hbel.size
    clear hown hpre hbel
    by_cases hkl : k < L.length
    · obtain ⟨rfl, hbw, h1, h2⟩ := HAT.out k hkl
      have hbr : b < wr.heap.size := by omega
      have c1 := (HB.out.cell (p := ⟨b, off + k * 2, none⟩) hbw).trans h1
      have c2 := (HB.out.cell (p := ⟨b, off + k * 2 + 1, none⟩) hbw).trans h2
      have hkz : (k : Int) < (L.length : Int) := by omega
      obtain ⟨hlt, hlen⟩ := HBB.out _ (List.getElem_mem hkl)
      obtain ⟨z, T, hzT⟩ : ∃ z T, L[k] = (z, T) := ⟨_, _, rfl⟩
      have HMEM : Hid ((z, T) ∈ L) := Lib.hid (by rw [← hzT]; exact List.getElem_mem hkl)
      have HLK : Hid (L[k] = (z, T)) := Lib.hid hzT
      have HSAY : Hid (said L (k + 1) = said L k ++ showT (nrm (z, T))) := Lib.hid (by rw [said_next L hkl, hzT])
      have HLE : Hid ((said L k).length + (showT (nrm (z, T))).length ≤ 100000000) := Lib.hid (by
        have h3 := said_le L (k + 1)
        rw [HSAY.out, List.length_append] at h3
        have := HSUM.out
        omega)
      rw [hzT] at c1 c2 hlt hlen
      simp only at c1 c2 hlt hlen
      have HLTT := Lib.hid hlt
      have HNX : Hid (rightT (nrm (z, T)) = true → (∀ p, ((L.take k).map nrm).getLast? = some p → ¬ ((nrm (z, T)).1 = 1 ∧ p.1 = 1)) → printL ((L.take (k + 1)).map nrm) = some (said L (k + 1))) := Lib.hid (fun hr ha => by
        rw [nrm_take L hkl, HLK.out, HSAY.out]
        exact print_snoc HP.out hr ha)
      have HBAD : Hid (rightT (nrm (z, T)) = false → printL (L.map nrm) = none) := Lib.hid (fun hr => print_bad (List.mem_map.2 ⟨_, HMEM.out, rfl⟩) hr)
      have HST0 := Lib.hid (st_new HO.out HB.out z T)
      clear h1 h2 hzT ho
      by_cases hz2 : z = 2
      · subst hz2
        have HRT : Hid (rightT (nrm (2, T)) = quoL T) := Lib.hid rfl
        have HQ := Lib.hid (fun W => rquotable_any T hlt (by omega) W)
        cases hq : quoL T with
        | false =>
          rw [hq] at HQ HRT
          clear hq hlt
          go_wp2_with (go_at_call 20; refine (HQ.out _).mono ?_; rintro e w2 ⟨rfl, rfl⟩)
          refine bodyPost_ret (v := .tuple #[.slice none 0 0, .int .i64 9]) (by simp [results, Tryz.results9, go_sem]) rfl ?_
          exact .inr ⟨HBAD.out HRT.out, rfl, HST0.out.bel⟩
        | true =>
          rw [hq] at HQ HRT
          have HSH : Hid (showT (nrm (2, T)) = 34 :: escL T ++ [34]) := Lib.hid rfl
          have HLN : Hid ((said L k).length + 2 + (escL T).length ≤ 100000000) := Lib.hid (by have := HLE.out; rw [HSH.out] at this; simp at this; omega)
          clear hq hlt
          go_wp2_with (first
            | (go_at_call 20; refine (HQ.out _).mono ?_; rintro e w2 ⟨rfl, rfl⟩)
            | (at_builtin; refine app8 rfl (.tmp 49) (.tmp 50) rfl rfl rfl (run_app8 27 (HST0.out.alloc (.cells #[.int .u8 34] 5)).own (wr.heap.size + 1) 34 34 rfl (newcell2 _ _ 34) (by have := HLN.out; omega) (HST0.out.alloc (.cells #[.int .u8 34] 5)).sz) ?_; rintro o2 w2 ⟨ho2, hg2⟩; have HST := Lib.hid ((HST0.out.alloc (.cells #[.int .u8 34] 5)).app ho2 hg2); clear ho2 hg2))
          generalize wr.heap.size = q at *
          have htl : (strN T).size = T.length := strN_size T
          have HAS : Hid (∀ (k : Nat) (h : k < (strN T).size) (h2 : k < T.length), (strN T)[k].toNat = T[k]) := Lib.hid (fun k h h2 => strN_at HLTT.out k h)
          go_loopw [4, 7] (fun o i wj => ∃ j : Nat, j ≤ T.length ∧ i = .int .i64 j ∧ St w q 2 T wj o (said L k ++ 34 :: escL (T.take j))) (fun _ i _ => T.length - (intOf i).toNat)
          case atStart => exact ⟨0, Nat.zero_le _, rfl, by simpa [escL] using HST.out⟩
          case round =>
            obtain ⟨j, hj, rfl, hst⟩ := hrel
            obtain ⟨q0, q1⟩ := hst.cells
            have HSJ := Lib.hid hst
            clear hst HST HST0
            by_cases hjl : j < T.length
            · have hjz : (j : Int) < (T.length : Int) := by omega
              have hjs : j < (strN T).size := by omega
              obtain ⟨d, hd⟩ : ∃ d, (strN T)[j].toNat = d := ⟨_, rfl⟩
              have hdT : T[j] = d := by rw [← hd]; exact (HAS.out j hjs hjl).symm
              have hd2 : d < 256 := by rw [← hd]; exact ((strN T)[j]).toNat_lt
              have HTK : Hid (T.take (j + 1) = T.take j ++ [d]) := Lib.hid (by rw [take_snoc hjl, hdT])
              have hle := escL_take_le T (j + 1)
              rw [HTK.out, escL_snoc, List.length_append] at hle
              have hlen1 : (said L k ++ 34 :: escL (T.take j)).length = (said L k).length + 1 + (escL (T.take j)).length := by simp; omega
              have HL1 := Lib.hid hlen1
              clear hlen1
              by_cases hd34 : d = 34 ∨ d = 92
              · rw [if_pos hd34] at hle
                have HLL : Hid ((said L k ++ 34 :: escL (T.take j)).length + 2 ≤ 100000000) := Lib.hid (by have := HLN.out; rw [HL1.out]; simp at hle; omega)
                have HES : Hid (said L k ++ 34 :: escL (T.take (j + 1)) = said L k ++ 34 :: escL (T.take j) ++ [92] ++ [d]) := Lib.hid (by rw [HTK.out, escL_snoc, if_pos hd34]; simp)
                clear hle hdT
                generalize said L k ++ 34 :: escL (T.take j) = pre at *
                rcases hd34 with rfl | rfl
                all_goals
                  go_wp2_with (first
                    | (at_builtin; refine app8 rfl (.tmp 71) (.tmp 72) rfl rfl rfl (run_app8 27 (HSJ.out.alloc (.cells #[.int .u8 92] 5)).own _ 92 92 rfl (newcell _ 92) (by have := HLL.out; omega) (HSJ.out.alloc (.cells #[.int .u8 92] 5)).sz) ?_; rintro o2 w2 ⟨ho2, hg2⟩; have HS2 := Lib.hid ((HSJ.out.alloc (.cells #[.int .u8 92] 5)).app ho2 hg2); obtain ⟨r0, r1⟩ := HS2.out.cells; clear ho2 hg2)
                    | (at_builtin; refine app8 rfl (.tmp 74) (.tmp 79) rfl rfl rfl (run_app8 27 (HS2.out.alloc _).own _ _ _ rfl (newcell _ _) (by have := HLL.out; simp; omega) (HS2.out.alloc _).sz) ?_; rintro o3 w3 ⟨ho3, hg3⟩; have HS3 := Lib.hid ((HS2.out.alloc _).app ho3 hg3); clear ho3 hg3))
                  go_roundw
                  case rel => first | exact ⟨j + 1, by omega, by go_num, by rw [HES.out]; exact HS3.out⟩ | ((repeat apply Exists.intro); exact ⟨⟨j + 1, by omega, by go_num, by rw [HES.out]; exact HS3.out⟩, rfl⟩)
                  case measure => simp [intOf]; omega
              · rw [if_neg hd34] at hle
                have HLL : Hid ((said L k ++ 34 :: escL (T.take j)).length + 1 ≤ 100000000) := Lib.hid (by have := HLN.out; rw [HL1.out]; simp at hle; omega)
                have HES : Hid (said L k ++ 34 :: escL (T.take (j + 1)) = said L k ++ 34 :: escL (T.take j) ++ [d]) := Lib.hid (by rw [HTK.out, escL_snoc, if_neg hd34]; simp)
                have g1 : ((d : Int) == 34) = false := beq_false_of_ne (by omega)
                have g2 : ((d : Int) == 92) = false := beq_false_of_ne (by omega)
                have n1 : ¬ d = 34 := by omega
                have n2 : ¬ d = 92 := by omega
                clear hle hdT hd34
                generalize said L k ++ 34 :: escL (T.take j) = pre at *
                go_wp2_with (first
                    | (at_builtin; refine app8 rfl (.tmp 74) (.tmp 79) rfl rfl rfl (run_app8 27 (HSJ.out.alloc _).own _ _ _ rfl (newcell _ _) (by have := HLL.out; omega) (HSJ.out.alloc _).sz) ?_; rintro o3 w3 ⟨ho3, hg3⟩; have HS3 := Lib.hid ((HSJ.out.alloc _).app ho3 hg3); clear ho3 hg3))
                go_roundw
                case rel => first | exact ⟨j + 1, by omega, by go_num, by rw [HES.out]; exact HS3.out⟩ | ((repeat apply Exists.intro); exact ⟨⟨j + 1, by omega, by go_num, by rw [HES.out]; exact HS3.out⟩, rfl⟩)
                case measure => simp [intOf]; omega
            · obtain rfl : j = T.length := by omega
              have hse := HSJ.out
              rw [List.take_length] at hse
              have HSE := Lib.hid hse
              clear hse
              have HFIN : Hid (said L (k + 1) = said L k ++ 34 :: escL T ++ [34]) := Lib.hid (by rw [HSAY.out, HSH.out]; simp)
              have HAP : Hid (∀ p, ((L.take k).map nrm).getLast? = some p → ¬ ((nrm (2, T)).1 = 1 ∧ p.1 = 1)) := Lib.hid (fun p _ h => by cases h.1)
              have HLL : Hid ((said L k ++ 34 :: escL T).length + 1 ≤ 100000000) := Lib.hid (by have := HLN.out; simp; omega)
              go_wp2_with (first
                | (at_builtin; refine app8 rfl (.tmp 81) (.tmp 82) rfl rfl rfl (run_app8 27 (HSE.out.alloc (.cells #[.int .u8 34] 5)).own _ 34 34 rfl (newcell _ 34) HLL.out (HSE.out.alloc (.cells #[.int .u8 34] 5)).sz) ?_; rintro o2 w2 ⟨ho2, hg2⟩; have HSF := Lib.hid ((HSE.out.alloc (.cells #[.int .u8 34] 5)).app ho2 hg2); clear ho2 hg2))
              go_roundw
              case rel => exact ⟨k + 1, by omega, by go_num, by rw [HFIN.out]; exact HSF.out.own, HNX.out HRT.out HAP.out, HSF.out.bel⟩
              case measure => simp [intOf]; omega
      by_cases hz1 : z = 1
      · subst hz1
        have HRT : Hid (rightT (nrm (1, T)) = atomL T) := Lib.hid rfl
        have HQ := Lib.hid (fun W => ratomic_any T hlt (by omega) W)
        have HFIN : Hid (said L (k + 1) = said L k ++ T) := Lib.hid HSAY.out
        have HBND : Hid ((said L k).length + T.length ≤ 100000000) := Lib.hid HLE.out
        clear hz2
        cases hq : atomL T with
        | false =>
          rw [hq] at HQ HRT
          clear hq hlt
          go_wp2_with (go_at_call 12; refine (HQ.out _).mono ?_; rintro e w2 ⟨rfl, rfl⟩)
          refine bodyPost_ret (v := .tuple #[.slice none 0 0, .int .i64 9]) (by simp [results, Tryz.results9, go_sem]) rfl ?_
          exact .inr ⟨HBAD.out HRT.out, rfl, HST0.out.bel⟩
        | true =>
          rw [hq] at HQ HRT
          clear hq hlt
          cases k with
          | zero =>
            have HAP : Hid (∀ p, ((L.take 0).map nrm).getLast? = some p → ¬ ((nrm (1, T)).1 = 1 ∧ p.1 = 1)) := Lib.hid (fun p hp => by simp at hp)
            simp only [Nat.zero_mul, Nat.add_zero] at c1 c2
            go_wp2_with (first | (go_at_call 12; refine (HQ.out _).mono ?_; rintro e w2 ⟨rfl, rfl⟩) | (at_builtin; refine appN rfl (.tmp 39) (.tmp 41) rfl rfl rfl (run_appN 27 HST0.out.own T HLTT.out HBND.out HST0.out.sz) ?_; rintro o2 w2 ⟨ho2, hg2⟩; have HSF := Lib.hid (HST0.out.app ho2 hg2); clear ho2 hg2))
            go_roundw
            case rel => first | exact ⟨0 + 1, by omega, by go_num, by rw [HFIN.out]; exact HSF.out.own, HNX.out HRT.out HAP.out, HSF.out.bel⟩ | ((repeat apply Exists.intro); exact ⟨⟨0 + 1, by omega, by go_num, by rw [HFIN.out]; exact HSF.out.own, HNX.out HRT.out HAP.out, HSF.out.bel⟩, rfl⟩)
            case measure => simp [intOf]; omega
          | succ j =>
            obtain ⟨-, -, h3, -⟩ := HAT.out j (by omega)
            obtain ⟨y, hy⟩ : ∃ y, (L[j]'(by omega)).1 = y := ⟨_, rfl⟩
            rw [hy] at h3
            have cp := (HST0.out.bel.cell (p := ⟨b, off + j * 2, none⟩) hbw).trans h3
            have HY := Lib.hid hy
            clear h3 hy
            by_cases hy1 : y = 1
            · have HB2 : Hid (printL (L.map nrm) = none) := Lib.hid (by
                refine print_side (k := j) (by simpa using hkl) ?_ ?_
                · rw [List.getElem_map]; show kdN _ = 1; rw [HY.out, hy1]; rfl
                · rw [List.getElem_map, HLK.out]; rfl)
              subst hy1
              go_wp2_with (go_at_call 12; refine (HQ.out _).mono ?_; rintro e w2 ⟨rfl, rfl⟩)
              refine bodyPost_ret (v := .tuple #[.slice none 0 0, .int .i64 9]) (by simp [results, Tryz.results9, go_sem]) rfl ?_
              exact .inr ⟨HB2.out, rfl, HST0.out.bel⟩
            · have HAP : Hid (∀ p, ((L.take (j + 1)).map nrm).getLast? = some p → ¬ ((nrm (1, T)).1 = 1 ∧ p.1 = 1)) := Lib.hid (fun p hp hq => by
                rw [nrm_last L (by omega)] at hp
                have hp2 := Option.some.inj hp
                have h2 : kdN (L[j]'(by omega)).1 = 1 := by have := hq.2; rw [← hp2] at this; exact this
                rw [HY.out] at h2
                exact hy1 (by have := kdN_eq h2 (by decide); omega))
              go_wp2_with (first | (go_at_call 12; refine (HQ.out _).mono ?_; rintro e w2 ⟨rfl, rfl⟩) | (at_builtin; refine appN rfl (.tmp 39) (.tmp 41) rfl rfl rfl (run_appN 27 HST0.out.own T HLTT.out HBND.out HST0.out.sz) ?_; rintro o2 w2 ⟨ho2, hg2⟩; have HSF := Lib.hid (HST0.out.app ho2 hg2); clear ho2 hg2))
              go_roundw
              case rel => first | exact ⟨(j + 1) + 1, by omega, by go_num, by rw [HFIN.out]; exact HSF.out.own, HNX.out HRT.out HAP.out, HSF.out.bel⟩ | ((repeat apply Exists.intro); exact ⟨⟨(j + 1) + 1, by omega, by go_num, by rw [HFIN.out]; exact HSF.out.own, HNX.out HRT.out HAP.out, HSF.out.bel⟩, rfl⟩)
              case measure => simp [intOf]; omega
      by_cases hz3 : z = 3
      · subst hz3
        have HRT : Hid (rightT (nrm (3, T)) = litL T) := Lib.hid rfl
        have HQ := Lib.hid (fun W => rliteral_any T hlt (by omega) W)
        have HSH : Hid (showT (nrm (3, T)) = 123 :: decL T.length ++ [125, 13, 10] ++ T) := Lib.hid rfl
        have HFIN : Hid (said L (k + 1) = said L k ++ (123 :: decL T.length ++ [125, 13, 10]) ++ T) := Lib.hid (by rw [HSAY.out, HSH.out]; simp)
        have HBND : Hid ((said L k).length + (123 :: decL T.length ++ [125, 13, 10]).length + T.length ≤ 100000000) := Lib.hid (by have := HLE.out; rw [HSH.out, List.length_append] at this; omega)
        have HAP : Hid (∀ p, ((L.take k).map nrm).getLast? = some p → ¬ ((nrm (3, T)).1 = 1 ∧ p.1 = 1)) := Lib.hid (fun p _ h => by cases h.1)
        clear hz1 hz2
        cases hq : litL T with
        | false =>
          rw [hq] at HQ HRT
          clear hq hlt
          go_wp2_with (go_at_call 21; refine (HQ.out _).mono ?_; rintro e w2 ⟨rfl, rfl⟩)
          refine bodyPost_ret (v := .tuple #[.slice none 0 0, .int .i64 9]) (by simp [results, Tryz.results9, go_sem]) rfl ?_
          exact .inr ⟨HBAD.out HRT.out, rfl, HST0.out.bel⟩
        | true =>
          have hl16 : T.length ≤ 16384 := by
            unfold litL at hq
            exact of_decide_eq_true ((Bool.and_eq_true _ _).mp hq).1
          have HD := Lib.hid (fun W => digits_any T.length W (by omega))
          have HCX : Hid ((⟨#[123]⟩ ++ strN (decL T.length) ++ ⟨#[125, 13, 10]⟩ : ByteArray) = strN (123 :: decL T.length ++ [125, 13, 10])) := Lib.hid (by
            have e : (⟨#[123]⟩ : ByteArray) = strN [123] := rfl
            have e2 : (⟨#[125, 13, 10]⟩ : ByteArray) = strN [125, 13, 10] := rfl
            rw [e, e2, strN_app, strN_app]
            rfl)
          have hdl : (strN (decL T.length)).size ≤ 16385 := by rw [strN_size]; have := decL_len T.length; omega
          have hcat1 : ((9223372036854775807 : Nat) < 1 + (strN (decL T.length)).size) = False := eq_false (by omega)
          have hcat2 : ((9223372036854775807 : Nat) < 1 + (strN (decL T.length)).size + 3) = False := eq_false (by omega)
          have HLP : Hid (∀ c ∈ 123 :: decL T.length ++ [125, 13, 10], c < 256) := Lib.hid (by
            intro c hc
            have hd := decL_dig T.length
            simp only [List.cons_append, List.mem_cons, List.mem_append, List.not_mem_nil, or_false] at hc
            rcases hc with rfl | hc | rfl | rfl | rfl
            · omega
            · have := hd c hc; omega
            · omega
            · omega
            · omega)
          have htl : (strN T).size = T.length := strN_size T
          rw [hq] at HQ HRT
          clear hq hlt hdl
          generalize hx : strN (decL T.length) = x at *
          clear hx
          go_wp2_with (first
            | (go_at_call 21; refine (HQ.out _).mono ?_; rintro e w2 ⟨rfl, rfl⟩)
            | (go_at_call 22; refine (HD.out _).mono ?_; rintro e w2 ⟨rfl, hb2⟩; have HS1 := Lib.hid (HST0.out.below hb2); obtain ⟨r0, r1⟩ := HS1.out.cells; clear hb2)
            | (at_builtin; refine appN rfl (.tmp 90) (.tmp 97) rfl rfl (congrArg Value.string HCX.out) (run_appN 27 HS1.out.own _ HLP.out (by have := HBND.out; omega) HS1.out.sz) ?_; rintro o3 w3 ⟨ho3, hg3⟩; have HS2 := Lib.hid (HS1.out.app ho3 hg3); obtain ⟨s0, s1⟩ := HS2.out.cells; clear ho3 hg3)
            | (at_builtin; refine appN rfl (.tmp 99) (.tmp 101) rfl rfl rfl (run_appN 27 HS2.out.own T HLTT.out (by have := HBND.out; rw [List.length_append]; omega) HS2.out.sz) ?_; rintro o4 w4 ⟨ho4, hg4⟩; have HSF := Lib.hid (HS2.out.app ho4 hg4); clear ho4 hg4))
          go_roundw
          case rel => first | exact ⟨k + 1, by omega, by go_num, by rw [HFIN.out]; exact HSF.out.own, HNX.out HRT.out HAP.out, HSF.out.bel⟩ | ((repeat apply Exists.intro); exact ⟨⟨k + 1, by omega, by go_num, by rw [HFIN.out]; exact HSF.out.own, HNX.out HRT.out HAP.out, HSF.out.bel⟩, rfl⟩)
          case measure => simp [intOf]; omega
      by_cases h48 : 4 ≤ z ∧ z ≤ 8
      · cases T with
        | nil =>
          have hem : (strN []).toList.isEmpty = true := by rw [strN_toList]; rfl
          have hz : z = 4 ∨ z = 5 ∨ z = 6 ∨ z = 7 ∨ z = 8 := by omega
          have HBND : Hid ((said L k).length + 1 ≤ 100000000) := Lib.hid (by have := HLE.out; rcases hz with rfl | rfl | rfl | rfl | rfl <;> exact this)
          clear hz1 hz2 hz3 h48
          rcases hz with rfl | rfl | rfl | rfl | rfl
          · have HSG : Hid (∀ W, Calls Tryz.prog 23 #[.int .i64 4] W fun e w' => e = .returned (.int .u8 40) ∧ w' = W) := Lib.hid (fun W => rsign_any 4 (by decide) W)
            have HRT : Hid (rightT (nrm (4, [])) = true) := Lib.hid rfl
            have HFIN : Hid (said L (k + 1) = said L k ++ [40]) := Lib.hid HSAY.out
            have HAP : Hid (∀ p, ((L.take k).map nrm).getLast? = some p → ¬ ((nrm (4, [])).1 = 1 ∧ p.1 = 1)) := Lib.hid (fun p _ h => by cases h.1)
            go_wp2_with (first
              | (go_at_call 23; refine (HSG.out _).mono ?_; rintro e w2 ⟨rfl, rfl⟩)
              | (at_builtin; refine app8 rfl (.tmp 112) (.tmp 116) rfl rfl rfl (run_app8 27 (HST0.out.alloc (.cells #[.int .u8 40] 5)).own (wr.heap.size + 1) 40 40 rfl (newcell2 _ _ 40) HBND.out (HST0.out.alloc (.cells #[.int .u8 40] 5)).sz) ?_; rintro o2 w2 ⟨ho2, hg2⟩; have HSF := Lib.hid ((HST0.out.alloc (.cells #[.int .u8 40] 5)).app ho2 hg2); clear ho2 hg2))
            go_roundw
            case rel => first | exact ⟨k + 1, by omega, by go_num, by rw [HFIN.out]; exact HSF.out.own, HNX.out HRT.out HAP.out, HSF.out.bel⟩ | ((repeat apply Exists.intro); exact ⟨⟨k + 1, by omega, by go_num, by rw [HFIN.out]; exact HSF.out.own, HNX.out HRT.out HAP.out, HSF.out.bel⟩, rfl⟩)
            case measure => simp [intOf]; omega
          · have HSG : Hid (∀ W, Calls Tryz.prog 23 #[.int .i64 5] W fun e w' => e = .returned (.int .u8 41) ∧ w' = W) := Lib.hid (fun W => rsign_any 5 (by decide) W)
            have HRT : Hid (rightT (nrm (5, [])) = true) := Lib.hid rfl
            have HFIN : Hid (said L (k + 1) = said L k ++ [41]) := Lib.hid HSAY.out
            have HAP : Hid (∀ p, ((L.take k).map nrm).getLast? = some p → ¬ ((nrm (5, [])).1 = 1 ∧ p.1 = 1)) := Lib.hid (fun p _ h => by cases h.1)
            go_wp2_with (first
              | (go_at_call 23; refine (HSG.out _).mono ?_; rintro e w2 ⟨rfl, rfl⟩)
              | (at_builtin; refine app8 rfl (.tmp 112) (.tmp 116) rfl rfl rfl (run_app8 27 (HST0.out.alloc (.cells #[.int .u8 41] 5)).own (wr.heap.size + 1) 41 41 rfl (newcell2 _ _ 41) HBND.out (HST0.out.alloc (.cells #[.int .u8 41] 5)).sz) ?_; rintro o2 w2 ⟨ho2, hg2⟩; have HSF := Lib.hid ((HST0.out.alloc (.cells #[.int .u8 41] 5)).app ho2 hg2); clear ho2 hg2))
            go_roundw
            case rel => first | exact ⟨k + 1, by omega, by go_num, by rw [HFIN.out]; exact HSF.out.own, HNX.out HRT.out HAP.out, HSF.out.bel⟩ | ((repeat apply Exists.intro); exact ⟨⟨k + 1, by omega, by go_num, by rw [HFIN.out]; exact HSF.out.own, HNX.out HRT.out HAP.out, HSF.out.bel⟩, rfl⟩)
            case measure => simp [intOf]; omega
          · have HSG : Hid (∀ W, Calls Tryz.prog 23 #[.int .i64 6] W fun e w' => e = .returned (.int .u8 32) ∧ w' = W) := Lib.hid (fun W => rsign_any 6 (by decide) W)
            have HRT : Hid (rightT (nrm (6, [])) = true) := Lib.hid rfl
            have HFIN : Hid (said L (k + 1) = said L k ++ [32]) := Lib.hid HSAY.out
            have HAP : Hid (∀ p, ((L.take k).map nrm).getLast? = some p → ¬ ((nrm (6, [])).1 = 1 ∧ p.1 = 1)) := Lib.hid (fun p _ h => by cases h.1)
            go_wp2_with (first
              | (go_at_call 23; refine (HSG.out _).mono ?_; rintro e w2 ⟨rfl, rfl⟩)
              | (at_builtin; refine app8 rfl (.tmp 112) (.tmp 116) rfl rfl rfl (run_app8 27 (HST0.out.alloc (.cells #[.int .u8 32] 5)).own (wr.heap.size + 1) 32 32 rfl (newcell2 _ _ 32) HBND.out (HST0.out.alloc (.cells #[.int .u8 32] 5)).sz) ?_; rintro o2 w2 ⟨ho2, hg2⟩; have HSF := Lib.hid ((HST0.out.alloc (.cells #[.int .u8 32] 5)).app ho2 hg2); clear ho2 hg2))
            go_roundw
            case rel => first | exact ⟨k + 1, by omega, by go_num, by rw [HFIN.out]; exact HSF.out.own, HNX.out HRT.out HAP.out, HSF.out.bel⟩ | ((repeat apply Exists.intro); exact ⟨⟨k + 1, by omega, by go_num, by rw [HFIN.out]; exact HSF.out.own, HNX.out HRT.out HAP.out, HSF.out.bel⟩, rfl⟩)
            case measure => simp [intOf]; omega
          · have HSG : Hid (∀ W, Calls Tryz.prog 23 #[.int .i64 7] W fun e w' => e = .returned (.int .u8 91) ∧ w' = W) := Lib.hid (fun W => rsign_any 7 (by decide) W)
            have HRT : Hid (rightT (nrm (7, [])) = true) := Lib.hid rfl
            have HFIN : Hid (said L (k + 1) = said L k ++ [91]) := Lib.hid HSAY.out
            have HAP : Hid (∀ p, ((L.take k).map nrm).getLast? = some p → ¬ ((nrm (7, [])).1 = 1 ∧ p.1 = 1)) := Lib.hid (fun p _ h => by cases h.1)
            go_wp2_with (first
              | (go_at_call 23; refine (HSG.out _).mono ?_; rintro e w2 ⟨rfl, rfl⟩)
              | (at_builtin; refine app8 rfl (.tmp 112) (.tmp 116) rfl rfl rfl (run_app8 27 (HST0.out.alloc (.cells #[.int .u8 91] 5)).own (wr.heap.size + 1) 91 91 rfl (newcell2 _ _ 91) HBND.out (HST0.out.alloc (.cells #[.int .u8 91] 5)).sz) ?_; rintro o2 w2 ⟨ho2, hg2⟩; have HSF := Lib.hid ((HST0.out.alloc (.cells #[.int .u8 91] 5)).app ho2 hg2); clear ho2 hg2))
            go_roundw
            case rel => first | exact ⟨k + 1, by omega, by go_num, by rw [HFIN.out]; exact HSF.out.own, HNX.out HRT.out HAP.out, HSF.out.bel⟩ | ((repeat apply Exists.intro); exact ⟨⟨k + 1, by omega, by go_num, by rw [HFIN.out]; exact HSF.out.own, HNX.out HRT.out HAP.out, HSF.out.bel⟩, rfl⟩)
            case measure => simp [intOf]; omega
          · have HSG : Hid (∀ W, Calls Tryz.prog 23 #[.int .i64 8] W fun e w' => e = .returned (.int .u8 93) ∧ w' = W) := Lib.hid (fun W => rsign_any 8 (by decide) W)
            have HRT : Hid (rightT (nrm (8, [])) = true) := Lib.hid rfl
            have HFIN : Hid (said L (k + 1) = said L k ++ [93]) := Lib.hid HSAY.out
            have HAP : Hid (∀ p, ((L.take k).map nrm).getLast? = some p → ¬ ((nrm (8, [])).1 = 1 ∧ p.1 = 1)) := Lib.hid (fun p _ h => by cases h.1)
            go_wp2_with (first
              | (go_at_call 23; refine (HSG.out _).mono ?_; rintro e w2 ⟨rfl, rfl⟩)
              | (at_builtin; refine app8 rfl (.tmp 112) (.tmp 116) rfl rfl rfl (run_app8 27 (HST0.out.alloc (.cells #[.int .u8 93] 5)).own (wr.heap.size + 1) 93 93 rfl (newcell2 _ _ 93) HBND.out (HST0.out.alloc (.cells #[.int .u8 93] 5)).sz) ?_; rintro o2 w2 ⟨ho2, hg2⟩; have HSF := Lib.hid ((HST0.out.alloc (.cells #[.int .u8 93] 5)).app ho2 hg2); clear ho2 hg2))
            go_roundw
            case rel => first | exact ⟨k + 1, by omega, by go_num, by rw [HFIN.out]; exact HSF.out.own, HNX.out HRT.out HAP.out, HSF.out.bel⟩ | ((repeat apply Exists.intro); exact ⟨⟨k + 1, by omega, by go_num, by rw [HFIN.out]; exact HSF.out.own, HNX.out HRT.out HAP.out, HSF.out.bel⟩, rfl⟩)
            case measure => simp [intOf]; omega
        | cons t0 T0 =>
          have hem : (strN (t0 :: T0)).toList.isEmpty = false := by rw [strN_toList]; rfl
          have hz : z = 4 ∨ z = 5 ∨ z = 6 ∨ z = 7 ∨ z = 8 := by omega
          clear hz1 hz2 hz3 h48
          rcases hz with rfl | rfl | rfl | rfl | rfl
          all_goals
            go_wp2_with fail
            refine bodyPost_ret (v := .tuple #[.slice none 0 0, .int .i64 9]) (by simp [results, Tryz.results9, go_sem]) rfl ?_
            exact .inr ⟨HBAD.out rfl, rfl, HST0.out.bel⟩
      · have HRT : Hid (rightT (nrm (z, T)) = false) := Lib.hid (by
          have : kdN z = 0 := by unfold kdN; rw [if_neg (by omega)]
          unfold nrm
          simp only [this]
          rfl)
        have h4 : ¬ z = 4 := by omega
        have h5 : ¬ z = 5 := by omega
        have h6 : ¬ z = 6 := by omega
        have h7 : ¬ z = 7 := by omega
        have h8 : ¬ z = 8 := by omega
        clear h48
        go_wp2_with fail
        refine bodyPost_ret (v := .tuple #[.slice none 0 0, .int .i64 9]) (by simp [results, Tryz.results9, go_sem]) rfl ?_
        exact .inr ⟨HBAD.out HRT.out, rfl, HST0.out.bel⟩
    · obtain rfl : k = L.length := by omega
      have hall : printL (L.map nrm) = some (said L L.length) := by have := HP.out; rwa [List.take_length] at this
      have HALL := Lib.hid hall
      clear hall
      subst ho
      go_wp2_with fail
      refine bodyPost_ret (v := .tuple #[.slice oa (said L L.length).length oc, .int .i64 0]) (by simp [results, Tryz.results9, go_sem]) rfl ?_
      exact .inl ⟨_, _, HALL.out, rfl, HO.out, HB.out⟩
end Go.Proofs.YtghibofnfjnfcaaGreatDoor
