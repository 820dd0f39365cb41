/-
  The reference's fields: what it answers.
-/
import Derived.Test.YtnncldnpkfjhbaaGreatDoorMg30
import Derived.Deep.RegionHeld
import Derived.Deep.RegionHeld3
import Derived.Deep.AppendLies
namespace Go.Proofs.YtnncldnpkfjhbaaGreatDoor
set_option linter.unusedVariables false
open Go.RowKit Go.Lib
attribute [local go_sem] Oper.semAt_some

theorem goes_head (d : Nat) (y : List Nat) : goesB (d :: y) = whiteB d := by
  unfold goesB whiteB
  simp
  rfl
theorem strT_append (a b : List Nat) : strT (a ++ b) = strT a ++ strT b := by
  unfold strT
  apply ByteArray.ext
  simp [ByteArray.data_append]
theorem strT_size (a : List Nat) : (strT a).size = a.length := by simp [strT, ByteArray.size]
theorem snoc_map {ps : List FR} {fin : List Fd} {f : Fd} (h : ps.map (·.1) = fin ++ [f]) : ∃ qs rv, ps = qs ++ [(f, rv)] ∧ qs.map (·.1) = fin := by
  have hne : ps ≠ [] := by intro e; subst e; simp at h
  obtain ⟨qs, p, rfl⟩ : ∃ qs p, ps = qs ++ [p] := ⟨ps.dropLast, ps.getLast hne, (List.dropLast_concat_getLast hne).symm⟩
  rw [List.map_append] at h
  obtain ⟨h1, h2⟩ := List.append_inj' h rfl
  obtain ⟨g, rv⟩ := p
  simp at h2
  exact ⟨qs, rv, by rw [h2], h1⟩

theorem OwnQ.base {w : World} {B B' : Nat} {v : Value} {ps : List FR} (h : OwnQ w B v ps) (hB : B' ≤ B) : OwnQ w B' v ps := by
  refine ⟨⟨h.row.1, ?_⟩, fun p hp => ownB_base (h.raws p hp) hB, h.apart⟩
  rcases h.row.2 with h2 | ⟨b, cap, cur, rfl, hb, r⟩
  · exact .inl h2
  · exact .inr ⟨b, cap, cur, rfl, by omega, r⟩
def stK (r : List Nat) (k : Nat) : List Fd × Option Fd := runF r ([], none) ((linesP 0 r).take k)
theorem stK_snoc (r : List Nat) (k : Nat) (h : k < (linesP 0 r).length) : stK r (k + 1) = stepF (stK r k) (lineW r (linesP 0 r)[k]) (lineT r (linesP 0 r)[k]) := by
  unfold stK
  rw [List.take_succ_eq_append_getElem h, runF_snoc]

set_option maxRecDepth 100000 in
set_option maxHeartbeats 8000000 in
theorem rfields_any (a : Option Addr) (lb lo cap : Nat) (l : List Nat) (w : World) (ha : l ≠ [] → a = some ⟨lb, lo, none⟩) (hlb : l ≠ [] → lb < w.heap.size) (hc : CellsL w lb lo l) (hlc : l.length ≤ cap) (hm : cap ≤ maxLen) (hl : l.length ≤ 100000) (hlt : ∀ c ∈ l, c < 256) :
    Calls Tryz.prog 21 #[.slice a l.length cap] w fun e w' => ∃ vo ps, e = .returned vo ∧ OwnQ w' w.heap.size vo ps ∧ ps.map (·.1) = fieldsS l ∧ Below w.heap.size w w' := by
  have hks := splitS_le l
  have hfull := split_full l
  have HSP := Lib.hid (rsplit_any a lb lo cap l w ha hlb hc hlc hm hl)
  obtain ⟨K, hK⟩ : ∃ K, splitS l = K := ⟨_, rfl⟩
  rw [hK] at hks hfull HSP
  obtain ⟨r, hr⟩ : ∃ r, l.take K = r := ⟨_, rfl⟩
  have hrl : r.length = K := by rw [← hr]; simp; omega
  have hrne : r ≠ [] → l ≠ [] := by intro h e; subst e; simp at hr; exact h hr
  have hcr : CellsL w lb lo r := by rw [← hr]; exact hc.take K
  have hltr : ∀ c ∈ r, c < 256 := fun c h => hlt c (by rw [← hr] at h; exact List.mem_of_mem_take h)
  rw [hr] at hfull
  have HRL := fun (W : World) (hb : Below w.heap.size w W) => rlines_any a lb lo cap r W (fun h => ha (hrne h)) (fun h => Nat.lt_of_lt_of_le (hlb (hrne h)) hb.size) (hcr.kept hb (fun h => hlb (hrne h))) (by omega) hm (by omega)
  rw [hrl] at HRL
  have HRLN := Lib.hid HRL
  have HLB := Lib.hid (fun h => hlb (hrne h))
  have HCR := Lib.hid hcr
  have HLTR := Lib.hid hltr
  have HFULL := Lib.hid hfull
  have HKL := Lib.hid hrl
  unfold maxLen at hm
  have hkc : K ≤ cap := by omega
  have hkci : (K : Int) ≤ (cap : Int) := by omega
  have hk0 : ¬ (K : Int) < 0 := by omega
  have hrcap : r.length ≤ cap := by omega
  have hrb : r.length ≤ 100000 := by omega
  clear HRL ha hlb hc hr hrne hcr hltr hfull hK hlt hrl
  go_enter Tryz.func21, Tryz.ntmps21
  go_wp2_with fail
  refine HSP.out.mono ?_
  rintro e w1 ⟨rfl, hb1⟩
  have HB1 := Lib.hid hb1
  have hs1 := hb1.size
  clear hb1
  go_wp2_with fail
  refine (HRLN.out w1 HB1.out).mono ?_
  rintro e w2 ⟨vo, rfl, ho, hb2⟩
  clear HRLN
  obtain ⟨la, lc, rfl⟩ := ho.shape
  obtain ⟨lg, hcl⟩ := ho.cells
  have hs2 := hb2.size
  have hxl := (lines_in r.length 0 r (Nat.le_refl _)).1
  have HOK := Lib.hid (fun x (hx : x ∈ linesP 0 r) => lines_ok hx)
  have HIN := Lib.hid (lines_in r.length 0 r (Nat.le_refl _)).2
  have hST := fun k h => stK_snoc r k h
  have hstop : ∀ k (h : k < (linesP 0 r).length), (∀ y ∈ (linesP 0 r).take k, y.2.2 ≠ 0) → (linesP 0 r)[k].2.2 = 0 → allF (stK r k) = fieldsS r := fun k h h1 h2 => by
    have e1 : linesP 0 r = (linesP 0 r).take k ++ (linesP 0 r)[k] :: (linesP 0 r).drop (k + 1) := by rw [← List.drop_eq_getElem_cons h, List.take_append_drop]
    have e2 : headF (linesP 0 r) = (linesP 0 r).take k := by
      conv => lhs; rw [e1]
      exact headF_stop h2 h1
    unfold fieldsS stK allF
    rw [e2]
  have hend : (∀ y ∈ linesP 0 r, y.2.2 ≠ 0) → allF (stK r (linesP 0 r).length) = fieldsS r := fun h => by
    unfold fieldsS stK allF
    rw [headF_all h, List.take_length]
  have hle : ∀ k, k ≤ (linesP 0 r).length → OpLe 10000000000 (stK r k) ∧ (allF (stK r k)).length ≤ k := fun k h => by
    have h1 := runF_le r ((linesP 0 r).take k)
    have h2 := runF_len r ((linesP 0 r).take k) ([], none)
    have hmul : ((linesP 0 r).take k).length * r.length ≤ 100000 * 100000 := Nat.mul_le_mul (by simp; omega) hrb
    refine ⟨fun f hf => by have := h1 f hf; omega, ?_⟩
    simp at h2
    unfold allF stK
    simp
    omega
  generalize hxs : linesP 0 r = xs at ho hcl hxl HOK HIN hST hstop hend hle ⊢
  have HCL := Lib.hid hcl
  have HB2 := Lib.hid (HB1.out.trans (hb2.mono hs1))
  have HST := Lib.hid hST
  have HSTOP := Lib.hid hstop
  have HEND := Lib.hid hend
  have HLE := Lib.hid hle
  have hst0 : stK r 0 = ([], none) := by unfold stK; rw [List.take_zero]; rfl
  clear ho hcl hb2 hST hstop hend hle hxs HSP
  go_wp2_with fail
  go_loopw [3, 5, 6] (fun out on i wr => ∃ (k : Nat) (ps : List FR) (oa : Option Addr) (oc : Nat), k ≤ xs.length ∧ i = .int .i64 k ∧ on = .bool (stK r k).2.isSome ∧ out = .slice oa ps.length oc ∧ OwnQ wr w2.heap.size out ps ∧ Hid (ps.map (·.1) = allF (stK r k) ∧ ∀ x ∈ xs.take k, x.2.2 ≠ 0) ∧ Below w.heap.size w wr ∧ Below w2.heap.size w2 wr) (fun _ _ i _ => xs.length - (RowKit.intOf i).toNat)
  case atStart => exact ⟨0, [], none, 0, Nat.zero_le _, rfl, by rw [hst0]; rfl, rfl, OwnQ.nil _ _, Lib.hid ⟨by rw [hst0]; rfl, by simp⟩, HB2.out, Below.refl _ _⟩
  case round =>
    obtain ⟨k, ps, oa, oc, hk, rfl, rfl, rfl, hown, hinv, hbel, hbel2⟩ := hrel
    have hsz := hbel.size
    have hsz2 := hbel2.size
    by_cases hkl : k < xs.length
    · obtain ⟨rfl, hg, hcell⟩ := HCL.out k hkl
      obtain ⟨ok1, ok2, ok3, ok4, ok5⟩ := HOK.out _ (List.getElem_mem hkl)
      obtain ⟨-, hin2, hin3⟩ := HIN.out _ (List.getElem_mem hkl)
      have hcr := HCR.out.kept hbel (fun h => HLB.out h)
      have hcw := cells_line hcr xs[k]
      have hct : CellsL wr lb (lo + xs[k].1) (lineT r xs[k]) := (hcr.drop _).take _
      have hcellr : wr.cell? ⟨lg, k, none⟩ = some (lineV lb lo cap xs[k]) := (hbel2.cell (p := ⟨lg, k, none⟩) hg).trans hcell
      have hstep := HST.out k hkl
      have hstop := HSTOP.out k hkl (by exact hinv.out.2)
      obtain ⟨hle1, hle2⟩ := HLE.out k hk
      have hnx : xs[k].2.2 ≠ 0 → ∀ y ∈ xs.take (k + 1), y.2.2 ≠ 0 := fun h y hy => by
        rw [List.take_succ_eq_append_getElem hkl] at hy
        rcases List.mem_append.1 hy with h2 | h2
        · exact hinv.out.2 y h2
        · obtain rfl := List.mem_singleton.1 h2
          exact h
      have htl : (lineT r xs[k]).length = xs[k].2.2 := by simp only [lineT, List.length_take, List.length_drop]; omega
      have hbt : ∀ c ∈ lineT r xs[k], c < 256 := fun c h => HLTR.out c (List.mem_of_mem_drop (List.mem_of_mem_take h))
      have hbw : ∀ c ∈ lineW r xs[k], c < 256 := fun c h => HLTR.out c (List.mem_of_mem_drop (List.mem_of_mem_take h))
      have hrne : r ≠ [] := by intro e; subst e; simp at ok5; omega
      have hlbw := HLB.out hrne
      have hki : (k : Int) < (xs.length : Int) := by omega
      have hpl : ps.length ≤ k := by have := congrArg List.length hinv.out.1; rw [List.length_map] at this; omega
      have HSTEP := Lib.hid hstep
      have HSTOP2 := Lib.hid hstop
      have HNX := Lib.hid hnx
      have HBT := Lib.hid hbt
      have HBW := Lib.hid hbw
      have HLE1 := Lib.hid hle1
      have HCT := Lib.hid hct
      have HCW := Lib.hid hcw
      have HOWN := Lib.hid hown
      have HINV := Lib.hid hinv.out.1
      have HBEL := Lib.hid hbel
      have HBEL2 := Lib.hid hbel2
      have HO1 := Lib.hid ok1
      have HO2 := Lib.hid ok2
      have HO3 := Lib.hid ok3
      have HTL := Lib.hid htl
      clear hcell hcr hcw hct hstep hstop hnx hbt hbw hle1 hown hbel hbel2 ok1 ok2 ok3 htl hrne hinv
      unfold lineV at hcellr
      generalize xs[k] = x at *
      obtain ⟨s, c, m⟩ := x
      simp only at hcellr ok4 ok5 hin2 hin3 HSTEP HSTOP2 HNX HCT HCW HO1 HO2 HO3 HTL
      generalize lineW r (s, c, m) = wh at *
      generalize lineT r (s, c, m) = tx at *
      generalize hSt : stK r k = St at *
      have HSt := Lib.hid hSt
      clear hSt
      have hba := bare_any lb (lo + s) (cap - s) wh wr (by intro e; have := HO3.out; rw [e] at this; simp at this; omega) HCW.out (by rw [HO3.out]; omega) (by unfold maxLen; omega)
      have hen := ended_any (some ⟨lb, lo + s, none⟩) lb (lo + s) (cap - s) wh wr (fun _ => rfl) HCW.out (by unfold maxLen; rw [HO3.out]; omega)
      rw [HO1.out, HO3.out] at hba
      rw [HO3.out] at hen
      have HBA := Lib.hid hba
      have HEN := Lib.hid hen
      clear hba hen
      by_cases hm0 : m = 0
      · subst hm0
        have hen := HEN.out
        rw [HO2.out rfl] at hen
        have HEN1 := Lib.hid hen
        have HF : Hid (ps.map (·.1) = fieldsS l) := Lib.hid (by rw [HINV.out, HSTOP2.out rfl, HFULL.out])
        clear hen HEN
        go_wp2_with (first | (go_at_call 35; refine HBA.out.mono ?_; rintro e w3 ⟨rfl, rfl⟩) | (go_at_call 36; refine HEN1.out.mono ?_; rintro e w3 ⟨rfl, rfl⟩))
        go_ret
        exact ⟨_, ps, rfl, HOWN.out.base (by omega), HF.out, HBEL.out⟩
      · obtain ⟨d, y, rfl⟩ : ∃ d y, tx = d :: y := by
          cases tx with
          | nil => have := HTL.out; simp at this; omega
          | cons d y => exact ⟨d, y, rfl⟩
        have hd := HCT.out 0 (by simp)
        simp only [List.getElem_cons_zero, Nat.add_zero] at hd
        have hmi : (0 : Int) < (m : Int) := by omega
        have hm0i : ((m : Int) == 0) = false := beq_false_of_ne (by omega)
        have hmn : 0 < m := by omega
        have HNX2 := Lib.hid (HNX.out hm0)
        have hwh := white_any d wr
        rw [← goes_head d y] at hwh
        clear hm0 HNX HSTOP2 HEN
        cases hgo : goesB (d :: y)
        · rw [hgo] at hwh
          have HWH := Lib.hid hwh
          have hcol := colon_any lb (lo + s) (cap - s) (d :: y) wr HCT.out (by rw [HTL.out]; omega)
          rw [HTL.out] at hcol
          unfold colonI at hcol
          cases hnm : nameN (d :: y) with
          | none =>
            rw [hnm] at hcol
            have HCO := Lib.hid hcol
            have HST2 : Hid (stK r (k + 1) = (St.1 ++ St.2.toList, none)) := Lib.hid (by
              rw [HSTEP.out]
              unfold stepF
              rw [hgo, hnm]
              rfl)
            clear hwh hgo hnm hcol
            go_wp2_with (first | (go_at_call 35; refine HBA.out.mono ?_; rintro e w3 ⟨rfl, rfl⟩) | (go_at_call 37; refine HWH.out.mono ?_; rintro e w3 ⟨rfl, rfl⟩) | (go_at_call 38; refine HCO.out.mono ?_; rintro e w3 ⟨rfl, rfl⟩))
            go_roundw
            case rel => exact ⟨k + 1, ps, oa, oc, by omega, by go_num, by rw [HST2.out]; rfl, rfl, HOWN.out, Lib.hid ⟨by rw [HST2.out, HINV.out]; simp [allF], HNX2.out⟩, HBEL.out, HBEL2.out⟩
            case measure => simp [RowKit.intOf]; omega
          | some q =>
            rw [hnm] at hcol
            have HCO := Lib.hid hcol
            have hq : 1 ≤ q ∧ q < m := by
              have h9 := hnm
              unfold nameN at h9
              split at h9
              · rename_i h; simp only [Option.some.injEq] at h9; rw [← HTL.out]; omega
              · cases h9
            obtain ⟨hq1, hq2⟩ := hq
            have hnmT : strL (foldL (strN ((d :: y).take q)).data.toList) = nameT (d :: y) := by
              rw [fold_str _ (fun c hc => HBT.out c (List.mem_of_mem_take hc))]
              unfold nameT
              rw [hnm]
            have HST2 : Hid (stK r (k + 1) = (St.1 ++ St.2.toList, some ⟨nameT (d :: y), (d :: y).drop (q + 1), wh⟩)) := Lib.hid (by
              rw [HSTEP.out]
              unfold stepF
              rw [hgo, hnm]
              rfl)
            have HROWW : Hid (∀ W, Below w2.heap.size wr W → RowB W (.slice (some ⟨lb, lo + s, none⟩) c (cap - s)) wh) := Lib.hid (fun W hb => by
              have := (HCW.out.kept hb (fun _ => by omega)).row (cap := cap - s) (by rw [HO3.out]; omega) (by unfold maxLen; omega) HBW.out
              rwa [HO3.out] at this)
            have hc1 : ∀ W, Below w2.heap.size wr W → (convert 22 9 (.slice (some ⟨lb, lo + s, none⟩) q (cap - s))).run Tryz.prog W = .ok (.string (strN ((d :: y).take q))) W := fun W hb => by
              have h1 := ((HCT.out.kept hb (fun _ => by omega)).take q).row (cap := cap - s) (by simp only [List.length_take]; rw [HTL.out]; omega) (by unfold maxLen; omega) (fun c hc => HBT.out c (List.mem_of_mem_take hc))
              rw [show ((d :: y).take q).length = q by rw [List.length_take, HTL.out]; omega] at h1
              exact run_str h1
            have hnz : (strN ((d :: y).take q)).size ≤ 100000 := by rw [show strN ((d :: y).take q) = strT ((d :: y).take q) from rfl, strT_size, List.length_take, HTL.out]; omega
            obtain ⟨t1, hS1⟩ : ∃ t1, strN ((d :: y).take q) = t1 := ⟨_, rfl⟩
            obtain ⟨t2, hS2⟩ : ∃ t2, strN ((d :: y).drop (q + 1)) = t2 := ⟨_, rfl⟩
            rw [hS1] at hnmT hnz
            simp only [hS1] at hc1
            have HS2 := Lib.hid hS2
            have HNMT := Lib.hid hnmT
            have HC1 := Lib.hid hc1
            have HNZ := Lib.hid hnz
            have hwq : IntKind.i64.wrap ((q : Int) + 1) = (q : Int) + 1 := IntWalk.i64_in _ (by omega)
            have gqt : ((q : Int) + 1).toNat = q + 1 := by omega
            have gq0 : (0 : Int) ≤ (q : Int) := by omega
            have gq5 : (0 : Int) ≤ (q : Int) + 1 := by omega
            have gq1 : (q : Int) + 1 ≤ ((cap - s : Nat) : Int) := by omega
            have gq2 : (q : Int) + 1 ≤ (m : Int) := by omega
            have gq3 : (q : Int) ≤ ((cap - s : Nat) : Int) := by omega
            clear hwh hgo hnm hcol hnmT hc1 hnz hS1 hS2
            by_cases hce : cap - s = q + 1
            · have hmC : m ≤ cap - s := by omega
              have hcC : c ≤ cap - s := by omega
              have hCm : cap - s ≤ 9223372036854775807 := by omega
              generalize cap - s = C at *
              obtain rfl : m = q + 1 := by omega
              subst hce
              have gq6 : (q : Int) ≤ (q : Int) + 1 := by omega
              have gq7 : (q : Int) + 1 ≤ (q : Int) + 1 := Int.le_refl _
              have hc2 : ∀ W, Below w2.heap.size wr W → (convert 22 9 (.slice (some ⟨lb, lo + s, none⟩) 0 0)).run Tryz.prog W = .ok (.string t2) W := fun W hb => by
                have e : (d :: y).drop (q + 1) = [] := List.drop_eq_nil_of_le (by rw [HTL.out]; omega)
                rw [← HS2.out, e]
                exact run_str ⟨some ⟨lb, lo + s, none⟩, 0, 0, rfl, rfl, Nat.le_refl _, by decide, by simp, (fun h => nomatch h), fun x hx i hi => absurd hi (by simp)⟩
              have HKEEP : Hid (∀ W, Below w2.heap.size wr W → ((convert 22 9 (.slice (some ⟨lb, lo + s, none⟩) q (q + 1))).run Tryz.prog W = .ok (.string t1) W ∧ (convert 22 9 (.slice (some ⟨lb, lo + s, none⟩) 0 0)).run Tryz.prog W = .ok (.string t2) W) ∧ W.cell? ⟨lg, k, none⟩ = some (.slice (some ⟨lb, lo + s, none⟩) c (q + 1))) := Lib.hid (fun W hb => ⟨⟨HC1.out W hb, hc2 W hb⟩, (hb.cell (p := ⟨lg, k, none⟩) hg).trans hcellr⟩)
              have kBel : Below wr.heap.size wr wr.drew := (Below.refl _ wr).drew
              clear hc2
              go_wp2_with (first | (go_at_call 35; refine HBA.out.mono ?_; rintro e w3 ⟨rfl, rfl⟩) | (go_at_call 37; refine HWH.out.mono ?_; rintro e w3 ⟨rfl, rfl⟩) | (go_at_call 38; refine HCO.out.mono ?_; rintro e w3 ⟨rfl, rfl⟩))
              refine wp_region_held_drew (S := fun w' => ((convert 22 9 (.slice (some ⟨lb, lo + s, none⟩) q (q + 1))).run Tryz.prog w' = .ok (.string t1) w' ∧ (convert 22 9 (.slice (some ⟨lb, lo + s, none⟩) 0 0)).run Tryz.prog w' = .ok (.string t2) w') ∧ w'.cell? ⟨lg, k, none⟩ = some (.slice (some ⟨lb, lo + s, none⟩) c (q + 1))) (by kernel_rfl) (HKEEP.out _ (kBel.mono hsz2)) (fun hHeld => ?_)
              refine wpAnyH_take (i := 0) (oi := ⟨_, _, _, _, _, _⟩) (v := ?_) rfl (by kernel_rfl) (by kernel_rfl) (by kernel_rfl) (fun _ _ _ h => h) (Or.inl ⟨by rfl, ?_⟩) (by assumption) ?_
              rotate_left
              · intro w hSw; (try dsimp only at hSw); go_simp <;> with_reducible rfl
              simp only [Act.put, List.setIfInBounds_toArray, List.set_cons_zero, List.set_cons_succ]
              refine wpAnyH_take (i := 1) (oi := ⟨_, _, _, _, _, _⟩) (v := ?_) rfl (by kernel_rfl) (by kernel_rfl) (by kernel_rfl) (fun _ _ _ h => h) (Or.inl ⟨by rfl, ?_⟩) (by assumption) ?_
              rotate_left
              · intro w hSw; (try dsimp only at hSw); go_simp <;> with_reducible rfl
              simp only [Act.put, List.setIfInBounds_toArray, List.set_cons_zero, List.set_cons_succ]
              refine wpAnyH_take (i := 2) (oi := ⟨_, _, _, _, _, _⟩) (v := ?_) rfl (by kernel_rfl) (by kernel_rfl) (by kernel_rfl) (fun _ _ _ h => h) (Or.inl ⟨by rfl, ?_⟩) (by assumption) ?_
              rotate_left
              · intro w hSw; (try dsimp only at hSw); go_simp <;> with_reducible rfl
              simp only [Act.put, List.setIfInBounds_toArray, List.set_cons_zero, List.set_cons_succ]
              refine wpAnyH_take (i := 3) (oi := ⟨_, _, _, _, _, _⟩) (v := ?_) rfl (by kernel_rfl) (by kernel_rfl) (by kernel_rfl) (fun _ _ _ h => h) (Or.inl ⟨by rfl, ?_⟩) (by assumption) ?_
              rotate_left
              · intro w hSw; (try dsimp only at hSw); go_simp <;> with_reducible rfl
              simp only [Act.put, List.setIfInBounds_toArray, List.set_cons_zero, List.set_cons_succ]
              refine wpAnyH_take (i := 4) (oi := ⟨_, _, _, _, _, _⟩) (v := ?_) rfl (by kernel_rfl) (by kernel_rfl) (by kernel_rfl) (fun _ _ _ h => h) (Or.inl ⟨by rfl, ?_⟩) (by assumption) ?_
              rotate_left
              · intro w hSw; (try dsimp only at hSw); go_simp <;> with_reducible rfl
              simp only [Act.put, List.setIfInBounds_toArray, List.set_cons_zero, List.set_cons_succ]
              refine wpAnyH_take (i := 6) (oi := ⟨_, _, _, _, _, _⟩) (v := ?_) rfl (by kernel_rfl) (by kernel_rfl) (by kernel_rfl) (fun _ _ _ h => h) (Or.inl ⟨by rfl, ?_⟩) (by assumption) ?_
              rotate_left
              · intro w hSw; (try dsimp only at hSw); go_simp <;> with_reducible rfl
              simp only [Act.put, List.setIfInBounds_toArray, List.set_cons_zero, List.set_cons_succ]
              refine wpAnyH_take (i := 7) (oi := ⟨_, _, _, _, _, _⟩) (v := ?_) rfl (by kernel_rfl) (by kernel_rfl) (by kernel_rfl) (fun _ _ _ h => h) (Or.inl ⟨by rfl, ?_⟩) (by assumption) ?_
              rotate_left
              · intro w hSw; (try dsimp only at hSw); go_simp <;> with_reducible rfl
              simp only [Act.put, List.setIfInBounds_toArray, List.set_cons_zero, List.set_cons_succ]
              refine wpAnyH_take (i := 8) (oi := ⟨_, _, _, _, _, _⟩) (v := ?_) rfl (by kernel_rfl) (by kernel_rfl) (by kernel_rfl) (fun _ _ _ h => h) (Or.inl ⟨by rfl, ?_⟩) (by assumption) ?_
              rotate_left
              · intro w hSw; (try dsimp only at hSw); go_simp <;> with_reducible rfl
              simp only [Act.put, List.setIfInBounds_toArray, List.set_cons_zero, List.set_cons_succ]
              refine wpAnyH_take (i := 9) (oi := ⟨_, _, _, _, _, _⟩) (v := ?_) rfl (by kernel_rfl) (by kernel_rfl) (by kernel_rfl) (fun _ _ _ h => h) (Or.inl ⟨by rfl, ?_⟩) (by assumption) ?_
              rotate_left
              · intro w hSw; (try dsimp only at hSw); go_simp <;> with_reducible rfl
              simp only [Act.put, List.setIfInBounds_toArray, List.set_cons_zero, List.set_cons_succ]
              refine wpAnyH_take (i := 10) (oi := ⟨_, _, _, _, _, _⟩) (v := ?_) rfl (by kernel_rfl) (by kernel_rfl) (by kernel_rfl) (fun _ _ _ h => h) (Or.inl ⟨by rfl, ?_⟩) (by assumption) ?_
              rotate_left
              · intro w hSw; (try dsimp only at hSw); go_simp <;> with_reducible rfl
              simp only [Act.put, List.setIfInBounds_toArray, List.set_cons_zero, List.set_cons_succ]
              refine wpAnyH_take (i := 11) (oi := ⟨_, _, _, _, _, _⟩) (v := ?_) rfl (by kernel_rfl) (by kernel_rfl) (by kernel_rfl) (fun _ _ _ h => h) (Or.inl ⟨by rfl, ?_⟩) (by assumption) ?_
              rotate_left
              · intro w hSw; (try dsimp only at hSw); go_simp <;> with_reducible rfl
              simp only [Act.put, List.setIfInBounds_toArray, List.set_cons_zero, List.set_cons_succ]
              refine wpAnyH_take (i := 12) (oi := ⟨_, _, _, _, _, _⟩) (v := ?_) rfl (by kernel_rfl) (by kernel_rfl) (by kernel_rfl) (fun _ _ _ h => h) (Or.inl ⟨by rfl, ?_⟩) (by assumption) ?_
              rotate_left
              · intro w hSw; (try dsimp only at hSw); go_simp <;> with_reducible rfl
              simp only [Act.put, List.setIfInBounds_toArray, List.set_cons_zero, List.set_cons_succ]
              refine wpAnyH_take (i := 13) (oi := ⟨_, _, _, _, _, _⟩) (v := ?_) rfl (by kernel_rfl) (by kernel_rfl) (by kernel_rfl) (fun _ _ _ h => h) (Or.inl ⟨by rfl, ?_⟩) (by assumption) ?_
              rotate_left
              · intro w hSw; (try dsimp only at hSw); go_simp <;> with_reducible rfl
              simp only [Act.put, List.setIfInBounds_toArray, List.set_cons_zero, List.set_cons_succ]
              refine wpAnyH_take (i := 14) (oi := ⟨_, _, _, _, _, _⟩) (v := ?_) rfl (by kernel_rfl) (by kernel_rfl) (by kernel_rfl) (fun _ _ _ h => h) (Or.inl ⟨by rfl, ?_⟩) (by assumption) ?_
              rotate_left
              · intro w hSw; (try dsimp only at hSw); go_simp <;> with_reducible rfl
              simp only [Act.put, List.setIfInBounds_toArray, List.set_cons_zero, List.set_cons_succ]
              refine wpAnyH_ready (rs := [5]) (by kernel_rfl) (by simp) ?_
              refine AllReadyH.cons (o := ⟨_, _, _, _, _, _⟩) rfl (fun K hK => ?_) AllReadyH.nil
              go_simp
              go_wp2_with (go_at_call 39; refine (fold_any t1 HNZ.out _).mono ?_; rintro e wF ⟨rfl, hbF⟩)
              have kB1 := kBel.trans (hbF.mono kBel.size)
              refine hK.out _ _ (HKEEP.out _ (kB1.mono hsz2)) (fun hHeld => ?_)
              clear hK K
              refine wpAnyH_ready (rs := [15]) (by kernel_rfl) (by simp) ?_
              refine AllReadyH.cons (o := ⟨_, _, _, _, _, _⟩) rfl (fun K hK => ?_) AllReadyH.nil
              refine step_app rfl (.const (.slice none 0 0)) (.tmp 92) rfl (show OwnB wF wr.heap.size (.slice none 0 0) [] from World.ownsRow_nil _ _ _ _) (HROWW.out _ (kB1.mono hsz2)) kB1.size rfl rfl (by simp; rw [HO3.out]; omega) (fun oA wA hoA hgA _ => ?_)
              have kB2 := kB1.grown hgA kB1.size (by intro k hk; simp [Value.ownBlock] at hk)
              rw [List.nil_append] at hoA
              obtain ⟨aA, cA, rfl⟩ := hoA.shape
              refine hK.out _ _ (HKEEP.out _ (kB2.mono hsz2)) (fun hHeld => ?_)
              clear hK K
              simp only [Act.put, List.setIfInBounds_toArray, List.set_cons_zero, List.set_cons_succ]
              refine wpAnyH_take (i := 16) (oi := ⟨_, _, _, _, _, _⟩) (v := ?_) rfl (by kernel_rfl) (by kernel_rfl) (by kernel_rfl) (fun _ _ _ h => h) (Or.inl ⟨by rfl, ?_⟩) (by assumption) ?_
              rotate_left
              · intro w hSw; (try dsimp only at hSw); go_simp <;> with_reducible rfl
              simp only [Act.put, List.setIfInBounds_toArray, List.set_cons_zero, List.set_cons_succ]
              refine wpAnyH_ready (rs := [17]) (by kernel_rfl) (by simp) ?_
              refine AllReadyH.cons (o := ⟨_, _, _, _, _, _⟩) rfl (fun K hK => ?_) AllReadyH.nil
              go_simp
              have kB3 := kB2.alloc kB2.size (.cells #[.string (strL (foldL t1.data.toList)), .string t2, .slice aA wh.length cA] 54)
              refine hK.out _ _ (HKEEP.out _ (kB3.mono hsz2)) (fun hHeld => ?_)
              clear hK K
              obtain ⟨i0, hi0, hz0, hz1, hz2⟩ := info_parts info63
              have hq3 := HOWN.out.keep kB2
              have hszA : wr.heap.size ≤ wA.heap.size := kB2.size
              have hnew := heap_alloc_new wA (.cells #[.string (strL (foldL t1.data.toList)), .string t2, .slice aA wh.length cA] 54)
              refine wpAnyH_ready (rs := [18]) (by kernel_rfl) (by simp) ?_
              refine AllReadyH.cons (o := ⟨_, _, _, _, _, _⟩) rfl (fun K hK => ?_) AllReadyH.nil
              refine step_append_lies _ rfl (.tmp 78) (.tmp 95) 51 rfl w2.heap.size 54 i0 _ 3 56 Tryz.underlying51 hi0 hz0 hz1 hz2 rfl (by decide) (.slice oa ps.length oc) ps.length (frsV ps) rfl (World.ownsRow.alloc hq3.row _) ⟨wA.heap.size, 0, none⟩ 1 1 [.string (strL (foldL t1.data.toList)), .string t2, .slice aA wh.length cA] rfl rfl (World.news_of_block (cs := #[.string (strL (foldL t1.data.toList)), .string t2, .slice aA wh.length cA]) (t := 54) (fr := (0, 0)) hnew) (by simp [Value.oneCell']) (by omega) (by unfold maxLen; omega) (by omega) (by simp; omega) (wA.heap.size + 1) (by simp) (fun g4 c4 w4 hown4 hg4 hat4 hlt4 => ?_)
              have kB4 := (kB3.mono hsz2).grown hg4 (by have := kB3.size; omega) (fun j e => HOWN.out.ownLe j e)
              refine hK.out _ _ (HKEEP.out _ kB4) (fun hHeld => ?_)
              clear hK K
              simp only [Act.put, List.setIfInBounds_toArray, List.set_cons_zero, List.set_cons_succ]
              refine wpAnyH_take (i := 19) (oi := ⟨_, _, _, _, _, _⟩) (v := ?_) rfl (by kernel_rfl) (by kernel_rfl) (by kernel_rfl) (fun _ _ _ h => h) (Or.inl ⟨by rfl, ?_⟩) (by assumption) ?_
              rotate_left
              · intro w hSw; (try dsimp only at hSw); go_simp <;> with_reducible rfl
              simp only [Act.put, List.setIfInBounds_toArray, List.set_cons_zero, List.set_cons_succ]
              refine wpAnyH_done (by kernel_rfl) ?_ _
              have hown3 : OwnQ w4 w2.heap.size (.slice (some ⟨g4, 0, none⟩) (ps.length + 1) c4) (ps ++ [(⟨nameT (d :: y), (d :: y).drop (q + 1), wh⟩, .slice aA wh.length cA)]) := by
                refine OwnQ.add (hq3.keep ((Below.refl _ wA).alloc (Nat.le_refl _) _)) (ownB_base (hoA.alloc _) hsz2) (fun p hp j h1 h2 => ?_) hg4 ?_
                · have h3 := ownB_lt (HOWN.out.raws p hp) j h1
                  have h4 := hoA.ownLe j h2
                  omega
                · rw [HNMT.out] at hown4
                  rw [show strT ((d :: y).drop (q + 1)) = t2 from HS2.out]
                  exact hown4
              have hmapF : (ps ++ [((⟨nameT (d :: y), (d :: y).drop (q + 1), wh⟩ : Fd), Value.slice aA wh.length cA)]).map (·.1) = allF (stK r (k + 1)) := by
                rw [HST2.out, List.map_append, HINV.out]
                rfl
              have hlF : (ps ++ [((⟨nameT (d :: y), (d :: y).drop (q + 1), wh⟩ : Fd), Value.slice aA wh.length cA)]).length = ps.length + 1 := by simp
              have hb1 : Below w.heap.size w w4 := HBEL.out.trans (kB4.mono (by omega))
              have hb2 : Below w2.heap.size w2 w4 := HBEL2.out.trans kB4
              have HOW3 := Lib.hid hown3
              have HMF := Lib.hid hmapF
              have HLF := Lib.hid hlF
              have HB1F := Lib.hid hb1
              have HB2F := Lib.hid hb2
              clear hown3 hmapF hlF hb1 hb2 hown4 hg4 hat4 hlt4 kB1 kB2 kB3 kB4 hq3 hnew hoA hgA hbF hHeld hi0 hz0 hz1 hz2
              go_wp2_with fail
              go_roundw
              case rel => exact ⟨k + 1, _, _, c4, by omega, by go_num, by rw [HST2.out]; rfl, by rw [HLF.out], HOW3.out, Lib.hid ⟨HMF.out, HNX2.out⟩, HB1F.out, HB2F.out⟩
              case measure => simp [RowKit.intOf]; omega
            · have hc2 : ∀ W, Below w2.heap.size wr W → (convert 22 9 (.slice (some ⟨lb, lo + s + (q + 1), none⟩) (m - (q + 1)) (cap - s - (q + 1)))).run Tryz.prog W = .ok (.string t2) W := fun W hb => by
                have h1 := ((HCT.out.kept hb (fun _ => by omega)).drop (q + 1)).row (cap := cap - s - (q + 1)) (by rw [List.length_drop, HTL.out]; omega) (by unfold maxLen; omega) (fun c hc => HBT.out c (List.mem_of_mem_drop hc))
                rw [show ((d :: y).drop (q + 1)).length = m - (q + 1) by rw [List.length_drop, HTL.out]] at h1
                rw [← HS2.out]
                exact run_str h1
              have HKEEP : Hid (∀ W, Below w2.heap.size wr W → ((convert 22 9 (.slice (some ⟨lb, lo + s, none⟩) q (cap - s))).run Tryz.prog W = .ok (.string t1) W ∧ (convert 22 9 (.slice (some ⟨lb, lo + s + (q + 1), none⟩) (m - (q + 1)) (cap - s - (q + 1)))).run Tryz.prog W = .ok (.string t2) W) ∧ W.cell? ⟨lg, k, none⟩ = some (.slice (some ⟨lb, lo + s, none⟩) c (cap - s))) := Lib.hid (fun W hb => ⟨⟨HC1.out W hb, hc2 W hb⟩, (hb.cell (p := ⟨lg, k, none⟩) hg).trans hcellr⟩)
              have kBel : Below wr.heap.size wr wr.drew := (Below.refl _ wr).drew
              clear hc2
              go_wp2_with (first | (go_at_call 35; refine HBA.out.mono ?_; rintro e w3 ⟨rfl, rfl⟩) | (go_at_call 37; refine HWH.out.mono ?_; rintro e w3 ⟨rfl, rfl⟩) | (go_at_call 38; refine HCO.out.mono ?_; rintro e w3 ⟨rfl, rfl⟩))
              refine wp_region_held_drew (S := fun w' => ((convert 22 9 (.slice (some ⟨lb, lo + s, none⟩) q (cap - s))).run Tryz.prog w' = .ok (.string t1) w' ∧ (convert 22 9 (.slice (some ⟨lb, lo + s + (q + 1), none⟩) (m - (q + 1)) (cap - s - (q + 1)))).run Tryz.prog w' = .ok (.string t2) w') ∧ w'.cell? ⟨lg, k, none⟩ = some (.slice (some ⟨lb, lo + s, none⟩) c (cap - s))) (by kernel_rfl) (HKEEP.out _ (kBel.mono hsz2)) (fun hHeld => ?_)
              refine wpAnyH_take (i := 0) (oi := ⟨_, _, _, _, _, _⟩) (v := ?_) rfl (by kernel_rfl) (by kernel_rfl) (by kernel_rfl) (fun _ _ _ h => h) (Or.inl ⟨by rfl, ?_⟩) (by assumption) ?_
              rotate_left
              · intro w hSw; (try dsimp only at hSw); go_simp <;> with_reducible rfl
              simp only [Act.put, List.setIfInBounds_toArray, List.set_cons_zero, List.set_cons_succ]
              refine wpAnyH_take (i := 1) (oi := ⟨_, _, _, _, _, _⟩) (v := ?_) rfl (by kernel_rfl) (by kernel_rfl) (by kernel_rfl) (fun _ _ _ h => h) (Or.inl ⟨by rfl, ?_⟩) (by assumption) ?_
              rotate_left
              · intro w hSw; (try dsimp only at hSw); go_simp <;> with_reducible rfl
              simp only [Act.put, List.setIfInBounds_toArray, List.set_cons_zero, List.set_cons_succ]
              refine wpAnyH_take (i := 2) (oi := ⟨_, _, _, _, _, _⟩) (v := ?_) rfl (by kernel_rfl) (by kernel_rfl) (by kernel_rfl) (fun _ _ _ h => h) (Or.inl ⟨by rfl, ?_⟩) (by assumption) ?_
              rotate_left
              · intro w hSw; (try dsimp only at hSw); go_simp <;> with_reducible rfl
              simp only [Act.put, List.setIfInBounds_toArray, List.set_cons_zero, List.set_cons_succ]
              refine wpAnyH_take (i := 3) (oi := ⟨_, _, _, _, _, _⟩) (v := ?_) rfl (by kernel_rfl) (by kernel_rfl) (by kernel_rfl) (fun _ _ _ h => h) (Or.inl ⟨by rfl, ?_⟩) (by assumption) ?_
              rotate_left
              · intro w hSw; (try dsimp only at hSw); go_simp <;> with_reducible rfl
              simp only [Act.put, List.setIfInBounds_toArray, List.set_cons_zero, List.set_cons_succ]
              refine wpAnyH_take (i := 4) (oi := ⟨_, _, _, _, _, _⟩) (v := ?_) rfl (by kernel_rfl) (by kernel_rfl) (by kernel_rfl) (fun _ _ _ h => h) (Or.inl ⟨by rfl, ?_⟩) (by assumption) ?_
              rotate_left
              · intro w hSw; (try dsimp only at hSw); go_simp <;> with_reducible rfl
              simp only [Act.put, List.setIfInBounds_toArray, List.set_cons_zero, List.set_cons_succ]
              refine wpAnyH_take (i := 6) (oi := ⟨_, _, _, _, _, _⟩) (v := ?_) rfl (by kernel_rfl) (by kernel_rfl) (by kernel_rfl) (fun _ _ _ h => h) (Or.inl ⟨by rfl, ?_⟩) (by assumption) ?_
              rotate_left
              · intro w hSw; (try dsimp only at hSw); go_simp <;> with_reducible rfl
              simp only [Act.put, List.setIfInBounds_toArray, List.set_cons_zero, List.set_cons_succ]
              refine wpAnyH_take (i := 7) (oi := ⟨_, _, _, _, _, _⟩) (v := ?_) rfl (by kernel_rfl) (by kernel_rfl) (by kernel_rfl) (fun _ _ _ h => h) (Or.inl ⟨by rfl, ?_⟩) (by assumption) ?_
              rotate_left
              · intro w hSw; (try dsimp only at hSw); go_simp <;> with_reducible rfl
              simp only [Act.put, List.setIfInBounds_toArray, List.set_cons_zero, List.set_cons_succ]
              refine wpAnyH_take (i := 8) (oi := ⟨_, _, _, _, _, _⟩) (v := ?_) rfl (by kernel_rfl) (by kernel_rfl) (by kernel_rfl) (fun _ _ _ h => h) (Or.inl ⟨by rfl, ?_⟩) (by assumption) ?_
              rotate_left
              · intro w hSw; (try dsimp only at hSw); go_simp <;> with_reducible rfl
              simp only [Act.put, List.setIfInBounds_toArray, List.set_cons_zero, List.set_cons_succ]
              refine wpAnyH_take (i := 9) (oi := ⟨_, _, _, _, _, _⟩) (v := ?_) rfl (by kernel_rfl) (by kernel_rfl) (by kernel_rfl) (fun _ _ _ h => h) (Or.inl ⟨by rfl, ?_⟩) (by assumption) ?_
              rotate_left
              · intro w hSw; (try dsimp only at hSw); go_simp <;> with_reducible rfl
              simp only [Act.put, List.setIfInBounds_toArray, List.set_cons_zero, List.set_cons_succ]
              refine wpAnyH_take (i := 10) (oi := ⟨_, _, _, _, _, _⟩) (v := ?_) rfl (by kernel_rfl) (by kernel_rfl) (by kernel_rfl) (fun _ _ _ h => h) (Or.inl ⟨by rfl, ?_⟩) (by assumption) ?_
              rotate_left
              · intro w hSw; (try dsimp only at hSw); go_simp <;> with_reducible rfl
              simp only [Act.put, List.setIfInBounds_toArray, List.set_cons_zero, List.set_cons_succ]
              refine wpAnyH_take (i := 11) (oi := ⟨_, _, _, _, _, _⟩) (v := ?_) rfl (by kernel_rfl) (by kernel_rfl) (by kernel_rfl) (fun _ _ _ h => h) (Or.inl ⟨by rfl, ?_⟩) (by assumption) ?_
              rotate_left
              · intro w hSw; (try dsimp only at hSw); go_simp <;> with_reducible rfl
              simp only [Act.put, List.setIfInBounds_toArray, List.set_cons_zero, List.set_cons_succ]
              refine wpAnyH_take (i := 12) (oi := ⟨_, _, _, _, _, _⟩) (v := ?_) rfl (by kernel_rfl) (by kernel_rfl) (by kernel_rfl) (fun _ _ _ h => h) (Or.inl ⟨by rfl, ?_⟩) (by assumption) ?_
              rotate_left
              · intro w hSw; (try dsimp only at hSw); go_simp <;> with_reducible rfl
              simp only [Act.put, List.setIfInBounds_toArray, List.set_cons_zero, List.set_cons_succ]
              refine wpAnyH_take (i := 13) (oi := ⟨_, _, _, _, _, _⟩) (v := ?_) rfl (by kernel_rfl) (by kernel_rfl) (by kernel_rfl) (fun _ _ _ h => h) (Or.inl ⟨by rfl, ?_⟩) (by assumption) ?_
              rotate_left
              · intro w hSw; (try dsimp only at hSw); go_simp <;> with_reducible rfl
              simp only [Act.put, List.setIfInBounds_toArray, List.set_cons_zero, List.set_cons_succ]
              refine wpAnyH_take (i := 14) (oi := ⟨_, _, _, _, _, _⟩) (v := ?_) rfl (by kernel_rfl) (by kernel_rfl) (by kernel_rfl) (fun _ _ _ h => h) (Or.inl ⟨by rfl, ?_⟩) (by assumption) ?_
              rotate_left
              · intro w hSw; (try dsimp only at hSw); go_simp <;> with_reducible rfl
              simp only [Act.put, List.setIfInBounds_toArray, List.set_cons_zero, List.set_cons_succ]
              refine wpAnyH_ready (rs := [5]) (by kernel_rfl) (by simp) ?_
              refine AllReadyH.cons (o := ⟨_, _, _, _, _, _⟩) rfl (fun K hK => ?_) AllReadyH.nil
              go_simp
              go_wp2_with (go_at_call 39; refine (fold_any t1 HNZ.out _).mono ?_; rintro e wF ⟨rfl, hbF⟩)
              have kB1 := kBel.trans (hbF.mono kBel.size)
              refine hK.out _ _ (HKEEP.out _ (kB1.mono hsz2)) (fun hHeld => ?_)
              clear hK K
              refine wpAnyH_ready (rs := [15]) (by kernel_rfl) (by simp) ?_
              refine AllReadyH.cons (o := ⟨_, _, _, _, _, _⟩) rfl (fun K hK => ?_) AllReadyH.nil
              refine step_app rfl (.const (.slice none 0 0)) (.tmp 92) rfl (show OwnB wF wr.heap.size (.slice none 0 0) [] from World.ownsRow_nil _ _ _ _) (HROWW.out _ (kB1.mono hsz2)) kB1.size rfl rfl (by simp; rw [HO3.out]; omega) (fun oA wA hoA hgA _ => ?_)
              have kB2 := kB1.grown hgA kB1.size (by intro k hk; simp [Value.ownBlock] at hk)
              rw [List.nil_append] at hoA
              obtain ⟨aA, cA, rfl⟩ := hoA.shape
              refine hK.out _ _ (HKEEP.out _ (kB2.mono hsz2)) (fun hHeld => ?_)
              clear hK K
              simp only [Act.put, List.setIfInBounds_toArray, List.set_cons_zero, List.set_cons_succ]
              refine wpAnyH_take (i := 16) (oi := ⟨_, _, _, _, _, _⟩) (v := ?_) rfl (by kernel_rfl) (by kernel_rfl) (by kernel_rfl) (fun _ _ _ h => h) (Or.inl ⟨by rfl, ?_⟩) (by assumption) ?_
              rotate_left
              · intro w hSw; (try dsimp only at hSw); go_simp <;> with_reducible rfl
              simp only [Act.put, List.setIfInBounds_toArray, List.set_cons_zero, List.set_cons_succ]
              refine wpAnyH_ready (rs := [17]) (by kernel_rfl) (by simp) ?_
              refine AllReadyH.cons (o := ⟨_, _, _, _, _, _⟩) rfl (fun K hK => ?_) AllReadyH.nil
              go_simp
              have kB3 := kB2.alloc kB2.size (.cells #[.string (strL (foldL t1.data.toList)), .string t2, .slice aA wh.length cA] 54)
              refine hK.out _ _ (HKEEP.out _ (kB3.mono hsz2)) (fun hHeld => ?_)
              clear hK K
              obtain ⟨i0, hi0, hz0, hz1, hz2⟩ := info_parts info63
              have hq3 := HOWN.out.keep kB2
              have hszA : wr.heap.size ≤ wA.heap.size := kB2.size
              have hnew := heap_alloc_new wA (.cells #[.string (strL (foldL t1.data.toList)), .string t2, .slice aA wh.length cA] 54)
              refine wpAnyH_ready (rs := [18]) (by kernel_rfl) (by simp) ?_
              refine AllReadyH.cons (o := ⟨_, _, _, _, _, _⟩) rfl (fun K hK => ?_) AllReadyH.nil
              refine step_append_lies _ rfl (.tmp 78) (.tmp 95) 51 rfl w2.heap.size 54 i0 _ 3 56 Tryz.underlying51 hi0 hz0 hz1 hz2 rfl (by decide) (.slice oa ps.length oc) ps.length (frsV ps) rfl (World.ownsRow.alloc hq3.row _) ⟨wA.heap.size, 0, none⟩ 1 1 [.string (strL (foldL t1.data.toList)), .string t2, .slice aA wh.length cA] rfl rfl (World.news_of_block (cs := #[.string (strL (foldL t1.data.toList)), .string t2, .slice aA wh.length cA]) (t := 54) (fr := (0, 0)) hnew) (by simp [Value.oneCell']) (by omega) (by unfold maxLen; omega) (by omega) (by simp; omega) (wA.heap.size + 1) (by simp) (fun g4 c4 w4 hown4 hg4 hat4 hlt4 => ?_)
              have kB4 := (kB3.mono hsz2).grown hg4 (by have := kB3.size; omega) (fun j e => HOWN.out.ownLe j e)
              refine hK.out _ _ (HKEEP.out _ kB4) (fun hHeld => ?_)
              clear hK K
              simp only [Act.put, List.setIfInBounds_toArray, List.set_cons_zero, List.set_cons_succ]
              refine wpAnyH_take (i := 19) (oi := ⟨_, _, _, _, _, _⟩) (v := ?_) rfl (by kernel_rfl) (by kernel_rfl) (by kernel_rfl) (fun _ _ _ h => h) (Or.inl ⟨by rfl, ?_⟩) (by assumption) ?_
              rotate_left
              · intro w hSw; (try dsimp only at hSw); go_simp <;> with_reducible rfl
              simp only [Act.put, List.setIfInBounds_toArray, List.set_cons_zero, List.set_cons_succ]
              refine wpAnyH_done (by kernel_rfl) ?_ _
              have hown3 : OwnQ w4 w2.heap.size (.slice (some ⟨g4, 0, none⟩) (ps.length + 1) c4) (ps ++ [(⟨nameT (d :: y), (d :: y).drop (q + 1), wh⟩, .slice aA wh.length cA)]) := by
                refine OwnQ.add (hq3.keep ((Below.refl _ wA).alloc (Nat.le_refl _) _)) (ownB_base (hoA.alloc _) hsz2) (fun p hp j h1 h2 => ?_) hg4 ?_
                · have h3 := ownB_lt (HOWN.out.raws p hp) j h1
                  have h4 := hoA.ownLe j h2
                  omega
                · rw [HNMT.out] at hown4
                  rw [show strT ((d :: y).drop (q + 1)) = t2 from HS2.out]
                  exact hown4
              have hmapF : (ps ++ [((⟨nameT (d :: y), (d :: y).drop (q + 1), wh⟩ : Fd), Value.slice aA wh.length cA)]).map (·.1) = allF (stK r (k + 1)) := by
                rw [HST2.out, List.map_append, HINV.out]
                rfl
              have hlF : (ps ++ [((⟨nameT (d :: y), (d :: y).drop (q + 1), wh⟩ : Fd), Value.slice aA wh.length cA)]).length = ps.length + 1 := by simp
              have hb1 : Below w.heap.size w w4 := HBEL.out.trans (kB4.mono (by omega))
              have hb2 : Below w2.heap.size w2 w4 := HBEL2.out.trans kB4
              have HOW3 := Lib.hid hown3
              have HMF := Lib.hid hmapF
              have HLF := Lib.hid hlF
              have HB1F := Lib.hid hb1
              have HB2F := Lib.hid hb2
              clear hown3 hmapF hlF hb1 hb2 hown4 hg4 hat4 hlt4 kB1 kB2 kB3 kB4 hq3 hnew hoA hgA hbF hHeld hi0 hz0 hz1 hz2
              go_wp2_with fail
              go_roundw
              case rel => exact ⟨k + 1, _, _, c4, by omega, by go_num, by rw [HST2.out]; rfl, by rw [HLF.out], HOW3.out, Lib.hid ⟨HMF.out, HNX2.out⟩, HB1F.out, HB2F.out⟩
              case measure => simp [RowKit.intOf]; omega
        · rw [hgo] at hwh
          have HWH := Lib.hid hwh
          cases hop : St.2 with
          | none =>
            have HNS : Hid (stK r (k + 1) = St) := Lib.hid (by
              rw [HSTEP.out]
              unfold stepF
              rw [hgo, if_pos rfl, hop]
              obtain ⟨s1, s2⟩ := St
              simp only at hop
              rw [hop]
              rfl)
            have HOP := Lib.hid hop
            simp only [Option.isSome_none]
            clear hwh hop hgo
            go_wp2_with (first | (go_at_call 35; refine HBA.out.mono ?_; rintro e w3 ⟨rfl, rfl⟩) | (go_at_call 37; refine HWH.out.mono ?_; rintro e w3 ⟨rfl, rfl⟩))
            go_roundw
            case rel => exact ⟨k + 1, ps, oa, oc, by omega, by go_num, by rw [HNS.out, HOP.out]; rfl, rfl, HOWN.out, Lib.hid ⟨by rw [HNS.out]; exact HINV.out, HNX2.out⟩, HBEL.out, HBEL2.out⟩
            case measure => simp [RowKit.intOf]; omega
          | some f =>
            have hinv2 := HINV.out
            unfold allF at hinv2
            rw [hop] at hinv2
            obtain ⟨qs, rv, rfl, hqs⟩ := snoc_map hinv2
            obtain ⟨g, cap2, hsl, hBg, hgl, hc1, hc2, hf1, hf2, hcap2, C, hC⟩ := OwnQ.last HOWN.out
            simp only [List.length_append, List.length_cons, List.length_nil, Nat.zero_add, Value.slice.injEq] at hsl
            obtain ⟨rfl, -, rfl⟩ := hsl
            obtain ⟨hT, hR⟩ := HLE1.out f hop
            have hrow : RowB wr (.slice (some ⟨lb, lo + s, none⟩) m (cap - s)) (d :: y) := by
              have := HCT.out.row (cap := cap - s) (by rw [HTL.out]; omega) (by unfold maxLen; omega) HBT.out
              rwa [HTL.out] at this
            have hcv := run_str (w := wr.drew) hrow
            have hz1 : (strT f.T).size ≤ 10000000000 := by rw [strT_size]; exact hT
            have hz2 : (strN (d :: y)).size ≤ 100000 := by have e := strT_size (d :: y); have e2 : strN (d :: y) = strT (d :: y) := rfl; rw [e2, e, HTL.out]; omega
            have HST2 : Hid (stK r (k + 1) = (St.1, some ⟨f.nm, f.T ++ (d :: y), f.R ++ wh⟩)) := Lib.hid (by
              rw [HSTEP.out]
              unfold stepF
              rw [hgo, if_pos rfl, hop]
              rfl)
            have HQS := Lib.hid hqs
            have HOP := Lib.hid hop
            have HR := Lib.hid hR
            have HC := Lib.hid hC
            have HROW := Lib.hid hrow
            simp only [List.length_append, List.length_cons, List.length_nil, Nat.zero_add, Option.isSome_some]
            simp only [List.length_append, List.length_cons, List.length_nil, Nat.zero_add] at HOWN hpl
            obtain ⟨q, hq⟩ : ∃ q, qs.length = q := ⟨_, rfl⟩
            rw [hq] at hc1 hc2 hf1 hf2 hcap2 HOWN hpl ⊢
            have HQ := Lib.hid hq
            have hqi : (q : Int) < (oc : Int) := by omega
            clear hwh hop hgo hinv2 hqs hC hrow hq hR hT
            go_wp2_with (first | (go_at_call 35; refine HBA.out.mono ?_; rintro e w3 ⟨rfl, rfl⟩) | (go_at_call 37; refine HWH.out.mono ?_; rintro e w3 ⟨rfl, rfl⟩))
            go_region
            have hs12 : strT f.T ++ strN (d :: y) = strT (f.T ++ (d :: y)) := (strT_append f.T (d :: y)).symm
            rw [hs12]
            have hown1 : OwnQ (wr.setCell ⟨g, q * 3 + 1, none⟩ (.string (strT (f.T ++ (d :: y))))) w2.heap.size (.slice (some ⟨g, 0, none⟩) (q + 1) oc) (qs ++ [(⟨f.nm, f.T ++ (d :: y), f.R⟩, rv)]) := by
              have := OwnQ.text (T' := f.T ++ (d :: y)) HOWN.out (by rw [HQ.out])
              rwa [HQ.out] at this
            have hbelA : Below w.heap.size w (wr.setCell ⟨g, q * 3 + 1, none⟩ (.string (strT (f.T ++ (d :: y))))) := HBEL.out.setCell (p := ⟨g, q * 3 + 1, none⟩) (by show w.heap.size ≤ g; omega) _
            have hbelB : Below w2.heap.size w2 (wr.setCell ⟨g, q * 3 + 1, none⟩ (.string (strT (f.T ++ (d :: y))))) := HBEL2.out.setCell (p := ⟨g, q * 3 + 1, none⟩) hBg _
            have hrowW : RowB (wr.setCell ⟨g, q * 3 + 1, none⟩ (.string (strT (f.T ++ (d :: y))))) (.slice (some ⟨lb, lo + s, none⟩) c (cap - s)) wh := by
              have hb9 : Below (lb + 1) wr (wr.setCell ⟨g, q * 3 + 1, none⟩ (.string (strT (f.T ++ (d :: y))))) := (Below.refl _ wr).setCell (p := ⟨g, q * 3 + 1, none⟩) (by show lb + 1 ≤ g; omega) _
              have := (HCW.out.kept hb9 (fun _ => by omega)).row (cap := cap - s) (by rw [HO3.out]; omega) (by unfold maxLen; omega) HBW.out
              rwa [HO3.out] at this
            have hlc : (wr.setCell ⟨g, q * 3 + 1, none⟩ (.string (strT (f.T ++ (d :: y))))).cell? ⟨lg, k, none⟩ = some (.slice (some ⟨lb, lo + s, none⟩) c (cap - s)) := by
              have hb9 : Below (lg + 1) wr (wr.setCell ⟨g, q * 3 + 1, none⟩ (.string (strT (f.T ++ (d :: y))))) := (Below.refl _ wr).setCell (p := ⟨g, q * 3 + 1, none⟩) (by show lg + 1 ≤ g; omega) _
              exact (hb9.cell (p := ⟨lg, k, none⟩) (by show lg < lg + 1; omega)).trans hcellr
            clear hs12 hcv hcellr
            generalize wr.setCell ⟨g, q * 3 + 1, none⟩ (.string (strT (f.T ++ (d :: y)))) = W1 at *
            obtain ⟨g1, cap1, hsl1, hBg1, hgl1, d1, d2, e1, e2, hcap1, C1, hC1⟩ := OwnQ.last hown1
            simp only [Value.slice.injEq, Option.some.injEq, Addr.mk.injEq, and_true] at hsl1
            obtain ⟨rfl, hq1, rfl⟩ := hsl1
            rw [HQ.out] at d1 d2 e1 e2
            have hrawW := hown1.raws (⟨f.nm, f.T ++ (d :: y), f.R⟩, rv) (by simp)
            simp only at hrawW d2
            have HOWN1 := Lib.hid hown1
            have HBA1 := Lib.hid hbelA
            have HBB1 := Lib.hid hbelB
            have HRW := Lib.hid hrowW
            have HRAW := Lib.hid hrawW
            clear hown1 hbelA hbelB hrowW hrawW hC1 hq1 hc1 hc2 hf1 hf2 hgl
            go_wp2_with fail
            refine wp_region_held_drew (S := fun w' => w'.cell? ⟨lg, k, none⟩ = some (.slice (some ⟨lb, lo + s, none⟩) c (cap - s))) (by kernel_rfl) hlc (fun hHeld => ?_)
            refine wpAnyH_take (i := 0) (oi := ⟨_, _, _, _, _, _⟩) (v := ?_) rfl (by kernel_rfl) (by kernel_rfl) (by kernel_rfl) (fun _ _ _ h => h) (Or.inl ⟨by rfl, ?_⟩) (by assumption) ?_
            rotate_left
            · intro w hSw; (try dsimp only at hSw); go_simp <;> with_reducible rfl
            simp only [Act.put, List.setIfInBounds_toArray, List.set_cons_zero, List.set_cons_succ]
            refine wpAnyH_take (i := 1) (oi := ⟨_, _, _, _, _, _⟩) (v := ?_) rfl (by kernel_rfl) (by kernel_rfl) (by kernel_rfl) (fun _ _ _ h => h) (Or.inl ⟨by rfl, ?_⟩) (by assumption) ?_
            rotate_left
            · intro w hSw; (try dsimp only at hSw); go_simp <;> with_reducible rfl
            simp only [Act.put, List.setIfInBounds_toArray, List.set_cons_zero, List.set_cons_succ]
            refine wpAnyH_take (i := 2) (oi := ⟨_, _, _, _, _, _⟩) (v := ?_) rfl (by kernel_rfl) (by kernel_rfl) (by kernel_rfl) (fun _ _ _ h => h) (Or.inl ⟨by rfl, ?_⟩) (by assumption) ?_
            rotate_left
            · intro w hSw; (try dsimp only at hSw); go_simp <;> with_reducible rfl
            simp only [Act.put, List.setIfInBounds_toArray, List.set_cons_zero, List.set_cons_succ]
            refine wpAnyH_take (i := 3) (oi := ⟨_, _, _, _, _, _⟩) (v := ?_) rfl (by kernel_rfl) (by kernel_rfl) (by kernel_rfl) (fun _ _ _ h => h) (Or.inl ⟨by rfl, ?_⟩) (by assumption) ?_
            rotate_left
            · intro w hSw; (try dsimp only at hSw); go_simp <;> with_reducible rfl
            simp only [Act.put, List.setIfInBounds_toArray, List.set_cons_zero, List.set_cons_succ]
            refine wpAnyH_take (i := 5) (oi := ⟨_, _, _, _, _, _⟩) (v := ?_) rfl (by kernel_rfl) (by kernel_rfl) (by kernel_rfl) (fun _ _ _ h => h) (Or.inl ⟨by rfl, ?_⟩) (by assumption) ?_
            rotate_left
            · intro w hSw; (try dsimp only at hSw); go_simp <;> with_reducible rfl
            simp only [Act.put, List.setIfInBounds_toArray, List.set_cons_zero, List.set_cons_succ]
            refine wpAnyH_take (i := 6) (oi := ⟨_, _, _, _, _, _⟩) (v := ?_) rfl (by kernel_rfl) (by kernel_rfl) (by kernel_rfl) (fun _ _ _ h => h) (Or.inl ⟨by rfl, ?_⟩) (by assumption) ?_
            rotate_left
            · intro w hSw; (try dsimp only at hSw); go_simp <;> with_reducible rfl
            simp only [Act.put, List.setIfInBounds_toArray, List.set_cons_zero, List.set_cons_succ]
            refine wpAnyH_take (i := 7) (oi := ⟨_, _, _, _, _, _⟩) (v := ?_) rfl (by kernel_rfl) (by kernel_rfl) (by kernel_rfl) (fun _ _ _ h => h) (Or.inl ⟨by rfl, ?_⟩) (by assumption) ?_
            rotate_left
            · intro w hSw; (try dsimp only at hSw); go_simp <;> with_reducible rfl
            simp only [Act.put, List.setIfInBounds_toArray, List.set_cons_zero, List.set_cons_succ]
            refine wpAnyH_take (i := 8) (oi := ⟨_, _, _, _, _, _⟩) (v := ?_) rfl (by kernel_rfl) (by kernel_rfl) (by kernel_rfl) (fun _ _ _ h => h) (Or.inl ⟨by rfl, ?_⟩) (by assumption) ?_
            rotate_left
            · intro w hSw; (try dsimp only at hSw); go_simp <;> with_reducible rfl
            simp only [Act.put, List.setIfInBounds_toArray, List.set_cons_zero, List.set_cons_succ]
            refine wpAnyH_ready (rs := [4]) (by kernel_rfl) (by simp) ?_
            refine AllReadyH.cons (o := ⟨_, _, _, _, _, _⟩) rfl (fun K hK => ?_) AllReadyH.nil
            go_simp
            refine hK.out _ _ hHeld (fun _ => ?_)
            clear hK K
            refine wpAnyH_ready (rs := [9]) (by kernel_rfl) (by simp) ?_
            refine AllReadyH.cons (o := ⟨_, _, _, _, _, _⟩) rfl (fun K hK => ?_) AllReadyH.nil
            refine step_app rfl (.tmp 65) (.tmp 69) rfl (show OwnB W1.drew w2.heap.size rv f.R from HRAW.out) (show RowB W1.drew _ wh from HRW.out) (by show w2.heap.size ≤ W1.heap.size; omega) rfl rfl (by have := HR.out; rw [HO3.out]; omega) (fun o3 w3x ho3 hg3 hm3 => ?_)
            have hb3 : w3x.cell? ⟨lg, k, none⟩ = some (.slice (some ⟨lb, lo + s, none⟩) c (cap - s)) := (World.cell?_of_block (hg3.block lg (by show lg < W1.heap.size; omega) (fun e => by have := HRAW.out.ownLe _ e.symm; omega))).trans hHeld
            have hng : rv.ownBlock ≠ some g := fun e => ownBQ HRAW.out HOWN1.out g e rfl
            have y3 : w3x.frozen? ⟨g, q * 3 + 2, none⟩ = false := (World.frozen?_of_block (hg3.block g (by show g < W1.heap.size; omega) (fun e => hng e.symm))).trans e2
            have z3 : w3x.cell? ⟨g, q * 3 + 2, none⟩ = some rv := (World.cell?_of_block (hg3.block g (by show g < W1.heap.size; omega) (fun e => hng e.symm))).trans d2
            obtain ⟨oa3, oc3, rfl⟩ := ho3.shape
            simp only [List.length_append] at ho3 hm3
            have HO3R := Lib.hid ho3
            have HG3 := Lib.hid hg3
            have HM3 := Lib.hid hm3
            clear ho3 hg3 hm3 hng
            refine hK.out _ _ hb3 (fun hHeld3 => ?_)
            clear hK K
            simp only [Act.put, List.setIfInBounds_toArray, List.set_cons_zero, List.set_cons_succ]
            refine wpAnyH_take (i := 10) (oi := ⟨_, _, _, _, _, _⟩) (v := ?_) rfl (by kernel_rfl) (by kernel_rfl) (by kernel_rfl) (fun _ _ _ h => h) (Or.inl ⟨by rfl, ?_⟩) (by assumption) ?_
            rotate_left
            · intro w hSw; (try dsimp only at hSw); go_simp <;> with_reducible rfl
            simp only [Act.put, List.setIfInBounds_toArray, List.set_cons_zero, List.set_cons_succ]
            refine wpAnyH_take (i := 11) (oi := ⟨_, _, _, _, _, _⟩) (v := ?_) rfl (by kernel_rfl) (by kernel_rfl) (by kernel_rfl) (fun _ _ _ h => h) (Or.inl ⟨by rfl, ?_⟩) (by assumption) ?_
            rotate_left
            · intro w hSw; (try dsimp only at hSw); go_simp <;> with_reducible rfl
            simp only [Act.put, List.setIfInBounds_toArray, List.set_cons_zero, List.set_cons_succ]
            refine wpAnyH_ready (rs := [12]) (by kernel_rfl) (by simp) ?_
            refine AllReadyH.cons (o := ⟨_, _, _, _, _, _⟩) rfl (fun K hK => ?_) AllReadyH.nil
            go_simp
            refine hK.out _ _ (show (w3x.setCell _ _).cell? _ = _ from (World.cell?_of_block (Below.heap_setCell w3x _ _ _ (by show lg ≠ g; omega))).trans hHeld3) (fun _ => ?_)
            clear hK K
            refine wpAnyH_done (by kernel_rfl) ?_ _
            have hown3 : OwnQ (w3x.setCell ⟨g, q * 3 + 2, none⟩ (.slice oa3 (f.R.length + wh.length) oc3)) w2.heap.size (.slice (some ⟨g, 0, none⟩) (q + 1) oc) (qs ++ [(⟨f.nm, f.T ++ (d :: y), f.R ++ wh⟩, .slice oa3 (f.R.length + wh.length) oc3)]) := by
              have h1 : OwnQ W1.drew.drew w2.heap.size (.slice (some ⟨g, 0, none⟩) (q + 1) oc) (qs ++ [(⟨f.nm, f.T ++ (d :: y), f.R⟩, rv)]) := ⟨HOWN1.out.row, HOWN1.out.raws, HOWN1.out.apart⟩
              have := OwnQ.raw h1 (by rw [HQ.out]) HO3R.out HG3.out HM3.out
              rwa [HQ.out] at this
            have hb1 : Below w.heap.size w (w3x.setCell ⟨g, q * 3 + 2, none⟩ (.slice oa3 (f.R.length + wh.length) oc3)) := (HBA1.out.drew.drew.grown HG3.out (by show w.heap.size ≤ W1.heap.size; omega) (fun j e => by have := HRAW.out.ownLe j e; omega)).setCell (p := ⟨g, q * 3 + 2, none⟩) (by show w.heap.size ≤ g; omega) _
            have hb2 : Below w2.heap.size w2 (w3x.setCell ⟨g, q * 3 + 2, none⟩ (.slice oa3 (f.R.length + wh.length) oc3)) := (HBB1.out.drew.drew.grown HG3.out (by show w2.heap.size ≤ W1.heap.size; omega) (fun j e => HRAW.out.ownLe j e)).setCell (p := ⟨g, q * 3 + 2, none⟩) (by show w2.heap.size ≤ g; omega) _
            have HOW3 := Lib.hid hown3
            have HB1F := Lib.hid hb1
            have HB2F := Lib.hid hb2
            have hmapF : (qs ++ [((⟨f.nm, f.T ++ (d :: y), f.R ++ wh⟩ : Fd), Value.slice oa3 (f.R.length + wh.length) oc3)]).map (·.1) = allF (stK r (k + 1)) := by
              rw [HST2.out, List.map_append, HQS.out]
              rfl
            have hlF : (qs ++ [((⟨f.nm, f.T ++ (d :: y), f.R ++ wh⟩ : Fd), Value.slice oa3 (f.R.length + wh.length) oc3)]).length = q + 1 := by simp [HQ.out]
            have HMF := Lib.hid hmapF
            have HLF := Lib.hid hlF
            clear hown3 hb1 hb2 hmapF hlF
            go_wp2_with fail
            go_roundw
            case rel => exact ⟨k + 1, _, _, oc, by omega, by go_num, by rw [HST2.out]; rfl, by rw [HLF.out], HOW3.out, Lib.hid ⟨HMF.out, HNX2.out⟩, HB1F.out, HB2F.out⟩
            case measure => simp [RowKit.intOf]; omega
    · obtain rfl : k = xs.length := by omega
      have HF : Hid (ps.map (·.1) = fieldsS l) := Lib.hid (by rw [hinv.out.1, HEND.out (by have := hinv.out.2; rwa [List.take_length] at this), HFULL.out])
      have HOWN := Lib.hid hown
      clear hinv hown
      go_wp2_with fail
      go_ret
      exact ⟨_, ps, rfl, HOWN.out.base (by omega), HF.out, hbel⟩
end Go.Proofs.YtnncldnpkfjhbaaGreatDoor
