/-
  The law's own evict.
-/
import Derived.Test.YthmnbjdmbajhkaaPickP
import Derived.Test.YthmnbjdmbajhkaaLawF
import Derived.Lib.QuietBelow
import Derived.BigQuiet
import Derived.Deep.CutBlock
import Derived.StillTailTactics
namespace Go.Proofs.Ythmnbjdmbajhkaa
set_option linter.unusedVariables false
open Go.RowKit Go.Sort
attribute [local go_sem] Oper.semAt_some

/-- what it answers -/
def EvOut (b : Int) (E : List (Th × Nat)) (L : List Th) (H : List (Th × Bool)) (w w' : World) (gv lv : Value) : Prop :=
  ∃ H', w'.ownsRow w.heap.size 31 2 gv (evS b E L).2.2.length (idC (evS b E L).2.2) ∧ HRow w' w.heap.size lv H' ∧ Rel (evS b E L).1 (evS b E L).2.1 H' ∧ (∀ x ∈ H', x ∈ H) ∧ Below w.heap.size w w'
set_option maxRecDepth 100000 in
set_option maxHeartbeats 8000000 in
theorem evictL_any {E : List (Th × Nat)} {L : List Th} {H : List (Th × Bool)} (h : Rel E L H) (b : Int) (C : Nat) (v : Value) (w : World) (hr : HRow w C v H) :
    Calls Try.prog 13 #[v, .int .i64 b] w fun e w' => ∃ gv lv, e = .returned (.tuple #[gv, lv]) ∧ EvOut b E L H w w' gv lv := by
  have hlen : H.length ≤ 65536 := by rw [h.len]; exact h.good.cnt
  have HR := Lib.hid h
  have HC := Lib.hid (run_copyH hr 28 (by omega))
  clear h hr
  go_enter Try.func13, Try.ntmps13
  go_wp2_with (at_builtin
               refine wpList_appH (R := fun v' w' => HRow w' w.heap.size v' H ∧ Below w.heap.size w w') rfl (.const (.slice none 0 0)) (.tmp 9) rfl rfl rfl HC.out ?_
               rintro v0 w1 ⟨h1, hb1⟩
               have H1 := Lib.hid h1
               have HB1 := Lib.hid hb1
               clear h1 hb1)
  go_loopw [0, 6] (fun lv gv wr => ∃ (E1 : List (Th × Nat)) (L1 : List Th) (H1 : List (Th × Bool)) (G : List Th), Rel E1 L1 H1 ∧ HRow wr w.heap.size lv H1 ∧ wr.ownsRow w.heap.size 31 2 gv G.length (idC G) ∧ G.length + H1.length ≤ H.length ∧ Hid (evS b E L = ((evS b E1 L1).1, (evS b E1 L1).2.1, G ++ (evS b E1 L1).2.2)) ∧ (∀ x ∈ H1, x ∈ H) ∧ Below w.heap.size w wr) (fun lv _ _ => match lv with | .slice _ n _ => n | _ => 0)
  case atStart => exact ⟨E, L, H, [], HR.out, H1.out, World.ownsRow_nil _ _ _ _, by simp, Lib.hid (by simp), fun _ h => h, HB1.out⟩
  case round =>
    obtain ⟨E1, L1, H2, G, hrel1, hrow, hgv, hcnt, hev, hsub, hb⟩ := hrel
    have HRL := Lib.hid hrel1
    have HRW := Lib.hid hrow
    have HGV := Lib.hid hgv
    have HSUB := Lib.hid hsub
    have HB := Lib.hid hb
    have hszz := sumH_E hrel1.th
    have HSZ := Lib.hid (sizeH_any w.heap.size _ H2 wr hrow (by omega) (fun x hx => by
      obtain ⟨n, hn⟩ := hrel1.mem hx
      exact hrel1.good.rng _ hn))
    rw [hszz] at HSZ
    obtain ⟨la, lc, rfl, -, -, hlg⟩ := hrow.shape
    have HLG := Lib.hid hlg
    have HFIN : Hid (∀ wx, Below wr.heap.size wr wx → evS b E1 L1 = (E1, L1, []) → EvOut b E L H w wx u6 (.slice la H2.length lc)) := Lib.hid (fun wx hbx he => by
      refine ⟨H2, ?_⟩
      rw [hev.out, he]
      simp only [List.append_nil]
      exact ⟨owns_beside' (own := fun _ => False) HGV.out (Below.beside hbx) (fun _ h => h.elim), HRW.out.below hbx, HRL.out, HSUB.out, HB.out.trans (hbx.mono HB.out.size)⟩)
    clear hrel1 hrow hgv hsub hb hszz hlg
    by_cases hgt : sumE E1 > b
    · have HGT := Lib.hid hgt
      have hde : decide (b < sumE E1) = true := decide_eq_true hgt
      generalize hS1 : sumE E1 = S1 at *
      have HS1 := Lib.hid hS1
      clear hS1
      go_wp2_with fail
      refine HSZ.out.mono ?_
      rintro e w2 ⟨rfl, hb2⟩
      have HB2 := Lib.hid hb2
      clear hb2
      go_wp2_with fail
      rename World => wo
      go_loopw [7, 8] (fun kv iv wq => ∃ (i : Nat) (k : Option Nat), iv = .int .i64 i ∧ kv = .int .i64 (kI k) ∧ i ≤ H2.length ∧ Pick H2 i k ∧ Below wr.heap.size wr wq) (fun _ iv _ => H2.length - (RowKit.intOf iv).toNat)
      case atStart => exact ⟨0, none, rfl, rfl, by omega, pick_start H2, HB2.out⟩
      case round =>
        rename World => wq
        obtain ⟨i, k, rfl, rfl, hi, hpk, hbq⟩ := hrel
        have HPK := Lib.hid hpk
        have HBQ := Lib.hid hbq
        have HRQ := Lib.hid (HRW.out.below hbq)
        clear hpk hbq
        by_cases hlt : i < H2.length
        · have hii : (i : Int) < (H2.length : Int) := by omega
          obtain ⟨g, rfl⟩ := HLG.out (by omega)
          obtain ⟨q0, q1, q2, q3, q4⟩ := oneC_at H2 i hlt
          have HX : Hid (H2[i]? = some H2[i]) := Lib.hid (List.getElem?_eq_getElem hlt)
          have a0 : wq.cell? ⟨g, i * 5, none⟩ = some (.int .u32 H2[i].1.v) := HRQ.out.cell (by rw [Nat.mul_comm i 5]; exact q0)
          have a1 : wq.cell? ⟨g, i * 5 + 1, none⟩ = some (.int .u32 H2[i].1.u) := HRQ.out.cell (by rw [Nat.mul_comm i 5]; exact q1)
          have a2 : wq.cell? ⟨g, i * 5 + 2, none⟩ = some (.int .i64 H2[i].1.size) := HRQ.out.cell (by rw [Nat.mul_comm i 5]; exact q2)
          have a3 : wq.cell? ⟨g, i * 5 + 3, none⟩ = some (.int .i64 H2[i].1.used) := HRQ.out.cell (by rw [Nat.mul_comm i 5]; exact q3)
          have a4 : wq.cell? ⟨g, i * 5 + 4, none⟩ = some (.bool H2[i].2) := HRQ.out.cell (by rw [Nat.mul_comm i 5]; exact q4)
          clear q0 q1 q2 q3 q4
          generalize H2[i] = x at *
          obtain ⟨xt, xq⟩ := x
          have c0 := fun n os => cell_regrown a0 n os
          have c1 := fun n os => cell_regrown a1 n os
          have c2 := fun n os => cell_regrown a2 n os
          have c3 := fun n os => cell_regrown a3 n os
          have c4 := fun n os => cell_regrown a4 n os
          clear a0 a1 a2 a3 a4
          simp only at c0 c1 c2 c3 c4
          cases xq with
          | false =>
            go_wp2_with fail
            refine wp_region_quiet_below (by kernel_rfl) (by kernel_rfl) ?_
            repeat (go_big_quiet_step (fail))
            refine wpQuiet_nil ?_
            intro _ hw'
            obtain ⟨p, rfl⟩ := hw'
            clear c0 c1 c2 c3 c4
            go_wp2_with fail
            go_roundw
            case rel => exact ⟨i + 1, k, by go_num, rfl, hlt, HPK.out.skip HX.out rfl, HBQ.out.trans ((below_regrown wq p.d p.os).mono HBQ.out.size)⟩
            case measure => simp [RowKit.intOf]; omega
          | true =>
            cases k with
            | none =>
              have e : kI none = -1 := rfl
              rw [e]
              go_wp2_with fail
              refine wp_region_quiet_below (by kernel_rfl) (by kernel_rfl) ?_
              repeat (go_big_quiet_step (fail))
              refine wpQuiet_nil ?_
              intro _ hw'
              obtain ⟨p, rfl⟩ := hw'
              clear c0 c1 c2 c3 c4
              go_wp2_with fail
              go_roundw
              case rel => exact ⟨i + 1, some i, by go_num, rfl, hlt, HPK.out.first HX.out rfl, HBQ.out.trans ((below_regrown wq p.d p.os).mono HBQ.out.size)⟩
              case measure => simp [RowKit.intOf]; omega
            | some m =>
              have e : kI (some m) = (m : Int) := rfl
              rw [e]
              obtain ⟨hmi, y, hy, hyq, -⟩ := HPK.out.som m rfl
              have hmlt : m < H2.length := by omega
              have hmi2 : (m : Int) < (H2.length : Int) := by omega
              have hm0 : ¬ (m : Int) < 0 := by omega
              have hmd : decide ((m : Int) < 0) = false := decide_eq_false (by omega)
              have hym : H2[m] = y := by rw [List.getElem?_eq_getElem hmlt] at hy; exact Option.some.inj hy
              obtain ⟨q0, q1, q2, q3, q4⟩ := oneC_at H2 m hmlt
              rw [hym] at q0 q1 q2 q3 q4
              have b0 : wq.cell? ⟨g, m * 5, none⟩ = some (.int .u32 y.1.v) := HRQ.out.cell (by rw [Nat.mul_comm m 5]; exact q0)
              have b1 : wq.cell? ⟨g, m * 5 + 1, none⟩ = some (.int .u32 y.1.u) := HRQ.out.cell (by rw [Nat.mul_comm m 5]; exact q1)
              have b2 : wq.cell? ⟨g, m * 5 + 2, none⟩ = some (.int .i64 y.1.size) := HRQ.out.cell (by rw [Nat.mul_comm m 5]; exact q2)
              have b3 : wq.cell? ⟨g, m * 5 + 3, none⟩ = some (.int .i64 y.1.used) := HRQ.out.cell (by rw [Nat.mul_comm m 5]; exact q3)
              have b4 : wq.cell? ⟨g, m * 5 + 4, none⟩ = some (.bool y.2) := HRQ.out.cell (by rw [Nat.mul_comm m 5]; exact q4)
              have d0 := fun n os => cell_regrown b0 n os
              have d1 := fun n os => cell_regrown b1 n os
              have d2 := fun n os => cell_regrown b2 n os
              have d3 := fun n os => cell_regrown b3 n os
              have d4 := fun n os => cell_regrown b4 n os
              have HY := Lib.hid hy
              have HLS := fun W => lessH_any xt y.1 true y.2 W
              clear q0 q1 q2 q3 q4 b0 b1 b2 b3 b4 hym hy hyq
              obtain ⟨yt, yq⟩ := y
              simp only at d0 d1 d2 d3 d4 HLS
              cases hl : ltB xt yt
              · rw [hl] at HLS
                have HLL := Lib.hid hl
                have HLS' := Lib.hid HLS
                clear hl HLS
                go_wp2_with fail
                refine wp_region_quiet_below (by kernel_rfl) (by kernel_rfl) ?_
                repeat (go_big_quiet_step ((go_at_call 26; exact Calls.regrown_of (HLS'.out _))))
                refine wpQuiet_nil ?_
                intro _ hw'
                obtain ⟨p, rfl⟩ := hw'
                clear c0 c1 c2 c3 c4 d0 d1 d2 d3 d4
                go_wp2_with fail
                go_roundw
                case rel => exact ⟨i + 1, some m, by go_num, rfl, hlt, HPK.out.stay HX.out HY.out HLL.out, HBQ.out.trans ((below_regrown wq p.d p.os).mono HBQ.out.size)⟩
                case measure => simp [RowKit.intOf]; omega
              · rw [hl] at HLS
                have HLL := Lib.hid hl
                have HLS' := Lib.hid HLS
                clear hl HLS
                go_wp2_with fail
                refine wp_region_quiet_below (by kernel_rfl) (by kernel_rfl) ?_
                repeat (go_big_quiet_step ((go_at_call 26; exact Calls.regrown_of (HLS'.out _))))
                refine wpQuiet_nil ?_
                intro _ hw'
                obtain ⟨p, rfl⟩ := hw'
                clear c0 c1 c2 c3 c4 d0 d1 d2 d3 d4
                go_wp2_with fail
                go_roundw
                case rel => exact ⟨i + 1, some i, by go_num, rfl, hlt, HPK.out.next HX.out HY.out rfl HLL.out, HBQ.out.trans ((below_regrown wq p.d p.os).mono HBQ.out.size)⟩
                case measure => simp [RowKit.intOf]; omega
        · have hii : ¬ (i : Int) < (H2.length : Int) := by omega
          obtain rfl : i = H2.length := by omega
          cases k with
          | none =>
            have e : kI none = -1 := rfl
            rw [e]
            have HE : Hid (evS b E1 L1 = (E1, L1, [])) := Lib.hid (by
              have := HRL.out.pick_none HPK.out
              subst this
              exact evS_nil b E1)
            go_wp2_with fail
            exact bodyPost_ret (v := .tuple #[u6, .slice la H2.length lc]) (by simp [results, Try.results13, go_sem]) rfl ⟨_, _, rfl, HFIN.out _ HBQ.out HE.out⟩
          | some m =>
            have e : kI (some m) = (m : Int) := rfl
            rw [e]
            have hm0 : ¬ (m : Int) < 0 := by omega
            have hmd : decide ((m : Int) < 0) = false := decide_eq_false (by omega)
            obtain ⟨x, L2, hmlt, hL1, hHx, hat⟩ := HRL.out.pick_some HPK.out
            have hmi2 : (m : Int) < (H2.length : Int) := by omega
            obtain ⟨g, rfl⟩ := HLG.out (by omega)
            obtain ⟨q0, q1, -⟩ := oneC_at H2 m hmlt
            rw [hHx] at q0 q1
            have a0 : wq.cell? ⟨g, m * 5, none⟩ = some (.int .u32 x.v) := HRQ.out.cell (by rw [Nat.mul_comm m 5]; exact q0)
            have a1 : wq.cell? ⟨g, m * 5 + 1, none⟩ = some (.int .u32 x.u) := HRQ.out.cell (by rw [Nat.mul_comm m 5]; exact q1)
            subst hL1
            have HGO : Hid (evS b E1 (x :: L2) = ((evS b (E1.eraseIdx m) (popL (x :: L2))).1, (evS b (E1.eraseIdx m) (popL (x :: L2))).2.1, x :: (evS b (E1.eraseIdx m) (popL (x :: L2))).2.2)) := Lib.hid (evS_go (by rw [HS1.out]; exact HGT.out) hat)
            have HNR := Lib.hid (HRL.out.pop hat)
            have HGQ : Hid (wq.ownsRow w.heap.size 31 2 u6 G.length (idC G)) := Lib.hid (owns_beside' (own := fun _ => False) HGV.out (Below.beside HBQ.out) (fun _ h => h.elim))
            have HWQ : Hid (Below w.heap.size w wq) := Lib.hid (HB.out.trans (HBQ.out.mono HB.out.size))
            have hsz : w.heap.size ≤ wq.heap.size := HWQ.out.size
            have hGn : G.length ≤ 1000000 := by omega
            clear q0 q1 hHx hat
            go_wp2_with (at_builtin
                         refine appJ rfl (.tmp 44) (.tmp 50) rfl rfl rfl (by simp) HGQ.out hsz hGn ?_
                         intro v' w3 ho3 hb3 hat3
                         have HO3 := Lib.hid ho3
                         have HB3 := Lib.hid hb3
                         have HAT3 := Lib.hid hat3
                         clear ho3 hb3 hat3)
            have HRC : Hid (HRow w3 w.heap.size (.slice (some ⟨g, 0, none⟩) H2.length lc) H2) := Lib.hid (HRQ.out.beside HB3.out (fun k hk e => by
              obtain ⟨-, -, cur, hc⟩ := HRQ.out.block e
              rcases HGQ.out.2 with ⟨h0, _⟩ | ⟨g', c', cur', h0, _, hh, _⟩
              · rw [h0] at hk; cases hk
              · have hk' : (Value.slice (some ⟨g', 0, none⟩) G.length c').ownBlock = some k := by rw [← h0]; exact hk
                simp only [Value.ownBlock, Option.some.injEq] at hk'
                subst hk'
                have := hc.symm.trans hh
                cases this))
            obtain ⟨-, cur, -, -, hlc1, hlc2, -⟩ := HRC.out.at
            have i1 : (m : Int) ≤ (lc : Int) := by omega
            obtain ⟨m1, hm1⟩ : ∃ m1, m + 1 = m1 := ⟨_, rfl⟩
            have i2 : (m : Int) + 1 = (m1 : Int) := by omega
            have i3 : (m1 : Int) ≤ (H2.length : Int) := by omega
            have i4 : (H2.length : Int) ≤ (lc : Int) := by omega
            have hwm : ∀ k : Nat, k ≤ 1000000 → IntKind.i64.wrap (k : Int) = (k : Int) := fun k hk => wrapS (by omega) (by omega)
            have i5 := hwm m1 (by omega)
            have HCUT : Hid (∃ v2 w2, (Builtin.append_ #[28, 28] 28 #[.slice (some ⟨g, 0, none⟩) m lc, .slice (if lc = m1 then some ⟨g, 0, none⟩ else some ⟨g, m1 * 5, none⟩) (H2.length - m1) (lc - m1)]).run Try.prog w3.drew = .ok v2 w2 ∧ HRow w2 w.heap.size v2 (H2.eraseIdx m) ∧ Beside (fun k => k = g) w3.drew w2) := Lib.hid (by
              subst hm1
              have hrd : HRow w3.drew w.heap.size (.slice (some ⟨g, 0, none⟩) H2.length lc) H2 := HRC.out
              have hbd : w.heap.size ≤ w3.drew.heap.size := by show w.heap.size ≤ w3.heap.size; have := HB3.out.size; omega
              split
              · exact run_cutH (w := w3.drew) hrd 28 m lc (lc - (m + 1)) ⟨g, 0, none⟩ (.inr (by omega)) hmlt (by omega) (Nat.le_refl _) (by omega) hbd
              · exact run_cutH (w := w3.drew) hrd 28 m lc (lc - (m + 1)) ⟨g, (m + 1) * 5, none⟩ (.inl rfl) hmlt (by omega) (Nat.le_refl _) (by omega) hbd)
            clear hwm
            go_still_tail 7, (by kernel_rfl)
            change wpList Try.prog _ _ _ _ w3.drew
            have HBD : Hid (Beside (fun k => k = g) w3 w3.drew) := Lib.hid ((Beside.refl _ w3).drew)
            generalize w3.drew = wd at *
            refine wpList_appH (v := .slice (some ⟨g, 0, none⟩) m lc) (y := .slice (if lc = m1 then some ⟨g, 0, none⟩ else some ⟨g, m1 * 5, none⟩) (H2.length - m1) (lc - m1)) (R := fun v2 w2 => HRow w2 w.heap.size v2 (H2.eraseIdx m) ∧ Beside (fun k => k = g) wd w2) rfl (.tmp 54) (.tmp 58) rfl rfl rfl HCUT.out ?_
            rintro v2 w4 ⟨h4, hb4⟩
            have H4 := Lib.hid h4
            have HB4 : Hid (Beside (fun k => k = g) w3 w4) := Lib.hid (HBD.out.trans hb4)
            clear h4 hb4
            have hgB : w.heap.size ≤ g := by obtain ⟨-, cur, -, h, -⟩ := HRC.out.at; exact h
            have HGN : Hid (w4.ownsRow w.heap.size 31 2 v' (G ++ [x]).length (idC (G ++ [x]))) := Lib.hid (by
              rw [idC_snoc, List.length_append]
              refine owns_beside' HO3.out HB4.out (fun k hk e => ?_)
              subst hk
              obtain ⟨-, cur, hc, -⟩ := HRC.out.at
              rcases HO3.out.2 with ⟨h0, _⟩ | ⟨g', c', cur', h0, _, hh, _⟩
              · rw [h0] at e; cases e
              · have e' : (Value.slice (some ⟨g', 0, none⟩) (G.length + 1) c').ownBlock = some k := by rw [← h0]; exact e
                simp only [Value.ownBlock, Option.some.injEq] at e'
                subst e'
                have := Eq.trans (Eq.symm hc) hh
                cases this)
            have HW4 : Hid (Below w.heap.size w w4) := Lib.hid ((HWQ.out.trans (HB3.out.below (fun k hk => (World.ownsRow.lt HGQ.out k hk).1) hsz)).trans (HB4.out.below (fun k hk => by subst hk; exact hgB) (by have := HB3.out.size; omega)))
            have HEV : Hid (evS b E L = ((evS b (E1.eraseIdx m) (popL (x :: L2))).1, (evS b (E1.eraseIdx m) (popL (x :: L2))).2.1, (G ++ [x]) ++ (evS b (E1.eraseIdx m) (popL (x :: L2))).2.2)) := Lib.hid (by
              rw [hev.out, HGO.out]
              simp)
            have hel : (H2.eraseIdx m).length + 1 = H2.length := by rw [List.length_eraseIdx, if_pos hmlt]; omega
            have HSB : Hid (∀ y ∈ H2.eraseIdx m, y ∈ H) := Lib.hid (fun y hy => HSUB.out y ((List.eraseIdx_sublist _ _).mem hy))
            have HCN : Hid ((G ++ [x]).length + (H2.eraseIdx m).length ≤ H.length) := Lib.hid (by rw [List.length_append]; simp only [List.length_cons, List.length_nil]; omega)
            obtain ⟨a2, c2, rfl, -⟩ := H4.out.shape
            go_wp2_with fail
            go_roundw
            case rel => exact ⟨E1.eraseIdx m, popL (x :: L2), H2.eraseIdx m, G ++ [x], HNR.out, H4.out, HGN.out, HCN.out, HEV, HSB.out, HW4.out⟩
            case measure => simp; omega
    · have hde : decide (b < sumE E1) = false := decide_eq_false hgt
      have HE := Lib.hid (evS_stop (L := L1) hgt)
      generalize sumE E1 = S1 at *
      go_wp2_with fail
      refine HSZ.out.mono ?_
      rintro e w2 ⟨rfl, hb2⟩
      have HB2 := Lib.hid hb2
      clear hb2
      go_wp2_with fail
      exact bodyPost_ret (v := .tuple #[u6, .slice la H2.length lc]) (by simp [results, Try.results13, go_sem]) rfl ⟨_, _, rfl, HFIN.out _ HB2.out HE.out⟩
end Go.Proofs.Ythmnbjdmbajhkaa
