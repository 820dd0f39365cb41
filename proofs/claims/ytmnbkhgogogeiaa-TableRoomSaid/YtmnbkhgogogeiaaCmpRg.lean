/-
  Compact of a table that has keys.
-/
import Derived.Test.YtmnbkhgogogeiaaBatRg
namespace Go.Proofs.Ytmnbkhgogogeiaa
set_option linter.unusedVariables false
open Go.RowKit

def kvChg (x : KV) : Chg := ⟨x.1, x.2, false⟩
theorem chg_of (L : List Pr) : L.map Pr.chg = (L.map Pr.of).map kvChg := by
  rw [List.map_map]
  rfl
theorem lotN_eq (L : List Pr) : lotN L = weigh (L.map Pr.chg) + 8 * L.length := by
  induction L with
  | nil => rfl
  | cons x r ih =>
    have h1 : lotN (x :: r) = x.key.length + x.val.length + 8 + lotN r := by simp [lotN]
    have h2 : weigh ((x :: r).map Pr.chg) = x.key.length + x.val.length + weigh (r.map Pr.chg) := by simp [weigh, Pr.chg]
    rw [h1, h2, ih, List.length_cons]
    omega
theorem weigh_memP (L : List Pr) (x : Pr) (h : x ∈ L) : x.key.length + x.val.length ≤ weigh (L.map Pr.chg) := by
  induction L with
  | nil => cases h
  | cons y r ih =>
    have h2 : weigh ((y :: r).map Pr.chg) = y.key.length + y.val.length + weigh (r.map Pr.chg) := by simp [weigh, Pr.chg]
    rcases List.mem_cons.1 h with rfl | h
    · omega
    · have := ih h
      omega
theorem Tc.none {B : Nat} {w0 w : World} {pt pl pd : Nat} {kv : Value} {q : Lim} {P : List KV} (h : Tc B w0 w pt pl pd kv q P) : Calls Try.prog 31 #[.pointer (some ⟨pt, 0, none⟩)] w fun e w' => e = .returned (.bool false) ∧ w = w' := by
  obtain ⟨_, ⟨cost, pv, L, ht, _⟩, _⟩ := h
  exact ht.none

set_option maxRecDepth 100000 in
set_option maxHeartbeats 8000000 in
theorem compact_some {B : Nat} {w0 w : World} {pt pl pd : Nat} {kv : Value} {q : Lim} {P : List KV} (h : Tc B w0 w pt pl pd kv q P) (hP0 : P ≠ []) (hlo : 0 < q.lo) (hP : P.length ≤ 60) (hw : weigh (P.map kvChg) ≤ 61440) (hB : B ≤ w.heap.size)
    (N : Nat) (hN : 16 + 27 * P.length + weigh (P.map kvChg) = N) (hK : cellsN N ≤ q.K) (hroom : (q.ne + 1) * q.K ≤ q.ring) (hring : q.nb + q.K + 1 ≤ 500000) :
    Calls Try.prog 23 #[.pointer (some ⟨pt, 0, none⟩)] w fun e w' => e = .returned (.int .i64 0) ∧ (∃ nb nx, nb ≤ q.nb + q.K + 1 ∧ Tc B w0 w' pt pl pd kv ⟨q.K, nb, q.ring, 1, 1, q.sec, nx⟩ P) ∧ LT w w' := by
  have HNO := Lib.hid h.none
  have HSY := Lib.hid (sync_c h)
  obtain ⟨-, ⟨cost, pv, L, htv, -⟩, -, -⟩ := id h
  obtain ⟨t0, -, -, -⟩ := htv.cells
  have HH := Lib.hid h
  have HQ := Lib.hid (And.intro hP0 (And.intro hlo (And.intro hP (And.intro hw (And.intro hB (And.intro hN (And.intro hK (And.intro hroom hring))))))))
  clear h htv hP0 hlo hP hw hB hN hK hroom hring
  go_enter Try.func23, Try.ntmps23
  go_upto_region 4 with (first
    | (go_at_call 31; refine HNO.out.mono ?_; rintro e w' ⟨rfl, rfl⟩)
    | (go_at_call 32; refine HSY.out.mono ?_; rintro e w1 ⟨rfl, ht1, hl1⟩; have HT1 := Lib.hid ht1; have HL1 := Lib.hid hl1; clear ht1 hl1))
  clear t0 HNO HSY
  obtain ⟨-, ⟨cost1, pv1, L1, htv1, -, hpr1, hm1⟩, -, -⟩ := HT1.out
  have hl1 : L1.length = P.length := by rw [← hm1]; simp
  have hlw : weigh (L1.map Pr.chg) = weigh (P.map kvChg) := by rw [chg_of, hm1]
  have hq := HQ.out
  have HBT := Lib.hid (batches_any htv1 hpr1 (by omega) (by rw [lotN_eq, hlw]; omega) (fun x hx => by have := weigh_memP L1 x hx; omega))
  have HOR : Hid (L1 ≠ [] ∧ L1.map Pr.chg = P.map kvChg) := Lib.hid ⟨by rintro rfl; exact hq.1 (by rw [← hm1]; rfl), by rw [chg_of, hm1]⟩
  clear hq htv1 hpr1 hm1 hl1 hlw
  go_upto_region 7 with (first
    | (go_at_call 40; refine HBT.out.mono ?_; rintro e w2 ⟨o, rfl, hor, hb2⟩
       obtain ⟨g, cap, ov, C, rfl, hrow, hch, hcm⟩ : ∃ g cap ov C, o = .slice (some ⟨g, 0, none⟩) 1 cap ∧ w2.ownsRow w1.heap.size 22 1 o 1 [ov] ∧ ChR w2 w1.heap.size ov C ∧ C.map Ch.of = P.map kvChg := by
         rcases hor with ⟨h0, -⟩ | ⟨-, g, cap, ov, C, h1, h2, h3, h4⟩
         · exact absurd h0 HOR.out.1
         · exact ⟨g, cap, ov, C, h1, h2, h3, h4.trans HOR.out.2⟩
       have HRW := Lib.hid hrow
       have HCH := Lib.hid hch
       have HCM := Lib.hid hcm
       have HB2 := Lib.hid hb2
       clear hor hrow hch hcm hb2))
  have HT2 := Lib.hid (HT1.out.below HB2.out)
  have HL2 := Lib.hid (HL1.out.trans (Below.lt HB2.out))
  obtain ⟨sa, sc, rfl⟩ := own_shape HCH.out.row
  have hcap : 1 ≤ cap := by
    rcases HRW.out.2 with ⟨e, _⟩ | ⟨_, cp, cur, e, _, _, hc, _⟩
    · cases e
    · cases e
      exact hc
  have HG0 : Hid (∀ W, Below w2.heap.size w2 W → W.cell? ⟨g, 0, none⟩ = some (.slice sa C.length sc)) := Lib.hid fun W hW => World.ownsRow.cellAt (ownsRow_below HRW.out hW) 0 (by decide)
  have HCL : Hid (C.length = P.length) := Lib.hid (by have := congrArg List.length HCM.out; simpa using this)
  have hcapz : (1 : Int) ≤ (cap : Int) := by omega
  have HRC : Hid (∀ W, Below w2.heap.size w2 W → Calls Try.prog 41 #[.slice sa C.length sc] W fun e w' => ∃ o d, e = .returned o ∧ OwnB w' W.heap.size o d ∧ d.length ≤ N ∧ (∀ n ∈ d, n < 256) ∧ Below W.heap.size W w') := Lib.hid fun W hW => by
    have hq := HQ.out
    have := record_any (HCH.out.below hW).chgV (by rw [List.length_map, HCL.out]; omega) (by rw [HCM.out]; exact hq.2.2.2.1)
    rw [HCM.out, List.length_map, hq.2.2.2.2.2.1] at this
    exact this
  clear hcap
  go_wp2_with fail
  go_loopw [27, 5] (fun i z wr => ∃ k sm : Nat, k ≤ 1 ∧ i = .int .i64 (k : Nat) ∧ z = .int .i64 (sm : Nat) ∧ sm ≤ 3 * q.K ∧ (k = 0 → sm = 0) ∧ Below w2.heap.size w2 wr) (fun i _ _ => 1 - (RowKit.intOf i).toNat)
  case atStart => exact ⟨0, 0, by omega, rfl, rfl, Nat.zero_le _, fun _ => rfl, Below.refl _ _⟩
  case round =>
    obtain ⟨k, sm, hk, rfl, rfl, hsm, hs0, hb⟩ := hrel
    by_cases hkn : k < 1
    · obtain rfl : k = 0 := by omega
      obtain rfl := hs0 rfl
      have c0 := HG0.out _ hb
      have HB := Lib.hid hb
      have HR1 := Lib.hid (HRC.out _ hb)
      clear hb hs0 hsm
      go_upto_region 12 with (first
        | (go_at_call 41; refine HR1.out.mono ?_; rintro e w6 ⟨o6, d6, rfl, ho6, hd6, -, hb6⟩; obtain ⟨oa6, oc6, rfl⟩ := ho6.shape; have HB6 := Lib.hid hb6
           obtain ⟨qc, hqc⟩ : ∃ qc, (d6.length + 39) / 40 + 2 = qc := ⟨_, rfl⟩
           have HCO : Hid (∀ W, Calls Try.prog 30 #[.int .i64 (d6.length : Nat)] W fun e w' => e = .returned (.int .i64 (qc : Nat)) ∧ w' = W) := Lib.hid fun W => by
             rw [← hqc]
             exact cost_any d6.length (by have := HQ.out; omega) W
           have hqk : qc ≤ 3 * q.K := by
             have h1 : (d6.length + 39) / 40 ≤ cellsN d6.length := by unfold cellsN; omega
             have h2 := cellsN_mono hd6
             have h3 := cellsN_pos d6.length
             have h4 := HQ.out.2.2.2.2.2.2.1
             omega
           have hqz : (qc : Int) ≤ 100000000 := by have := HQ.out; omega
           have HQK := Lib.hid hqk
           clear ho6 hd6 hb6 hqc hqk)
        | (go_at_call 30; refine (HCO.out _).mono ?_; rintro e w' ⟨rfl, rfl⟩))
      go_wp2_with fail
      go_roundw
      case rel => exact ⟨1, qc, by omega, by go_num, by go_num, HQK.out, (fun h => absurd h (by decide)), HB.out.trans (HB6.out.mono HB.out.size)⟩
      case measure => simp [intOf]
    · obtain rfl : k = 1 := by omega
      obtain ⟨wq, rfl⟩ : ∃ wq, wq = wr := ⟨_, rfl⟩
      have HB := Lib.hid hb
      clear hs0 hb
      have HSM := Lib.hid hsm
      clear hsm
      have HTR := Lib.hid (HT2.out.below HB.out)
      obtain ⟨⟨s, S, W, hlg, hst⟩, ⟨cost3, pv3, L3, htv, hco, hpr, hm3⟩, hBp, hfu⟩ := HTR.out
      obtain ⟨t0, -, t2, -⟩ := htv.cells
      obtain ⟨en, hen⟩ : ∃ en, s.ents.length = en := ⟨_, rfl⟩
      have hsub : (q.nx : Int) - (s.first : Int) = (en : Int) := by have := hst.next; omega
      have hsub2 : (s.first : Int) + (en : Int) = (q.nx : Int) := by omega
      have HNX : Hid (∀ W', Below wq.heap.size wq W' → Calls Try.prog 42 #[.pointer (some ⟨pl, 0, none⟩)] W' fun e w' => e = .returned (.int .u64 (q.nx : Nat)) ∧ W'.drew = w') := Lib.hid fun W' hW => by
        have := (hlg.below hW).nexts hst.fit
        rwa [hst.next.1] at this
      have HFS : Hid (∀ W', Below wq.heap.size wq W' → Calls Try.prog 43 #[.pointer (some ⟨pl, 0, none⟩)] W' fun e w' => e = .returned (.int .u64 (s.first : Nat)) ∧ W' = w') := Lib.hid fun W' hW => (hlg.below hW).firsts
      have HLG := Lib.hid hlg
      have HST := Lib.hid hst
      have HTV := Lib.hid (And.intro htv (And.intro hco (And.intro hpr (And.intro hm3 (And.intro hBp hfu)))))
      have hel : (en : Int) ≤ 1000000 := by have := hst.next; omega
      have hnx : (q.nx : Int) ≤ 1000000 := by have := hst.next; omega
      have hfs : (s.first : Int) ≤ (q.nx : Int) := by omega
      have HEN := Lib.hid hen
      have t0d : wq.drew.cell? ⟨pt, 0, none⟩ = some (.pointer (some ⟨pl, 0, none⟩)) := t0
      have t0e : wq.drew.drew.cell? ⟨pt, 0, none⟩ = some (.pointer (some ⟨pl, 0, none⟩)) := t0
      have t2e : wq.cell? ⟨pt, 2, none⟩ = some (.int .i64 (cost3 : Nat)) := t2
      clear hlg hst htv hco hpr hm3 hBp hfu hen t2
      have hwe : IntKind.u64.wrap (en : Int) = (en : Int) := IntWalk.u64_in _ ⟨by omega, by omega⟩
      have hw1 : IntKind.u64.wrap 1 = 1 := by decide
      go_wp2_with fail
      by_cases he1 : en = 1
      · subst he1
        have hone : ((1 : Nat) : Int) = 1 := rfl
        rw [hone] at hsub hsub2 hwe hel
        have hcz : (cost3 : Int) ≤ 1500000 := by have := HTV.out.2.1.1; have := HTV.out.2.2.2.2.2; omega
        have hsz0 : (sm : Int) ≤ 1500000 := by have := HSM.out; have := HQ.out; omega
        by_cases hcs : cost3 ≤ sm
        · have hcsz : (cost3 : Int) ≤ (sm : Int) := by omega
          have hcd : decide ((cost3 : Int) ≤ (sm : Int)) = true := decide_eq_true hcsz
          refine wp_region_held_drew (S := fun w' => w'.cell? ⟨pt, 0, none⟩ = some (.pointer (some ⟨pl, 0, none⟩)) ∧ w'.cell? ⟨pt, 2, none⟩ = some (.int .i64 (cost3 : Nat))) (by kernel_rfl) ⟨t0, t2e⟩ (fun hHeld => ?_)
          refine wpAnyH_take (i := 0) (oi := ⟨_, _, _, _, _, _⟩) (v := ?_) rfl (by kernel_rfl) (by kernel_rfl) (by kernel_rfl) (fun _ _ _ h => h) (Or.inl ⟨by rfl, ?_⟩) (by assumption) ?_
          rotate_left
          · intro w hSw; (try dsimp only at hSw); go_simp <;> with_reducible rfl
          simp only [Act.put, List.setIfInBounds_toArray, List.set_cons_zero, List.set_cons_succ]
          refine wpAnyH_take (i := 1) (oi := ⟨_, _, _, _, _, _⟩) (v := ?_) rfl (by kernel_rfl) (by kernel_rfl) (by kernel_rfl) (fun _ _ _ h => h) (Or.inl ⟨by rfl, ?_⟩) (by assumption) ?_
          rotate_left
          · intro w hSw; (try dsimp only at hSw); go_simp <;> with_reducible rfl
          simp only [Act.put, List.setIfInBounds_toArray, List.set_cons_zero, List.set_cons_succ]
          refine wpAnyH_take (i := 2) (oi := ⟨_, _, _, _, _, _⟩) (v := ?_) rfl (by kernel_rfl) (by kernel_rfl) (by kernel_rfl) (fun _ _ _ h => h) (Or.inl ⟨by rfl, ?_⟩) (by assumption) ?_
          rotate_left
          · intro w hSw; (try dsimp only at hSw); go_simp <;> with_reducible rfl
          simp only [Act.put, List.setIfInBounds_toArray, List.set_cons_zero, List.set_cons_succ]
          refine wpAnyH_take (i := 3) (oi := ⟨_, _, _, _, _, _⟩) (v := ?_) rfl (by kernel_rfl) (by kernel_rfl) (by kernel_rfl) (fun _ _ _ h => h) (Or.inl ⟨by rfl, ?_⟩) (by assumption) ?_
          rotate_left
          · intro w hSw; (try dsimp only at hSw); go_simp <;> with_reducible rfl
          simp only [Act.put, List.setIfInBounds_toArray, List.set_cons_zero, List.set_cons_succ]
          refine wpAnyH_take (i := 5) (oi := ⟨_, _, _, _, _, _⟩) (v := ?_) rfl (by kernel_rfl) (by kernel_rfl) (by kernel_rfl) (fun _ _ _ h => h) (Or.inl ⟨by rfl, ?_⟩) (by assumption) ?_
          rotate_left
          · intro w hSw; (try dsimp only at hSw); go_simp <;> with_reducible rfl
          simp only [Act.put, List.setIfInBounds_toArray, List.set_cons_zero, List.set_cons_succ]
          refine wpAnyH_take (i := 6) (oi := ⟨_, _, _, _, _, _⟩) (v := ?_) rfl (by kernel_rfl) (by kernel_rfl) (by kernel_rfl) (fun _ _ _ h => h) (Or.inl ⟨by rfl, ?_⟩) (by assumption) ?_
          rotate_left
          · intro w hSw; (try dsimp only at hSw); go_simp <;> with_reducible rfl
          simp only [Act.put, List.setIfInBounds_toArray, List.set_cons_zero, List.set_cons_succ]
          refine wpAnyH_take (i := 7) (oi := ⟨_, _, _, _, _, _⟩) (v := ?_) rfl (by kernel_rfl) (by kernel_rfl) (by kernel_rfl) (fun _ _ _ h => h) (Or.inl ⟨by rfl, ?_⟩) (by assumption) ?_
          rotate_left
          · intro w hSw; (try dsimp only at hSw); go_simp <;> with_reducible rfl
          simp only [Act.put, List.setIfInBounds_toArray, List.set_cons_zero, List.set_cons_succ]
          refine wpAnyH_take (i := 8) (oi := ⟨_, _, _, _, _, _⟩) (v := ?_) rfl (by kernel_rfl) (by kernel_rfl) (by kernel_rfl) (fun _ _ _ h => h) (Or.inl ⟨by rfl, ?_⟩) (by assumption) ?_
          rotate_left
          · intro w hSw; (try dsimp only at hSw); go_simp <;> with_reducible rfl
          simp only [Act.put, List.setIfInBounds_toArray, List.set_cons_zero, List.set_cons_succ]
          refine wpAnyH_take (i := 11) (oi := ⟨_, _, _, _, _, _⟩) (v := ?_) rfl (by kernel_rfl) (by kernel_rfl) (by kernel_rfl) (fun _ _ _ h => h) (Or.inl ⟨by rfl, ?_⟩) (by assumption) ?_
          rotate_left
          · intro w hSw; (try dsimp only at hSw); go_simp <;> with_reducible rfl
          simp only [Act.put, List.setIfInBounds_toArray, List.set_cons_zero, List.set_cons_succ]
          refine wpAnyH_take (i := 12) (oi := ⟨_, _, _, _, _, _⟩) (v := ?_) rfl (by kernel_rfl) (by kernel_rfl) (by kernel_rfl) (fun _ _ _ h => h) (Or.inl ⟨by rfl, ?_⟩) (by assumption) ?_
          rotate_left
          · intro w hSw; (try dsimp only at hSw); go_simp <;> with_reducible rfl
          simp only [Act.put, List.setIfInBounds_toArray, List.set_cons_zero, List.set_cons_succ]
          refine wpAnyH_take (i := 13) (oi := ⟨_, _, _, _, _, _⟩) (v := ?_) rfl (by kernel_rfl) (by kernel_rfl) (by kernel_rfl) (fun _ _ _ h => h) (Or.inl ⟨by rfl, ?_⟩) (by assumption) ?_
          rotate_left
          · intro w hSw; (try dsimp only at hSw); go_simp <;> with_reducible rfl
          simp only [Act.put, List.setIfInBounds_toArray, List.set_cons_zero, List.set_cons_succ]
          refine wpAnyH_ready (rs := [4]) (by kernel_rfl) (by simp) ?_
          refine AllReadyH.cons (o := ⟨_, _, _, _, _, _⟩) rfl (fun K hK => ?_) AllReadyH.nil
          go_simp
          go_at_call 42
          refine (HNX.out _ (by first | exact (Below.refl _ _).drew | exact (Below.refl _ _).drew.drew)).mono ?_
          rintro e w' ⟨rfl, rfl⟩
          refine hK.out _ _ ⟨t0, t2e⟩ (fun hHeld2 => ?_)
          clear hK K
          refine wpAnyH_ready (rs := [9]) (by kernel_rfl) (by simp) ?_
          refine AllReadyH.cons (o := ⟨_, _, _, _, _, _⟩) rfl (fun K hK => ?_) AllReadyH.nil
          go_simp
          go_at_call 43
          refine (HFS.out _ (by first | exact (Below.refl _ _).drew | exact (Below.refl _ _).drew.drew)).mono ?_
          rintro e w' ⟨rfl, rfl⟩
          refine hK.out _ _ ⟨t0, t2e⟩ (fun hHeld2 => ?_)
          clear hK K
          try simp only [Act.put, List.setIfInBounds_toArray, List.set_cons_zero, List.set_cons_succ]
          refine wpAnyH_take (i := 10) (oi := ⟨_, _, _, _, _, _⟩) (v := ?_) rfl (by kernel_rfl) (by kernel_rfl) (by kernel_rfl) (fun _ _ _ h => h) (Or.inl ⟨by rfl, ?_⟩) (by assumption) ?_
          rotate_left
          · intro w hSw; (try dsimp only at hSw); go_simp <;> with_reducible rfl
          simp only [Act.put, List.setIfInBounds_toArray, List.set_cons_zero, List.set_cons_succ]
          refine wpAnyH_take (i := 14) (oi := ⟨_, _, _, _, _, _⟩) (v := ?_) rfl (by kernel_rfl) (by kernel_rfl) (by kernel_rfl) (fun _ _ _ h => h) (Or.inl ⟨by rfl, ?_⟩) (by assumption) ?_
          rotate_left
          · intro w hSw; (try dsimp only at hSw); go_simp <;> with_reducible rfl
          simp only [Act.put, List.setIfInBounds_toArray, List.set_cons_zero, List.set_cons_succ]
          refine wpAnyH_take (i := 15) (oi := ⟨_, _, _, _, _, _⟩) (v := ?_) rfl (by kernel_rfl) (by kernel_rfl) (by kernel_rfl) (fun _ _ _ h => h) (Or.inl ⟨by rfl, ?_⟩) (by assumption) ?_
          rotate_left
          · intro w hSw; (try dsimp only at hSw); go_simp <;> with_reducible rfl
          simp only [Act.put, List.setIfInBounds_toArray, List.set_cons_zero, List.set_cons_succ]
          refine wpAnyH_take (i := 16) (oi := ⟨_, _, _, _, _, _⟩) (v := ?_) rfl (by kernel_rfl) (by kernel_rfl) (by kernel_rfl) (fun _ _ _ h => h) (Or.inl ⟨by rfl, ?_⟩) (by assumption) ?_
          rotate_left
          · intro w hSw; (try dsimp only at hSw); go_simp <;> with_reducible rfl
          simp only [Act.put, List.setIfInBounds_toArray, List.set_cons_zero, List.set_cons_succ]
          refine wpAnyH_take (i := 17) (oi := ⟨_, _, _, _, _, _⟩) (v := ?_) rfl (by kernel_rfl) (by kernel_rfl) (by kernel_rfl) (fun _ _ _ h => h) (Or.inl ⟨by rfl, ?_⟩) (by assumption) ?_
          rotate_left
          · intro w hSw; (try dsimp only at hSw); go_simp <;> with_reducible rfl
          simp only [Act.put, List.setIfInBounds_toArray, List.set_cons_zero, List.set_cons_succ]
          refine wpAnyH_take (i := 18) (oi := ⟨_, _, _, _, _, _⟩) (v := ?_) rfl (by kernel_rfl) (by kernel_rfl) (by kernel_rfl) (fun _ _ _ h => h) (Or.inl ⟨by rfl, ?_⟩) (by assumption) ?_
          rotate_left
          · intro w hSw; (try dsimp only at hSw); go_simp <;> with_reducible rfl
          simp only [Act.put, List.setIfInBounds_toArray, List.set_cons_zero, List.set_cons_succ]
          refine wpAnyH_take (i := 19) (oi := ⟨_, _, _, _, _, _⟩) (v := ?_) rfl (by kernel_rfl) (by kernel_rfl) (by kernel_rfl) (fun _ _ _ h => h) (Or.inl ⟨by rfl, ?_⟩) (by assumption) ?_
          rotate_left
          · intro w hSw; (try dsimp only at hSw); go_simp <;> with_reducible rfl
          simp only [Act.put, List.setIfInBounds_toArray, List.set_cons_zero, List.set_cons_succ]
          refine wpAnyH_take (i := 20) (oi := ⟨_, _, _, _, _, _⟩) (v := ?_) rfl (by kernel_rfl) (by kernel_rfl) (by kernel_rfl) (fun _ _ _ h => h) (Or.inl ⟨by rfl, ?_⟩) (by assumption) ?_
          rotate_left
          · intro w hSw; (try dsimp only at hSw); go_simp <;> with_reducible rfl
          simp only [Act.put, List.setIfInBounds_toArray, List.set_cons_zero, List.set_cons_succ]
          refine wpAnyH_take (i := 21) (oi := ⟨_, _, _, _, _, _⟩) (v := ?_) rfl (by kernel_rfl) (by kernel_rfl) (by kernel_rfl) (fun _ _ _ h => h) (Or.inl ⟨by rfl, ?_⟩) (by assumption) ?_
          rotate_left
          · intro w hSw; (try dsimp only at hSw); go_simp <;> with_reducible rfl
          simp only [Act.put, List.setIfInBounds_toArray, List.set_cons_zero, List.set_cons_succ]
          refine wpAnyH_take (i := 22) (oi := ⟨_, _, _, _, _, _⟩) (v := ?_) rfl (by kernel_rfl) (by kernel_rfl) (by kernel_rfl) (fun _ _ _ h => h) (Or.inl ⟨by rfl, ?_⟩) (by assumption) ?_
          rotate_left
          · intro w hSw; (try dsimp only at hSw); go_simp <;> with_reducible rfl
          simp only [Act.put, List.setIfInBounds_toArray, List.set_cons_zero, List.set_cons_succ]
          refine wpAnyH_done (by kernel_rfl) ?_ _
          clear hHeld hHeld2
          go_wp2_with fail
          go_ret
          obtain ⟨htv, hco, hpr, hm3, hBp, hfu⟩ := HTV.out
          have hd : Below wq.heap.size wq wq.drew.drew := ((Below.refl _ _).drew).drew
          refine ⟨rfl, ⟨q.nb, q.nx, by omega, ⟨⟨s, S, W, HLG.out.below hd, ?_⟩, ⟨cost3, pv3, L3, htv.below hd, ⟨hco.1, fun h => by cases h⟩, hpr.below hd, hm3⟩, hBp, hfu⟩⟩, (HL2.out.trans (Below.lt HB.out)).trans (Below.lt hd)⟩
          have hst := HST.out
          have hen := HEN.out
          exact ⟨hst.fit, hst.ring, by show 1 ≤ _; omega, by show _ ≤ 1; omega, hst.used, hst.ents, hst.number, hst.version, hst.next, hst.waits⟩
        · have hcsz : ¬ (cost3 : Int) ≤ (sm : Int) := by omega
          have hcd : decide ((cost3 : Int) ≤ (sm : Int)) = false := decide_eq_false hcsz
          refine wp_region_held_drew (S := fun w' => w'.cell? ⟨pt, 0, none⟩ = some (.pointer (some ⟨pl, 0, none⟩)) ∧ w'.cell? ⟨pt, 2, none⟩ = some (.int .i64 (cost3 : Nat))) (by kernel_rfl) ⟨t0, t2e⟩ (fun hHeld => ?_)
          refine wpAnyH_take (i := 0) (oi := ⟨_, _, _, _, _, _⟩) (v := ?_) rfl (by kernel_rfl) (by kernel_rfl) (by kernel_rfl) (fun _ _ _ h => h) (Or.inl ⟨by rfl, ?_⟩) (by assumption) ?_
          rotate_left
          · intro w hSw; (try dsimp only at hSw); go_simp <;> with_reducible rfl
          simp only [Act.put, List.setIfInBounds_toArray, List.set_cons_zero, List.set_cons_succ]
          refine wpAnyH_take (i := 1) (oi := ⟨_, _, _, _, _, _⟩) (v := ?_) rfl (by kernel_rfl) (by kernel_rfl) (by kernel_rfl) (fun _ _ _ h => h) (Or.inl ⟨by rfl, ?_⟩) (by assumption) ?_
          rotate_left
          · intro w hSw; (try dsimp only at hSw); go_simp <;> with_reducible rfl
          simp only [Act.put, List.setIfInBounds_toArray, List.set_cons_zero, List.set_cons_succ]
          refine wpAnyH_take (i := 2) (oi := ⟨_, _, _, _, _, _⟩) (v := ?_) rfl (by kernel_rfl) (by kernel_rfl) (by kernel_rfl) (fun _ _ _ h => h) (Or.inl ⟨by rfl, ?_⟩) (by assumption) ?_
          rotate_left
          · intro w hSw; (try dsimp only at hSw); go_simp <;> with_reducible rfl
          simp only [Act.put, List.setIfInBounds_toArray, List.set_cons_zero, List.set_cons_succ]
          refine wpAnyH_take (i := 3) (oi := ⟨_, _, _, _, _, _⟩) (v := ?_) rfl (by kernel_rfl) (by kernel_rfl) (by kernel_rfl) (fun _ _ _ h => h) (Or.inl ⟨by rfl, ?_⟩) (by assumption) ?_
          rotate_left
          · intro w hSw; (try dsimp only at hSw); go_simp <;> with_reducible rfl
          simp only [Act.put, List.setIfInBounds_toArray, List.set_cons_zero, List.set_cons_succ]
          refine wpAnyH_take (i := 5) (oi := ⟨_, _, _, _, _, _⟩) (v := ?_) rfl (by kernel_rfl) (by kernel_rfl) (by kernel_rfl) (fun _ _ _ h => h) (Or.inl ⟨by rfl, ?_⟩) (by assumption) ?_
          rotate_left
          · intro w hSw; (try dsimp only at hSw); go_simp <;> with_reducible rfl
          simp only [Act.put, List.setIfInBounds_toArray, List.set_cons_zero, List.set_cons_succ]
          refine wpAnyH_take (i := 6) (oi := ⟨_, _, _, _, _, _⟩) (v := ?_) rfl (by kernel_rfl) (by kernel_rfl) (by kernel_rfl) (fun _ _ _ h => h) (Or.inl ⟨by rfl, ?_⟩) (by assumption) ?_
          rotate_left
          · intro w hSw; (try dsimp only at hSw); go_simp <;> with_reducible rfl
          simp only [Act.put, List.setIfInBounds_toArray, List.set_cons_zero, List.set_cons_succ]
          refine wpAnyH_take (i := 7) (oi := ⟨_, _, _, _, _, _⟩) (v := ?_) rfl (by kernel_rfl) (by kernel_rfl) (by kernel_rfl) (fun _ _ _ h => h) (Or.inl ⟨by rfl, ?_⟩) (by assumption) ?_
          rotate_left
          · intro w hSw; (try dsimp only at hSw); go_simp <;> with_reducible rfl
          simp only [Act.put, List.setIfInBounds_toArray, List.set_cons_zero, List.set_cons_succ]
          refine wpAnyH_take (i := 8) (oi := ⟨_, _, _, _, _, _⟩) (v := ?_) rfl (by kernel_rfl) (by kernel_rfl) (by kernel_rfl) (fun _ _ _ h => h) (Or.inl ⟨by rfl, ?_⟩) (by assumption) ?_
          rotate_left
          · intro w hSw; (try dsimp only at hSw); go_simp <;> with_reducible rfl
          simp only [Act.put, List.setIfInBounds_toArray, List.set_cons_zero, List.set_cons_succ]
          refine wpAnyH_take (i := 11) (oi := ⟨_, _, _, _, _, _⟩) (v := ?_) rfl (by kernel_rfl) (by kernel_rfl) (by kernel_rfl) (fun _ _ _ h => h) (Or.inl ⟨by rfl, ?_⟩) (by assumption) ?_
          rotate_left
          · intro w hSw; (try dsimp only at hSw); go_simp <;> with_reducible rfl
          simp only [Act.put, List.setIfInBounds_toArray, List.set_cons_zero, List.set_cons_succ]
          refine wpAnyH_take (i := 12) (oi := ⟨_, _, _, _, _, _⟩) (v := ?_) rfl (by kernel_rfl) (by kernel_rfl) (by kernel_rfl) (fun _ _ _ h => h) (Or.inl ⟨by rfl, ?_⟩) (by assumption) ?_
          rotate_left
          · intro w hSw; (try dsimp only at hSw); go_simp <;> with_reducible rfl
          simp only [Act.put, List.setIfInBounds_toArray, List.set_cons_zero, List.set_cons_succ]
          refine wpAnyH_take (i := 13) (oi := ⟨_, _, _, _, _, _⟩) (v := ?_) rfl (by kernel_rfl) (by kernel_rfl) (by kernel_rfl) (fun _ _ _ h => h) (Or.inl ⟨by rfl, ?_⟩) (by assumption) ?_
          rotate_left
          · intro w hSw; (try dsimp only at hSw); go_simp <;> with_reducible rfl
          simp only [Act.put, List.setIfInBounds_toArray, List.set_cons_zero, List.set_cons_succ]
          refine wpAnyH_ready (rs := [4]) (by kernel_rfl) (by simp) ?_
          refine AllReadyH.cons (o := ⟨_, _, _, _, _, _⟩) rfl (fun K hK => ?_) AllReadyH.nil
          go_simp
          go_at_call 42
          refine (HNX.out _ (by first | exact (Below.refl _ _).drew | exact (Below.refl _ _).drew.drew)).mono ?_
          rintro e w' ⟨rfl, rfl⟩
          refine hK.out _ _ ⟨t0, t2e⟩ (fun hHeld2 => ?_)
          clear hK K
          refine wpAnyH_ready (rs := [9]) (by kernel_rfl) (by simp) ?_
          refine AllReadyH.cons (o := ⟨_, _, _, _, _, _⟩) rfl (fun K hK => ?_) AllReadyH.nil
          go_simp
          go_at_call 43
          refine (HFS.out _ (by first | exact (Below.refl _ _).drew | exact (Below.refl _ _).drew.drew)).mono ?_
          rintro e w' ⟨rfl, rfl⟩
          refine hK.out _ _ ⟨t0, t2e⟩ (fun hHeld2 => ?_)
          clear hK K
          try simp only [Act.put, List.setIfInBounds_toArray, List.set_cons_zero, List.set_cons_succ]
          refine wpAnyH_take (i := 10) (oi := ⟨_, _, _, _, _, _⟩) (v := ?_) rfl (by kernel_rfl) (by kernel_rfl) (by kernel_rfl) (fun _ _ _ h => h) (Or.inl ⟨by rfl, ?_⟩) (by assumption) ?_
          rotate_left
          · intro w hSw; (try dsimp only at hSw); go_simp <;> with_reducible rfl
          simp only [Act.put, List.setIfInBounds_toArray, List.set_cons_zero, List.set_cons_succ]
          refine wpAnyH_take (i := 14) (oi := ⟨_, _, _, _, _, _⟩) (v := ?_) rfl (by kernel_rfl) (by kernel_rfl) (by kernel_rfl) (fun _ _ _ h => h) (Or.inl ⟨by rfl, ?_⟩) (by assumption) ?_
          rotate_left
          · intro w hSw; (try dsimp only at hSw); go_simp <;> with_reducible rfl
          simp only [Act.put, List.setIfInBounds_toArray, List.set_cons_zero, List.set_cons_succ]
          refine wpAnyH_take (i := 15) (oi := ⟨_, _, _, _, _, _⟩) (v := ?_) rfl (by kernel_rfl) (by kernel_rfl) (by kernel_rfl) (fun _ _ _ h => h) (Or.inl ⟨by rfl, ?_⟩) (by assumption) ?_
          rotate_left
          · intro w hSw; (try dsimp only at hSw); go_simp <;> with_reducible rfl
          simp only [Act.put, List.setIfInBounds_toArray, List.set_cons_zero, List.set_cons_succ]
          refine wpAnyH_take (i := 16) (oi := ⟨_, _, _, _, _, _⟩) (v := ?_) rfl (by kernel_rfl) (by kernel_rfl) (by kernel_rfl) (fun _ _ _ h => h) (Or.inl ⟨by rfl, ?_⟩) (by assumption) ?_
          rotate_left
          · intro w hSw; (try dsimp only at hSw); go_simp <;> with_reducible rfl
          simp only [Act.put, List.setIfInBounds_toArray, List.set_cons_zero, List.set_cons_succ]
          refine wpAnyH_take (i := 17) (oi := ⟨_, _, _, _, _, _⟩) (v := ?_) rfl (by kernel_rfl) (by kernel_rfl) (by kernel_rfl) (fun _ _ _ h => h) (Or.inl ⟨by rfl, ?_⟩) (by assumption) ?_
          rotate_left
          · intro w hSw; (try dsimp only at hSw); go_simp <;> with_reducible rfl
          simp only [Act.put, List.setIfInBounds_toArray, List.set_cons_zero, List.set_cons_succ]
          refine wpAnyH_take (i := 18) (oi := ⟨_, _, _, _, _, _⟩) (v := ?_) rfl (by kernel_rfl) (by kernel_rfl) (by kernel_rfl) (fun _ _ _ h => h) (Or.inl ⟨by rfl, ?_⟩) (by assumption) ?_
          rotate_left
          · intro w hSw; (try dsimp only at hSw); go_simp <;> with_reducible rfl
          simp only [Act.put, List.setIfInBounds_toArray, List.set_cons_zero, List.set_cons_succ]
          refine wpAnyH_take (i := 19) (oi := ⟨_, _, _, _, _, _⟩) (v := ?_) rfl (by kernel_rfl) (by kernel_rfl) (by kernel_rfl) (fun _ _ _ h => h) (Or.inl ⟨by rfl, ?_⟩) (by assumption) ?_
          rotate_left
          · intro w hSw; (try dsimp only at hSw); go_simp <;> with_reducible rfl
          simp only [Act.put, List.setIfInBounds_toArray, List.set_cons_zero, List.set_cons_succ]
          refine wpAnyH_take (i := 20) (oi := ⟨_, _, _, _, _, _⟩) (v := ?_) rfl (by kernel_rfl) (by kernel_rfl) (by kernel_rfl) (fun _ _ _ h => h) (Or.inl ⟨by rfl, ?_⟩) (by assumption) ?_
          rotate_left
          · intro w hSw; (try dsimp only at hSw); go_simp <;> with_reducible rfl
          simp only [Act.put, List.setIfInBounds_toArray, List.set_cons_zero, List.set_cons_succ]
          refine wpAnyH_take (i := 21) (oi := ⟨_, _, _, _, _, _⟩) (v := ?_) rfl (by kernel_rfl) (by kernel_rfl) (by kernel_rfl) (fun _ _ _ h => h) (Or.inl ⟨by rfl, ?_⟩) (by assumption) ?_
          rotate_left
          · intro w hSw; (try dsimp only at hSw); go_simp <;> with_reducible rfl
          simp only [Act.put, List.setIfInBounds_toArray, List.set_cons_zero, List.set_cons_succ]
          refine wpAnyH_take (i := 22) (oi := ⟨_, _, _, _, _, _⟩) (v := ?_) rfl (by kernel_rfl) (by kernel_rfl) (by kernel_rfl) (fun _ _ _ h => h) (Or.inl ⟨by rfl, ?_⟩) (by assumption) ?_
          rotate_left
          · intro w hSw; (try dsimp only at hSw); go_simp <;> with_reducible rfl
          simp only [Act.put, List.setIfInBounds_toArray, List.set_cons_zero, List.set_cons_succ]
          refine wpAnyH_done (by kernel_rfl) ?_ _
          clear hHeld hHeld2
          go_wp2_with fail
          refine wp_region_held_drew (S := fun w' => True) (by kernel_rfl) trivial (fun hHeld => ?_)
          refine wpAnyH_take (i := 0) (oi := ⟨_, _, _, _, _, _⟩) (v := ?_) rfl (by kernel_rfl) (by kernel_rfl) (by kernel_rfl) (fun _ _ _ h => h) (Or.inl ⟨by rfl, ?_⟩) (by assumption) ?_
          rotate_left
          · intro w hSw; (try dsimp only at hSw); go_simp <;> with_reducible rfl
          simp only [Act.put, List.setIfInBounds_toArray, List.set_cons_zero, List.set_cons_succ]
          refine wpAnyH_take (i := 1) (oi := ⟨_, _, _, _, _, _⟩) (v := ?_) rfl (by kernel_rfl) (by kernel_rfl) (by kernel_rfl) (fun _ _ _ h => h) (Or.inl ⟨by rfl, ?_⟩) (by assumption) ?_
          rotate_left
          · intro w hSw; (try dsimp only at hSw); go_simp <;> with_reducible rfl
          simp only [Act.put, List.setIfInBounds_toArray, List.set_cons_zero, List.set_cons_succ]
          refine wpAnyH_take (i := 2) (oi := ⟨_, _, _, _, _, _⟩) (v := ?_) rfl (by kernel_rfl) (by kernel_rfl) (by kernel_rfl) (fun _ _ _ h => h) (Or.inl ⟨by rfl, ?_⟩) (by assumption) ?_
          rotate_left
          · intro w hSw; (try dsimp only at hSw); go_simp <;> with_reducible rfl
          simp only [Act.put, List.setIfInBounds_toArray, List.set_cons_zero, List.set_cons_succ]
          refine wpAnyH_take (i := 3) (oi := ⟨_, _, _, _, _, _⟩) (v := ?_) rfl (by kernel_rfl) (by kernel_rfl) (by kernel_rfl) (fun _ _ _ h => h) (Or.inl ⟨by rfl, ?_⟩) (by assumption) ?_
          rotate_left
          · intro w hSw; (try dsimp only at hSw); go_simp <;> with_reducible rfl
          simp only [Act.put, List.setIfInBounds_toArray, List.set_cons_zero, List.set_cons_succ]
          refine wpAnyH_take (i := 4) (oi := ⟨_, _, _, _, _, _⟩) (v := undef) rfl (by kernel_rfl) (by kernel_rfl) (by kernel_rfl) (fun _ _ _ h => h) (Or.inr ⟨by rfl, rfl⟩) (by assumption) ?_
          simp only [Act.put, List.setIfInBounds_toArray, List.set_cons_zero, List.set_cons_succ]
          refine wpAnyH_take (i := 5) (oi := ⟨_, _, _, _, _, _⟩) (v := undef) rfl (by kernel_rfl) (by kernel_rfl) (by kernel_rfl) (fun _ _ _ h => h) (Or.inr ⟨by rfl, rfl⟩) (by assumption) ?_
          simp only [Act.put, List.setIfInBounds_toArray, List.set_cons_zero, List.set_cons_succ]
          refine wpAnyH_take (i := 6) (oi := ⟨_, _, _, _, _, _⟩) (v := undef) rfl (by kernel_rfl) (by kernel_rfl) (by kernel_rfl) (fun _ _ _ h => h) (Or.inr ⟨by rfl, rfl⟩) (by assumption) ?_
          simp only [Act.put, List.setIfInBounds_toArray, List.set_cons_zero, List.set_cons_succ]
          refine wpAnyH_take (i := 7) (oi := ⟨_, _, _, _, _, _⟩) (v := undef) rfl (by kernel_rfl) (by kernel_rfl) (by kernel_rfl) (fun _ _ _ h => h) (Or.inr ⟨by rfl, rfl⟩) (by assumption) ?_
          simp only [Act.put, List.setIfInBounds_toArray, List.set_cons_zero, List.set_cons_succ]
          refine wpAnyH_take (i := 8) (oi := ⟨_, _, _, _, _, _⟩) (v := undef) rfl (by kernel_rfl) (by kernel_rfl) (by kernel_rfl) (fun _ _ _ h => h) (Or.inr ⟨by rfl, rfl⟩) (by assumption) ?_
          simp only [Act.put, List.setIfInBounds_toArray, List.set_cons_zero, List.set_cons_succ]
          refine wpAnyH_take (i := 9) (oi := ⟨_, _, _, _, _, _⟩) (v := undef) rfl (by kernel_rfl) (by kernel_rfl) (by kernel_rfl) (fun _ _ _ h => h) (Or.inr ⟨by rfl, rfl⟩) (by assumption) ?_
          simp only [Act.put, List.setIfInBounds_toArray, List.set_cons_zero, List.set_cons_succ]
          refine wpAnyH_take (i := 10) (oi := ⟨_, _, _, _, _, _⟩) (v := undef) rfl (by kernel_rfl) (by kernel_rfl) (by kernel_rfl) (fun _ _ _ h => h) (Or.inr ⟨by rfl, rfl⟩) (by assumption) ?_
          simp only [Act.put, List.setIfInBounds_toArray, List.set_cons_zero, List.set_cons_succ]
          refine wpAnyH_take (i := 11) (oi := ⟨_, _, _, _, _, _⟩) (v := undef) rfl (by kernel_rfl) (by kernel_rfl) (by kernel_rfl) (fun _ _ _ h => h) (Or.inr ⟨by rfl, rfl⟩) (by assumption) ?_
          simp only [Act.put, List.setIfInBounds_toArray, List.set_cons_zero, List.set_cons_succ]
          refine wpAnyH_take (i := 12) (oi := ⟨_, _, _, _, _, _⟩) (v := undef) rfl (by kernel_rfl) (by kernel_rfl) (by kernel_rfl) (fun _ _ _ h => h) (Or.inr ⟨by rfl, rfl⟩) (by assumption) ?_
          simp only [Act.put, List.setIfInBounds_toArray, List.set_cons_zero, List.set_cons_succ]
          refine wpAnyH_take (i := 13) (oi := ⟨_, _, _, _, _, _⟩) (v := ?_) rfl (by kernel_rfl) (by kernel_rfl) (by kernel_rfl) (fun _ _ _ h => h) (Or.inl ⟨by rfl, ?_⟩) (by assumption) ?_
          rotate_left
          · intro w hSw; (try dsimp only at hSw); go_simp <;> with_reducible rfl
          simp only [Act.put, List.setIfInBounds_toArray, List.set_cons_zero, List.set_cons_succ]
          refine wpAnyH_done (by kernel_rfl) ?_ _
          have HG1 : Hid (∀ W, Below wq.heap.size wq W → W.cell? ⟨g, 0, none⟩ = some (.slice sa C.length sc)) := Lib.hid fun W hW => HG0.out W (HB.out.trans (hW.mono HB.out.size))
          have HTW : Hid (∀ W, Below wq.heap.size wq W → Calls Try.prog 34 #[.pointer (some ⟨pt, 0, none⟩), .slice sa C.length sc] W fun e w' => e = .returned (.int .i64 0) ∧ Tc B w0 w' pt pl pd kv q.wrote P ∧ LT W w') := Lib.hid fun W hW => by
            have hq := HQ.out
            have hv := (HCH.out.below (HB.out.trans (hW.mono HB.out.size))).chgV
            rw [HCM.out] at hv
            exact twrite_c (HTR.out.below hW) hv (by rw [List.length_map]; exact hq.2.2.1) hq.2.2.2.1 N (by rw [List.length_map]; exact hq.2.2.2.2.2.1) hq.2.2.2.2.2.2.1 hq.2.2.2.2.2.2.2.1 (by omega)
          clear hHeld
          go_upto_region 19 with (first | (go_at_call 42; refine (HNX.out _ (by exact (((Below.refl _ _).drew).drew).drew)).mono ?_; rintro e w' ⟨rfl, rfl⟩))
          go_loopw [82] (fun i wx => ∃ k : Nat, k ≤ 1 ∧ i = .int .i64 (k : Nat) ∧ (k = 0 → Below wq.heap.size wq wx) ∧ (k = 1 → Tc B w0 wx pt pl pd kv q.wrote P ∧ LT wq wx)) (fun i _ => 1 - (RowKit.intOf i).toNat)
          case atStart => exact ⟨0, by omega, rfl, fun _ => (((Below.refl _ _).drew).drew).drew.drew, fun h => absurd h (by decide)⟩
          case round =>
            obtain ⟨k, hk, rfl, hk0, hk1⟩ := hrel
            by_cases hkn : k < 1
            · obtain rfl : k = 0 := by omega
              have hbx := hk0 rfl
              have c0 := HG1.out _ hbx
              have HW2 := Lib.hid (HTW.out _ hbx)
              have HBX := Lib.hid hbx
              clear hbx hk0 hk1
              go_wp2_with (first | (go_at_call 34; refine HW2.out.mono ?_; rintro e w7 ⟨rfl, ht7, hl7⟩; have HT7 := Lib.hid ht7; have HL7 := Lib.hid hl7; clear ht7 hl7))
              go_roundw
              case rel => exact ⟨1, by omega, by go_num, fun h => absurd h (by decide), fun _ => ⟨HT7.out, (Below.lt HBX.out).trans HL7.out⟩⟩
              case measure => simp [intOf]
            · obtain rfl : k = 1 := by omega
              obtain ⟨htc, hlt⟩ := hk1 rfl
              have HLT := Lib.hid hlt
              clear hk0 hk1 hlt
              obtain ⟨⟨s2, S2, W2, hl2, hs2⟩, ⟨cost4, pv4, L4, htv4, hco4, hpr4, hm4⟩, hBp4, hfu4⟩ := htc
              obtain ⟨tt0, -, -, -⟩ := htv4.cells
              have hlen2 : 2 ≤ s2.ents.length := by
                have h1 := hs2.lo
                have h2 := HQ.out.2.1
                show 2 ≤ _
                have : q.wrote.lo = q.lo + 1 := rfl
                omega
              have hnx2 : s2.first + s2.ents.length = q.nx + 1 := hs2.next.1
              have hnl2 : q.nx + 1 ≤ q.nb + q.K := hs2.next.2
              obtain ⟨xc, hxc⟩ : ∃ x, s2.ents[q.nx - s2.first]? = some x := ⟨_, List.getElem?_eq_getElem (by omega)⟩
              have hq := HQ.out
              have hKb : q.K ≤ 65536 := by
                have h1 : q.K ≤ (q.ne + 1) * q.K := Nat.le_mul_of_pos_left _ (by omega)
                have h2 := hs2.fit.bound
                have h3 : s2.ring = q.ring := hs2.ring
                omega
              have hcutL := hs2.cut (n := q.nx) (x := xc) (by omega) (by omega) 1 1 (by omega) (by omega) (by show q.nb + q.K + 1 ≤ _; omega)
              have HCT := Lib.hid (cut_any hl2 hs2.fit q.nx (by omega) xc hxc (fun y hy => by
                obtain ⟨h1, h2, h3⟩ := hs2.ents y hy
                have : y.cells ≤ q.K := h1
                exact ⟨h2, h3, by omega⟩) hcutL.2)
              have HCL2 := Lib.hid hcutL.1
              have HT4 := Lib.hid htv4
              have HP4 := Lib.hid (And.intro hpr4 (And.intro hm4 (And.intro hBp4 hfu4)))
              have hsz : (sm : Int) ≤ 1000000000 := by have := HSM.out; omega
              clear hl2 hs2 htv4 hco4 hpr4 hm4 hBp4 hfu4 hlen2 hnx2 hnl2 hxc hq hKb hcutL
              go_upto_region 26 with (first | (go_at_call 45; refine HCT.out.mono ?_; rintro e w8 ⟨rfl, hl8, hq8⟩; have HL8 := Lib.hid hl8; have HQ8 := Lib.hid hq8; clear hl8 hq8))
              have ht8 := HT4.out.lq HQ8.out
              have HT8 := Lib.hid ht8
              obtain ⟨-, -, y2, -⟩ := ht8.cells
              have hfz := ht8.free 2
              clear ht8
              go_wp2_with fail
              go_ret
              have ht5 := HT8.out
              have hbs : Beside (fun k => k = pt) w8 (w8.setCell ⟨pt, 2, none⟩ (.int .i64 (sm : Nat))) := (Beside.refl (fun k => k = pt) w8).setCell (p := ⟨pt, 2, none⟩) (.inl rfl) _
              obtain ⟨hpr, hm, hBp, hfu⟩ := HP4.out
              have hr5 : PairR w8 B pv4 L4 := hpr.lq HQ8.out
              refine ⟨rfl, ⟨q.nb + q.K + 1, q.nx + 1, Nat.le_refl _, ⟨⟨_, _, _, HL8.out.beside hbs ?_, HCL2.out⟩, ⟨sm, pv4, L4, ht5.set2 sm, ⟨by have := HSM.out; show sm ≤ 3 * (q.nb + q.K + 1); omega, fun h => by cases h⟩, ⟨?_, ?_⟩, hm⟩, hBp, by have := HQ.out; show q.nb + q.K + 1 ≤ _; omega⟩⟩, ?_⟩
              · rintro k rfl
                exact ⟨hBp, _, _, _, ht5, by decide, by decide, by decide, by decide, by decide, by decide⟩
              · exact ownsRow_beside hr5.row hbs (fun k hk e => ownsRow_ne hr5.row ht5 (by decide) k hk e)
              · intro x hx
                obtain ⟨o1, o2, o3⟩ := hr5.own x hx
                exact ⟨ownsRow_beside o1 hbs (fun k hk e => ownsRow_ne o1 ht5 (by decide) k hk e), ownsRow_beside o2 hbs (fun k hk e => ownsRow_ne o2 ht5 (by decide) k hk e), o3⟩
              · refine ((HL2.out.trans (Below.lt HB.out)).trans (HLT.out.trans HQ8.out.lt)).trans (LT.beside hbs ?_)
                rintro k rfl cs t fr hh
                rw [show w8.heap[k]? = _ from ht5] at hh
                simp at hh
                exact .inl hh.2.1.symm
      · have hne1 : ¬ (en : Int) = 1 := by omega
        have hneb : ((en : Int) == 1) = false := beq_false_of_ne hne1
        refine wp_region_held_drew (S := fun w' => w'.cell? ⟨pt, 0, none⟩ = some (.pointer (some ⟨pl, 0, none⟩)) ∧ w'.cell? ⟨pt, 2, none⟩ = some (.int .i64 (cost3 : Nat))) (by kernel_rfl) ⟨t0, t2e⟩ (fun hHeld => ?_)
        refine wpAnyH_take (i := 0) (oi := ⟨_, _, _, _, _, _⟩) (v := ?_) rfl (by kernel_rfl) (by kernel_rfl) (by kernel_rfl) (fun _ _ _ h => h) (Or.inl ⟨by rfl, ?_⟩) (by assumption) ?_
        rotate_left
        · intro w hSw; (try dsimp only at hSw); go_simp <;> with_reducible rfl
        simp only [Act.put, List.setIfInBounds_toArray, List.set_cons_zero, List.set_cons_succ]
        refine wpAnyH_take (i := 1) (oi := ⟨_, _, _, _, _, _⟩) (v := ?_) rfl (by kernel_rfl) (by kernel_rfl) (by kernel_rfl) (fun _ _ _ h => h) (Or.inl ⟨by rfl, ?_⟩) (by assumption) ?_
        rotate_left
        · intro w hSw; (try dsimp only at hSw); go_simp <;> with_reducible rfl
        simp only [Act.put, List.setIfInBounds_toArray, List.set_cons_zero, List.set_cons_succ]
        refine wpAnyH_take (i := 2) (oi := ⟨_, _, _, _, _, _⟩) (v := ?_) rfl (by kernel_rfl) (by kernel_rfl) (by kernel_rfl) (fun _ _ _ h => h) (Or.inl ⟨by rfl, ?_⟩) (by assumption) ?_
        rotate_left
        · intro w hSw; (try dsimp only at hSw); go_simp <;> with_reducible rfl
        simp only [Act.put, List.setIfInBounds_toArray, List.set_cons_zero, List.set_cons_succ]
        refine wpAnyH_take (i := 3) (oi := ⟨_, _, _, _, _, _⟩) (v := ?_) rfl (by kernel_rfl) (by kernel_rfl) (by kernel_rfl) (fun _ _ _ h => h) (Or.inl ⟨by rfl, ?_⟩) (by assumption) ?_
        rotate_left
        · intro w hSw; (try dsimp only at hSw); go_simp <;> with_reducible rfl
        simp only [Act.put, List.setIfInBounds_toArray, List.set_cons_zero, List.set_cons_succ]
        refine wpAnyH_take (i := 5) (oi := ⟨_, _, _, _, _, _⟩) (v := ?_) rfl (by kernel_rfl) (by kernel_rfl) (by kernel_rfl) (fun _ _ _ h => h) (Or.inl ⟨by rfl, ?_⟩) (by assumption) ?_
        rotate_left
        · intro w hSw; (try dsimp only at hSw); go_simp <;> with_reducible rfl
        simp only [Act.put, List.setIfInBounds_toArray, List.set_cons_zero, List.set_cons_succ]
        refine wpAnyH_take (i := 6) (oi := ⟨_, _, _, _, _, _⟩) (v := ?_) rfl (by kernel_rfl) (by kernel_rfl) (by kernel_rfl) (fun _ _ _ h => h) (Or.inl ⟨by rfl, ?_⟩) (by assumption) ?_
        rotate_left
        · intro w hSw; (try dsimp only at hSw); go_simp <;> with_reducible rfl
        simp only [Act.put, List.setIfInBounds_toArray, List.set_cons_zero, List.set_cons_succ]
        refine wpAnyH_take (i := 7) (oi := ⟨_, _, _, _, _, _⟩) (v := ?_) rfl (by kernel_rfl) (by kernel_rfl) (by kernel_rfl) (fun _ _ _ h => h) (Or.inl ⟨by rfl, ?_⟩) (by assumption) ?_
        rotate_left
        · intro w hSw; (try dsimp only at hSw); go_simp <;> with_reducible rfl
        simp only [Act.put, List.setIfInBounds_toArray, List.set_cons_zero, List.set_cons_succ]
        refine wpAnyH_take (i := 8) (oi := ⟨_, _, _, _, _, _⟩) (v := ?_) rfl (by kernel_rfl) (by kernel_rfl) (by kernel_rfl) (fun _ _ _ h => h) (Or.inl ⟨by rfl, ?_⟩) (by assumption) ?_
        rotate_left
        · intro w hSw; (try dsimp only at hSw); go_simp <;> with_reducible rfl
        simp only [Act.put, List.setIfInBounds_toArray, List.set_cons_zero, List.set_cons_succ]
        refine wpAnyH_take (i := 11) (oi := ⟨_, _, _, _, _, _⟩) (v := ?_) rfl (by kernel_rfl) (by kernel_rfl) (by kernel_rfl) (fun _ _ _ h => h) (Or.inl ⟨by rfl, ?_⟩) (by assumption) ?_
        rotate_left
        · intro w hSw; (try dsimp only at hSw); go_simp <;> with_reducible rfl
        simp only [Act.put, List.setIfInBounds_toArray, List.set_cons_zero, List.set_cons_succ]
        refine wpAnyH_take (i := 12) (oi := ⟨_, _, _, _, _, _⟩) (v := ?_) rfl (by kernel_rfl) (by kernel_rfl) (by kernel_rfl) (fun _ _ _ h => h) (Or.inl ⟨by rfl, ?_⟩) (by assumption) ?_
        rotate_left
        · intro w hSw; (try dsimp only at hSw); go_simp <;> with_reducible rfl
        simp only [Act.put, List.setIfInBounds_toArray, List.set_cons_zero, List.set_cons_succ]
        refine wpAnyH_take (i := 13) (oi := ⟨_, _, _, _, _, _⟩) (v := ?_) rfl (by kernel_rfl) (by kernel_rfl) (by kernel_rfl) (fun _ _ _ h => h) (Or.inl ⟨by rfl, ?_⟩) (by assumption) ?_
        rotate_left
        · intro w hSw; (try dsimp only at hSw); go_simp <;> with_reducible rfl
        simp only [Act.put, List.setIfInBounds_toArray, List.set_cons_zero, List.set_cons_succ]
        refine wpAnyH_ready (rs := [4]) (by kernel_rfl) (by simp) ?_
        refine AllReadyH.cons (o := ⟨_, _, _, _, _, _⟩) rfl (fun K hK => ?_) AllReadyH.nil
        go_simp
        go_at_call 42
        refine (HNX.out _ (by first | exact (Below.refl _ _).drew | exact (Below.refl _ _).drew.drew)).mono ?_
        rintro e w' ⟨rfl, rfl⟩
        refine hK.out _ _ ⟨t0, t2e⟩ (fun hHeld2 => ?_)
        clear hK K
        refine wpAnyH_ready (rs := [9]) (by kernel_rfl) (by simp) ?_
        refine AllReadyH.cons (o := ⟨_, _, _, _, _, _⟩) rfl (fun K hK => ?_) AllReadyH.nil
        go_simp
        go_at_call 43
        refine (HFS.out _ (by first | exact (Below.refl _ _).drew | exact (Below.refl _ _).drew.drew)).mono ?_
        rintro e w' ⟨rfl, rfl⟩
        refine hK.out _ _ ⟨t0, t2e⟩ (fun hHeld2 => ?_)
        clear hK K
        try simp only [Act.put, List.setIfInBounds_toArray, List.set_cons_zero, List.set_cons_succ]
        refine wpAnyH_take (i := 10) (oi := ⟨_, _, _, _, _, _⟩) (v := ?_) rfl (by kernel_rfl) (by kernel_rfl) (by kernel_rfl) (fun _ _ _ h => h) (Or.inl ⟨by rfl, ?_⟩) (by assumption) ?_
        rotate_left
        · intro w hSw; (try dsimp only at hSw); go_simp <;> with_reducible rfl
        simp only [Act.put, List.setIfInBounds_toArray, List.set_cons_zero, List.set_cons_succ]
        refine wpAnyH_take (i := 14) (oi := ⟨_, _, _, _, _, _⟩) (v := ?_) rfl (by kernel_rfl) (by kernel_rfl) (by kernel_rfl) (fun _ _ _ h => h) (Or.inl ⟨by rfl, ?_⟩) (by assumption) ?_
        rotate_left
        · intro w hSw; (try dsimp only at hSw); go_simp <;> with_reducible rfl
        simp only [Act.put, List.setIfInBounds_toArray, List.set_cons_zero, List.set_cons_succ]
        refine wpAnyH_take (i := 15) (oi := ⟨_, _, _, _, _, _⟩) (v := ?_) rfl (by kernel_rfl) (by kernel_rfl) (by kernel_rfl) (fun _ _ _ h => h) (Or.inl ⟨by rfl, ?_⟩) (by assumption) ?_
        rotate_left
        · intro w hSw; (try dsimp only at hSw); go_simp <;> with_reducible rfl
        simp only [Act.put, List.setIfInBounds_toArray, List.set_cons_zero, List.set_cons_succ]
        refine wpAnyH_take (i := 16) (oi := ⟨_, _, _, _, _, _⟩) (v := undef) rfl (by kernel_rfl) (by kernel_rfl) (by kernel_rfl) (fun _ _ _ h => h) (Or.inr ⟨by rfl, rfl⟩) (by assumption) ?_
        simp only [Act.put, List.setIfInBounds_toArray, List.set_cons_zero, List.set_cons_succ]
        refine wpAnyH_take (i := 17) (oi := ⟨_, _, _, _, _, _⟩) (v := undef) rfl (by kernel_rfl) (by kernel_rfl) (by kernel_rfl) (fun _ _ _ h => h) (Or.inr ⟨by rfl, rfl⟩) (by assumption) ?_
        simp only [Act.put, List.setIfInBounds_toArray, List.set_cons_zero, List.set_cons_succ]
        refine wpAnyH_take (i := 18) (oi := ⟨_, _, _, _, _, _⟩) (v := undef) rfl (by kernel_rfl) (by kernel_rfl) (by kernel_rfl) (fun _ _ _ h => h) (Or.inr ⟨by rfl, rfl⟩) (by assumption) ?_
        simp only [Act.put, List.setIfInBounds_toArray, List.set_cons_zero, List.set_cons_succ]
        refine wpAnyH_take (i := 19) (oi := ⟨_, _, _, _, _, _⟩) (v := undef) rfl (by kernel_rfl) (by kernel_rfl) (by kernel_rfl) (fun _ _ _ h => h) (Or.inr ⟨by rfl, rfl⟩) (by assumption) ?_
        simp only [Act.put, List.setIfInBounds_toArray, List.set_cons_zero, List.set_cons_succ]
        refine wpAnyH_take (i := 20) (oi := ⟨_, _, _, _, _, _⟩) (v := undef) rfl (by kernel_rfl) (by kernel_rfl) (by kernel_rfl) (fun _ _ _ h => h) (Or.inr ⟨by rfl, rfl⟩) (by assumption) ?_
        simp only [Act.put, List.setIfInBounds_toArray, List.set_cons_zero, List.set_cons_succ]
        refine wpAnyH_take (i := 21) (oi := ⟨_, _, _, _, _, _⟩) (v := undef) rfl (by kernel_rfl) (by kernel_rfl) (by kernel_rfl) (fun _ _ _ h => h) (Or.inr ⟨by rfl, rfl⟩) (by assumption) ?_
        simp only [Act.put, List.setIfInBounds_toArray, List.set_cons_zero, List.set_cons_succ]
        refine wpAnyH_take (i := 22) (oi := ⟨_, _, _, _, _, _⟩) (v := ?_) rfl (by kernel_rfl) (by kernel_rfl) (by kernel_rfl) (fun _ _ _ h => h) (Or.inl ⟨by rfl, ?_⟩) (by assumption) ?_
        rotate_left
        · intro w hSw; (try dsimp only at hSw); go_simp <;> with_reducible rfl
        simp only [Act.put, List.setIfInBounds_toArray, List.set_cons_zero, List.set_cons_succ]
        refine wpAnyH_done (by kernel_rfl) ?_ _
        clear hHeld hHeld2
        go_wp2_with fail
        refine wp_region_held_drew (S := fun w' => True) (by kernel_rfl) trivial (fun hHeld => ?_)
        refine wpAnyH_take (i := 0) (oi := ⟨_, _, _, _, _, _⟩) (v := ?_) rfl (by kernel_rfl) (by kernel_rfl) (by kernel_rfl) (fun _ _ _ h => h) (Or.inl ⟨by rfl, ?_⟩) (by assumption) ?_
        rotate_left
        · intro w hSw; (try dsimp only at hSw); go_simp <;> with_reducible rfl
        simp only [Act.put, List.setIfInBounds_toArray, List.set_cons_zero, List.set_cons_succ]
        refine wpAnyH_take (i := 1) (oi := ⟨_, _, _, _, _, _⟩) (v := ?_) rfl (by kernel_rfl) (by kernel_rfl) (by kernel_rfl) (fun _ _ _ h => h) (Or.inl ⟨by rfl, ?_⟩) (by assumption) ?_
        rotate_left
        · intro w hSw; (try dsimp only at hSw); go_simp <;> with_reducible rfl
        simp only [Act.put, List.setIfInBounds_toArray, List.set_cons_zero, List.set_cons_succ]
        refine wpAnyH_take (i := 2) (oi := ⟨_, _, _, _, _, _⟩) (v := ?_) rfl (by kernel_rfl) (by kernel_rfl) (by kernel_rfl) (fun _ _ _ h => h) (Or.inl ⟨by rfl, ?_⟩) (by assumption) ?_
        rotate_left
        · intro w hSw; (try dsimp only at hSw); go_simp <;> with_reducible rfl
        simp only [Act.put, List.setIfInBounds_toArray, List.set_cons_zero, List.set_cons_succ]
        refine wpAnyH_take (i := 3) (oi := ⟨_, _, _, _, _, _⟩) (v := ?_) rfl (by kernel_rfl) (by kernel_rfl) (by kernel_rfl) (fun _ _ _ h => h) (Or.inl ⟨by rfl, ?_⟩) (by assumption) ?_
        rotate_left
        · intro w hSw; (try dsimp only at hSw); go_simp <;> with_reducible rfl
        simp only [Act.put, List.setIfInBounds_toArray, List.set_cons_zero, List.set_cons_succ]
        refine wpAnyH_take (i := 4) (oi := ⟨_, _, _, _, _, _⟩) (v := undef) rfl (by kernel_rfl) (by kernel_rfl) (by kernel_rfl) (fun _ _ _ h => h) (Or.inr ⟨by rfl, rfl⟩) (by assumption) ?_
        simp only [Act.put, List.setIfInBounds_toArray, List.set_cons_zero, List.set_cons_succ]
        refine wpAnyH_take (i := 5) (oi := ⟨_, _, _, _, _, _⟩) (v := undef) rfl (by kernel_rfl) (by kernel_rfl) (by kernel_rfl) (fun _ _ _ h => h) (Or.inr ⟨by rfl, rfl⟩) (by assumption) ?_
        simp only [Act.put, List.setIfInBounds_toArray, List.set_cons_zero, List.set_cons_succ]
        refine wpAnyH_take (i := 6) (oi := ⟨_, _, _, _, _, _⟩) (v := undef) rfl (by kernel_rfl) (by kernel_rfl) (by kernel_rfl) (fun _ _ _ h => h) (Or.inr ⟨by rfl, rfl⟩) (by assumption) ?_
        simp only [Act.put, List.setIfInBounds_toArray, List.set_cons_zero, List.set_cons_succ]
        refine wpAnyH_take (i := 7) (oi := ⟨_, _, _, _, _, _⟩) (v := undef) rfl (by kernel_rfl) (by kernel_rfl) (by kernel_rfl) (fun _ _ _ h => h) (Or.inr ⟨by rfl, rfl⟩) (by assumption) ?_
        simp only [Act.put, List.setIfInBounds_toArray, List.set_cons_zero, List.set_cons_succ]
        refine wpAnyH_take (i := 8) (oi := ⟨_, _, _, _, _, _⟩) (v := undef) rfl (by kernel_rfl) (by kernel_rfl) (by kernel_rfl) (fun _ _ _ h => h) (Or.inr ⟨by rfl, rfl⟩) (by assumption) ?_
        simp only [Act.put, List.setIfInBounds_toArray, List.set_cons_zero, List.set_cons_succ]
        refine wpAnyH_take (i := 9) (oi := ⟨_, _, _, _, _, _⟩) (v := undef) rfl (by kernel_rfl) (by kernel_rfl) (by kernel_rfl) (fun _ _ _ h => h) (Or.inr ⟨by rfl, rfl⟩) (by assumption) ?_
        simp only [Act.put, List.setIfInBounds_toArray, List.set_cons_zero, List.set_cons_succ]
        refine wpAnyH_take (i := 10) (oi := ⟨_, _, _, _, _, _⟩) (v := undef) rfl (by kernel_rfl) (by kernel_rfl) (by kernel_rfl) (fun _ _ _ h => h) (Or.inr ⟨by rfl, rfl⟩) (by assumption) ?_
        simp only [Act.put, List.setIfInBounds_toArray, List.set_cons_zero, List.set_cons_succ]
        refine wpAnyH_take (i := 11) (oi := ⟨_, _, _, _, _, _⟩) (v := undef) rfl (by kernel_rfl) (by kernel_rfl) (by kernel_rfl) (fun _ _ _ h => h) (Or.inr ⟨by rfl, rfl⟩) (by assumption) ?_
        simp only [Act.put, List.setIfInBounds_toArray, List.set_cons_zero, List.set_cons_succ]
        refine wpAnyH_take (i := 12) (oi := ⟨_, _, _, _, _, _⟩) (v := undef) rfl (by kernel_rfl) (by kernel_rfl) (by kernel_rfl) (fun _ _ _ h => h) (Or.inr ⟨by rfl, rfl⟩) (by assumption) ?_
        simp only [Act.put, List.setIfInBounds_toArray, List.set_cons_zero, List.set_cons_succ]
        refine wpAnyH_take (i := 13) (oi := ⟨_, _, _, _, _, _⟩) (v := ?_) rfl (by kernel_rfl) (by kernel_rfl) (by kernel_rfl) (fun _ _ _ h => h) (Or.inl ⟨by rfl, ?_⟩) (by assumption) ?_
        rotate_left
        · intro w hSw; (try dsimp only at hSw); go_simp <;> with_reducible rfl
        simp only [Act.put, List.setIfInBounds_toArray, List.set_cons_zero, List.set_cons_succ]
        refine wpAnyH_done (by kernel_rfl) ?_ _
        have HG1 : Hid (∀ W, Below wq.heap.size wq W → W.cell? ⟨g, 0, none⟩ = some (.slice sa C.length sc)) := Lib.hid fun W hW => HG0.out W (HB.out.trans (hW.mono HB.out.size))
        have HTW : Hid (∀ W, Below wq.heap.size wq W → Calls Try.prog 34 #[.pointer (some ⟨pt, 0, none⟩), .slice sa C.length sc] W fun e w' => e = .returned (.int .i64 0) ∧ Tc B w0 w' pt pl pd kv q.wrote P ∧ LT W w') := Lib.hid fun W hW => by
          have hq := HQ.out
          have hv := (HCH.out.below (HB.out.trans (hW.mono HB.out.size))).chgV
          rw [HCM.out] at hv
          exact twrite_c (HTR.out.below hW) hv (by rw [List.length_map]; exact hq.2.2.1) hq.2.2.2.1 N (by rw [List.length_map]; exact hq.2.2.2.2.2.1) hq.2.2.2.2.2.2.1 hq.2.2.2.2.2.2.2.1 (by omega)
        clear hHeld
        go_upto_region 19 with (first | (go_at_call 42; refine (HNX.out _ (by exact (((Below.refl _ _).drew).drew).drew)).mono ?_; rintro e w' ⟨rfl, rfl⟩))
        go_loopw [82] (fun i wx => ∃ k : Nat, k ≤ 1 ∧ i = .int .i64 (k : Nat) ∧ (k = 0 → Below wq.heap.size wq wx) ∧ (k = 1 → Tc B w0 wx pt pl pd kv q.wrote P ∧ LT wq wx)) (fun i _ => 1 - (RowKit.intOf i).toNat)
        case atStart => exact ⟨0, by omega, rfl, fun _ => (((Below.refl _ _).drew).drew).drew.drew, fun h => absurd h (by decide)⟩
        case round =>
          obtain ⟨k, hk, rfl, hk0, hk1⟩ := hrel
          by_cases hkn : k < 1
          · obtain rfl : k = 0 := by omega
            have hbx := hk0 rfl
            have c0 := HG1.out _ hbx
            have HW2 := Lib.hid (HTW.out _ hbx)
            have HBX := Lib.hid hbx
            clear hbx hk0 hk1
            go_wp2_with (first | (go_at_call 34; refine HW2.out.mono ?_; rintro e w7 ⟨rfl, ht7, hl7⟩; have HT7 := Lib.hid ht7; have HL7 := Lib.hid hl7; clear ht7 hl7))
            go_roundw
            case rel => exact ⟨1, by omega, by go_num, fun h => absurd h (by decide), fun _ => ⟨HT7.out, (Below.lt HBX.out).trans HL7.out⟩⟩
            case measure => simp [intOf]
          · obtain rfl : k = 1 := by omega
            obtain ⟨htc, hlt⟩ := hk1 rfl
            have HLT := Lib.hid hlt
            clear hk0 hk1 hlt
            obtain ⟨⟨s2, S2, W2, hl2, hs2⟩, ⟨cost4, pv4, L4, htv4, hco4, hpr4, hm4⟩, hBp4, hfu4⟩ := htc
            obtain ⟨tt0, -, -, -⟩ := htv4.cells
            have hlen2 : 2 ≤ s2.ents.length := by
              have h1 := hs2.lo
              have h2 := HQ.out.2.1
              show 2 ≤ _
              have : q.wrote.lo = q.lo + 1 := rfl
              omega
            have hnx2 : s2.first + s2.ents.length = q.nx + 1 := hs2.next.1
            have hnl2 : q.nx + 1 ≤ q.nb + q.K := hs2.next.2
            obtain ⟨xc, hxc⟩ : ∃ x, s2.ents[q.nx - s2.first]? = some x := ⟨_, List.getElem?_eq_getElem (by omega)⟩
            have hq := HQ.out
            have hKb : q.K ≤ 65536 := by
              have h1 : q.K ≤ (q.ne + 1) * q.K := Nat.le_mul_of_pos_left _ (by omega)
              have h2 := hs2.fit.bound
              have h3 : s2.ring = q.ring := hs2.ring
              omega
            have hcutL := hs2.cut (n := q.nx) (x := xc) (by omega) (by omega) 1 1 (by omega) (by omega) (by show q.nb + q.K + 1 ≤ _; omega)
            have HCT := Lib.hid (cut_any hl2 hs2.fit q.nx (by omega) xc hxc (fun y hy => by
              obtain ⟨h1, h2, h3⟩ := hs2.ents y hy
              have : y.cells ≤ q.K := h1
              exact ⟨h2, h3, by omega⟩) hcutL.2)
            have HCL2 := Lib.hid hcutL.1
            have HT4 := Lib.hid htv4
            have HP4 := Lib.hid (And.intro hpr4 (And.intro hm4 (And.intro hBp4 hfu4)))
            have hsz : (sm : Int) ≤ 1000000000 := by have := HSM.out; omega
            clear hl2 hs2 htv4 hco4 hpr4 hm4 hBp4 hfu4 hlen2 hnx2 hnl2 hxc hq hKb hcutL
            go_upto_region 26 with (first | (go_at_call 45; refine HCT.out.mono ?_; rintro e w8 ⟨rfl, hl8, hq8⟩; have HL8 := Lib.hid hl8; have HQ8 := Lib.hid hq8; clear hl8 hq8))
            have ht8 := HT4.out.lq HQ8.out
            have HT8 := Lib.hid ht8
            obtain ⟨-, -, y2, -⟩ := ht8.cells
            have hfz := ht8.free 2
            clear ht8
            go_wp2_with fail
            go_ret
            have ht5 := HT8.out
            have hbs : Beside (fun k => k = pt) w8 (w8.setCell ⟨pt, 2, none⟩ (.int .i64 (sm : Nat))) := (Beside.refl (fun k => k = pt) w8).setCell (p := ⟨pt, 2, none⟩) (.inl rfl) _
            obtain ⟨hpr, hm, hBp, hfu⟩ := HP4.out
            have hr5 : PairR w8 B pv4 L4 := hpr.lq HQ8.out
            refine ⟨rfl, ⟨q.nb + q.K + 1, q.nx + 1, Nat.le_refl _, ⟨⟨_, _, _, HL8.out.beside hbs ?_, HCL2.out⟩, ⟨sm, pv4, L4, ht5.set2 sm, ⟨by have := HSM.out; show sm ≤ 3 * (q.nb + q.K + 1); omega, fun h => by cases h⟩, ⟨?_, ?_⟩, hm⟩, hBp, by have := HQ.out; show q.nb + q.K + 1 ≤ _; omega⟩⟩, ?_⟩
            · rintro k rfl
              exact ⟨hBp, _, _, _, ht5, by decide, by decide, by decide, by decide, by decide, by decide⟩
            · exact ownsRow_beside hr5.row hbs (fun k hk e => ownsRow_ne hr5.row ht5 (by decide) k hk e)
            · intro x hx
              obtain ⟨o1, o2, o3⟩ := hr5.own x hx
              exact ⟨ownsRow_beside o1 hbs (fun k hk e => ownsRow_ne o1 ht5 (by decide) k hk e), ownsRow_beside o2 hbs (fun k hk e => ownsRow_ne o2 ht5 (by decide) k hk e), o3⟩
            · refine ((HL2.out.trans (Below.lt HB.out)).trans (HLT.out.trans HQ8.out.lt)).trans (LT.beside hbs ?_)
              rintro k rfl cs t fr hh
              rw [show w8.heap[k]? = _ from ht5] at hh
              simp at hh
              exact .inl hh.2.1.symm
end Go.Proofs.Ytmnbkhgogogeiaa
