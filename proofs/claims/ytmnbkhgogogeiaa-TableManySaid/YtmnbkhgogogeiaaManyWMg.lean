/-
  TableMany: the walk.
-/
import Derived.Test.YtmnbkhgogogeiaaManyAMg
import Derived.Lib.QuietBelow
import Derived.BigQuiet
namespace Go.Proofs.Ytmnbkhgogogeiaa
set_option linter.unusedVariables false
open Go.RowKit Go.Lib Go.Sort

theorem weighL_le (C : List Chg) (hC : C.length ≤ 60) (hs : ∀ c ∈ C, c.key.length ≤ 281474976710656 ∧ c.val.length ≤ 281474976710656) : weighL C ≤ 60000000000000000 := by
  have h1 := weigh_le C 281474976710656 hs
  have h2 := weighL_eq C
  have h3 : C.length * (2 * 281474976710656) ≤ 60 * (2 * 281474976710656) := Nat.mul_le_mul_right _ hC
  omega
theorem weighL_mem (C : List Chg) : ∀ c ∈ C, c.key.length + c.val.length ≤ weighL C := by
  intro c hc
  obtain ⟨k, hk, rfl⟩ := List.getElem_of_mem hc
  have h1 := weigh_at C k hk
  have h2 := weighL_eq C
  omega

set_option maxRecDepth 100000 in
set_option maxHeartbeats 16000000 in
theorem tmany_walk (v0 v1 v2 : Value) (C D : List Chg) (key : List Nat) (w : World) (hC : ChgV w v0 C) (hD : ChgV w v1 D) (hk : RowB w v2 key)
    (hsC : ∀ c ∈ C, c.key.length ≤ 281474976710656 ∧ c.val.length ≤ 281474976710656) (hsD : ∀ c ∈ D, c.key.length ≤ 281474976710656 ∧ c.val.length ≤ 281474976710656) :
    Calls Try.prog 3 #[v0, v1, v2] w fun e w' => e = .returned (.bool true) ∧ Below w.heap.size w w' := by
  obtain ⟨ca, cc, rfl, hcc, -⟩ := id hC
  obtain ⟨da, dc, rfl, hdc, -⟩ := id hD
  obtain ⟨ka, kl, kc, rfl, hkl, -⟩ := id hk
  have HC := Lib.hid (And.intro hC (And.intro hD hk))
  have HS := Lib.hid (And.intro hsC hsD)
  have HKL := Lib.hid hkl
  clear hC hD hk hsC hsD hkl
  go_enter Try.func3, Try.ntmps3
  go_upto_region 3 with (first
    | (go_at_call 7; refine (new_held 8000 _ (by decide) (by decide)).mono ?_; rintro e w2 ⟨pd, kvv, rfl, hd2⟩; have HD2 := Lib.hid hd2; clear hd2)
    | (go_at_call 8; refine (topen_fresh HD2.out (by decide) (by decide)).mono ?_; rintro e w3 ⟨pt, pl, rfl, ht3, -⟩; have HT3 := Lib.hid ht3; clear ht3))
  clear HD2
  have HB3 : Hid (Below w.heap.size w w3) := Lib.hid (by
    obtain ⟨⟨s, S, W, hl, _⟩, _⟩ := HT3.out
    exact hl.disk.below)
  have HCN : Hid ((C.length : Int) < 0 ∨ 0 ≤ (C.length : Int)) := Lib.hid (by omega)
  by_cases g1 : 60 < C.length ∨ 60 < D.length ∨ 64000 < 2 * (weighL C + weighL D)
  · rcases (show 60 < C.length ∨ (¬ 60 < C.length ∧ 60 < D.length) ∨ (¬ 60 < C.length ∧ ¬ 60 < D.length ∧ 64000 < 2 * (weighL C + weighL D)) by omega) with g | g | g
    · have q1 : (60 : Int) < (C.length : Int) := by omega
      have e1 : decide ((60 : Int) < (C.length : Int)) = true := decide_eq_true q1
      clear g g1
      go_upto_region 4 with (first
        | (go_at_call 9; refine (twake_any _).mono ?_; rintro e w4 ⟨rfl, hb4⟩; have HB4 := Lib.hid hb4; clear hb4))
      go_wp2_with (first
        | (go_at_call 9; refine (twake_any _).mono ?_; rintro e w5 ⟨rfl, hb5⟩; have HB5 := Lib.hid hb5; clear hb5))
      go_ret
      exact ⟨rfl, HB3.out.trans ((HB4.out.trans (HB5.out.mono HB4.out.size)).mono HB3.out.size)⟩
    · have q1 : ¬ (60 : Int) < (C.length : Int) := by omega
      have q2 : (60 : Int) < (D.length : Int) := by omega
      have e1 : decide ((60 : Int) < (C.length : Int)) = false := decide_eq_false q1
      have e2 : decide ((60 : Int) < (D.length : Int)) = true := decide_eq_true q2
      clear g g1
      go_upto_region 4 with (first
        | (go_at_call 9; refine (twake_any _).mono ?_; rintro e w4 ⟨rfl, hb4⟩; have HB4 := Lib.hid hb4; clear hb4))
      go_wp2_with (first
        | (go_at_call 9; refine (twake_any _).mono ?_; rintro e w5 ⟨rfl, hb5⟩; have HB5 := Lib.hid hb5; clear hb5))
      go_ret
      exact ⟨rfl, HB3.out.trans ((HB4.out.trans (HB5.out.mono HB4.out.size)).mono HB3.out.size)⟩
    · have q1 : ¬ (60 : Int) < (C.length : Int) := by omega
      have q2 : ¬ (60 : Int) < (D.length : Int) := by omega
      have e1 : decide ((60 : Int) < (C.length : Int)) = false := decide_eq_false q1
      have e2 : decide ((60 : Int) < (D.length : Int)) = false := decide_eq_false q2
      have hwlC := weighL_le C (by omega) HS.out.1
      have hwlD := weighL_le D (by omega) HS.out.2
      obtain ⟨wc, hwc⟩ : ∃ x, weighL C = x := ⟨_, rfl⟩
      obtain ⟨wd, hwd⟩ : ∃ x, weighL D = x := ⟨_, rfl⟩
      have HWT : Hid (∀ W, Below w3.heap.size w3 W → Calls Try.prog 10 #[.slice ca C.length cc] W fun e w' => e = .returned (.int .i64 (wc : Nat)) ∧ Below w3.heap.size w3 w') := Lib.hid fun W hW => by
        have hb := HB3.out.trans (hW.mono HB3.out.size)
        refine (weight_any (HC.out.1.below hb) (by omega) HS.out.1).mono ?_
        rintro e w' ⟨rfl, h⟩
        exact ⟨by rw [hwc], hW.trans (h.mono hW.size)⟩
      have HWD : Hid (∀ W, Below w3.heap.size w3 W → Calls Try.prog 10 #[.slice da D.length dc] W fun e w' => e = .returned (.int .i64 (wd : Nat)) ∧ Below w3.heap.size w3 w') := Lib.hid fun W hW => by
        have hb := HB3.out.trans (hW.mono HB3.out.size)
        refine (weight_any (HC.out.2.1.below hb) (by omega) HS.out.2).mono ?_
        rintro e w' ⟨rfl, h⟩
        exact ⟨by rw [hwd], hW.trans (h.mono hW.size)⟩
      obtain ⟨ws, hws⟩ : ∃ x, wc + wd = x := ⟨_, rfl⟩
      obtain ⟨wt, hwt⟩ : ∃ x, 2 * ws = x := ⟨_, rfl⟩
      have hsz : (wc : Int) + (wd : Int) = (ws : Int) := by omega
      have htz : 2 * (ws : Int) = (wt : Int) := by omega
      have hwl : 64000 < wt := by rw [← hwt, ← hws, ← hwc, ← hwd]; exact g.2.2
      have hwb : wt ≤ 240000000000000000 := by rw [← hwt, ← hws, ← hwc, ← hwd]; omega
      have q3 : (64000 : Int) < (wt : Int) := by omega
      have e3 : decide ((64000 : Int) < (wt : Int)) = true := decide_eq_true q3
      have k1 : IntKind.i64.wrap (ws : Int) = (ws : Int) := wrap_ok _ (by omega) (by omega)
      have k2 : IntKind.i64.wrap (wt : Int) = (wt : Int) := wrap_ok _ (by omega) (by omega)
      clear g g1 hwc hwd hws hwt hwl hwb hwlC hwlD
      go_upto_region 4 with (first
        | (go_at_call 9; refine (twake_any _).mono ?_; rintro e w4 ⟨rfl, hb4⟩; have HB4 := Lib.hid hb4; clear hb4)
        | (go_at_call 10; with_reducible refine (HWT.out _ HB4.out).mono ?_; rintro e w5 ⟨rfl, hb5⟩; have HB5 := Lib.hid hb5; clear hb5)
        | (go_at_call 10; with_reducible refine (HWD.out _ HB5.out).mono ?_; rintro e w6 ⟨rfl, hb6⟩; have HB6 := Lib.hid hb6; clear hb6))
      go_wp2_with (first
        | (go_at_call 9; refine (twake_any _).mono ?_; rintro e w7 ⟨rfl, hb7⟩; have HB7 := Lib.hid hb7; clear hb7))
      go_ret
      exact ⟨rfl, HB3.out.trans ((HB6.out.trans (HB7.out.mono HB6.out.size)).mono HB3.out.size)⟩
  · have q1 : ¬ (60 : Int) < (C.length : Int) := by omega
    have q2 : ¬ (60 : Int) < (D.length : Int) := by omega
    have e1 : decide ((60 : Int) < (C.length : Int)) = false := decide_eq_false q1
    have e2 : decide ((60 : Int) < (D.length : Int)) = false := decide_eq_false q2
    have HW := Lib.hid g1
    obtain ⟨wc, hwc⟩ : ∃ x, weighL C = x := ⟨_, rfl⟩
    obtain ⟨wd, hwd⟩ : ∃ x, weighL D = x := ⟨_, rfl⟩
    have HWT : Hid (∀ W, Below w3.heap.size w3 W → Calls Try.prog 10 #[.slice ca C.length cc] W fun e w' => e = .returned (.int .i64 (wc : Nat)) ∧ Below w3.heap.size w3 w') := Lib.hid fun W hW => by
      have hb := HB3.out.trans (hW.mono HB3.out.size)
      refine (weight_any (HC.out.1.below hb) (by omega) HS.out.1).mono ?_
      rintro e w' ⟨rfl, h⟩
      exact ⟨by rw [hwc], hW.trans (h.mono hW.size)⟩
    have HWD : Hid (∀ W, Below w3.heap.size w3 W → Calls Try.prog 10 #[.slice da D.length dc] W fun e w' => e = .returned (.int .i64 (wd : Nat)) ∧ Below w3.heap.size w3 w') := Lib.hid fun W hW => by
      have hb := HB3.out.trans (hW.mono HB3.out.size)
      refine (weight_any (HC.out.2.1.below hb) (by omega) HS.out.2).mono ?_
      rintro e w' ⟨rfl, h⟩
      exact ⟨by rw [hwd], hW.trans (h.mono hW.size)⟩
    obtain ⟨ws, hws⟩ : ∃ x, wc + wd = x := ⟨_, rfl⟩
    obtain ⟨wt, hwt⟩ : ∃ x, 2 * ws = x := ⟨_, rfl⟩
    have hsz : (wc : Int) + (wd : Int) = (ws : Int) := by omega
    have htz : 2 * (ws : Int) = (wt : Int) := by omega
    have hwl : wt ≤ 64000 := by rw [← hwt, ← hws, ← hwc, ← hwd]; omega
    have q3 : ¬ (64000 : Int) < (wt : Int) := by omega
    have e3 : decide ((64000 : Int) < (wt : Int)) = false := decide_eq_false q3
    have k1 : IntKind.i64.wrap (ws : Int) = (ws : Int) := wrap_ok _ (by omega) (by omega)
    have k2 : IntKind.i64.wrap (wt : Int) = (wt : Int) := wrap_ok _ (by omega) (by omega)
    clear g1 hwc hwd hws hwt hwl
    go_upto_region 5 with (first
      | (go_at_call 9; refine (twake_any _).mono ?_; rintro e w4 ⟨rfl, hb4⟩; have HB4 := Lib.hid hb4; clear hb4)
      | (go_at_call 10; with_reducible refine (HWT.out _ HB4.out).mono ?_; rintro e w5 ⟨rfl, hb5⟩; have HB5 := Lib.hid hb5; clear hb5)
      | (go_at_call 10; with_reducible refine (HWD.out _ HB5.out).mono ?_; rintro e w6 ⟨rfl, hb6⟩; have HB6 := Lib.hid hb6; clear hb6))
    have hW6 : Below w.heap.size w w6 := HB3.out.trans (HB6.out.mono HB3.out.size)
    have HC6 := Lib.hid (And.intro (HC.out.1.below hW6) (And.intro (HC.out.2.1.below hW6) (HC.out.2.2.below hW6)))
    have HT6 := Lib.hid (HT3.out.below HB6.out)
    have HW6 := Lib.hid hW6
    have HSZ : Hid (C.length ≤ 60 ∧ D.length ≤ 60 ∧ (∀ c ∈ C, c.key.length ≤ 32000 ∧ c.val.length ≤ 32000) ∧ ∀ c ∈ D, c.key.length ≤ 32000 ∧ c.val.length ≤ 32000) := Lib.hid (by
      have h := HW.out
      refine ⟨by omega, by omega, fun c hc => ?_, fun c hc => ?_⟩
      · have := weighL_mem C c hc; omega
      · have := weighL_mem D c hc; omega)
    clear HWT HWD HT3 HB3 HB4 HB5 HB6 hW6 q3 e3 k1 k2 hsz htz q2 e2 e1 HW HCN
    go_wp2_with fail
    go_loopw [12, 11] (fun i v wr => ∃ (k : Nat) (K : List Ch), k ≤ C.length ∧ i = .int .i64 (k : Nat) ∧ InF wr w6.heap.size v K ∧ K.map Ch.of = C.take k ∧ Below w6.heap.size w6 wr) (fun i _ _ => C.length - (RowKit.intOf i).toNat)
    case atStart => exact ⟨0, [], Nat.zero_le _, rfl, ⟨World.ownsRow_nil _ _ _ _, fun x hx => by cases hx⟩, rfl, Below.refl _ _⟩
    case round =>
      obtain ⟨k, K, hk, rfl, hin, hkm, hb⟩ := hrel
      rename World => wr
      obtain ⟨ia, ic, rfl⟩ := own_shape hin.row
      have hKl : K.length = k := by have := congrArg List.length hkm; simp at this; omega
      rw [hKl]
      by_cases hkn : k < C.length
      · obtain ⟨g, off, cap, xa, xc, ya, yc, e, -, c0, c1, c2, r1, r2⟩ := (HC6.out.1.below hb).at k hkn
        obtain ⟨rfl, -, rfl⟩ := Value.slice.inj e
        have HNX : Hid (C.take (k + 1) = C.take k ++ [C[k]]) := Lib.hid (List.take_succ_eq_append_getElem hkn)
        obtain ⟨d, hd⟩ : ∃ d, C[k] = d := ⟨_, rfl⟩
        have hds := HSZ.out.2.2.1 d (by rw [← hd]; exact List.getElem_mem hkn)
        rw [hd] at c0 c1 c2 r1 r2 HNX
        obtain ⟨dk, dv, dd⟩ := d
        simp only at c0 c1 c2 r1 r2 hds
        have hcg : g < wr.heap.size := World.block_lt_of_cell? wr _ c0
        have HCE : Hid (∀ W, Below wr.heap.size wr W → W.cell? ⟨g, off + k * 3, none⟩ = some (.slice xa dk.length xc) ∧ W.cell? ⟨g, off + k * 3 + 1, none⟩ = some (.slice ya dv.length yc) ∧ W.cell? ⟨g, off + k * 3 + 2, none⟩ = some (.bool dd)) := Lib.hid fun W hW =>
          ⟨(hW.cell (p := ⟨g, off + k * 3, none⟩) hcg).trans c0, (hW.cell (p := ⟨g, off + k * 3 + 1, none⟩) hcg).trans c1, (hW.cell (p := ⟨g, off + k * 3 + 2, none⟩) hcg).trans c2⟩
        have hown : ∀ (u : Value) (l : List Nat), RowB wr u l → l.length ≤ 32000 → ∀ W, Below wr.heap.size wr W → Calls Try.prog 11 #[u, .int .u8 71] W fun e w' => ∃ gx, e = .returned (.slice (some ⟨gx, 0, none⟩) l.length (l.length + 3)) ∧ OwnF w' wr.heap.size (.slice (some ⟨gx, 0, none⟩) l.length (l.length + 3)) l ff ∧ Below wr.heap.size wr w' ∧ ∀ v m, OwnF W wr.heap.size v m ff → OwnF w' wr.heap.size v m ff := fun u l hr hl W hW => by
          refine (own_any u l W 71 (hr.below hW) (by omega)).mono ?_
          rintro e w' ⟨o, rfl, ho, hb⟩
          obtain ⟨gx, rfl⟩ := ho.shape
          exact ⟨gx, rfl, ho.mono hW.size, hW.trans (hb.mono hW.size), fun v m h => h.below hb⟩
        have HOK := Lib.hid (hown _ dk r1 hds.1)
        have HOV := Lib.hid (hown _ dv r2 hds.2)
        have HRL := Lib.hid (And.intro r1.lt r2.lt)
        have hkz : (k : Int) < (C.length : Int) := by omega
        have hczz : (k : Int) < (cc : Int) := by omega
        have HIN := Lib.hid (And.intro hin (And.intro hkm hb))
        have HKL2 := Lib.hid hKl
        have HKN := Lib.hid hkn
        obtain ⟨i0, hi0, hz0, hz1, hz2⟩ := info_parts Try.info35
        have HI := Lib.hid hi0
        have d0 : wr.drew.cell? ⟨g, off + k * 3, none⟩ = some (.slice xa dk.length xc) := c0
        have d1 : wr.drew.cell? ⟨g, off + k * 3 + 1, none⟩ = some (.slice ya dv.length yc) := c1
        have d2 : wr.drew.cell? ⟨g, off + k * 3 + 2, none⟩ = some (.bool dd) := c2
        have HBD : Hid (Below wr.heap.size wr wr.drew) := Lib.hid (Below.refl _ _).drew
        clear hown hds r1 r2 hin hkm hb hKl hkn e c0 c1 c2 hi0 hd
        go_upto_region 9 with (fail)
        go_region_law (first
          | (go_simp; go_at_call 11; with_reducible refine (HOK.out _ (by first | with_reducible exact HBD.out | with_reducible exact HB7.out)).mono ?_; rintro e w7 ⟨gK, rfl, hoK, hbK, hmK⟩
             obtain ⟨kc0, kc1, kc2⟩ := HCE.out w7 hbK
             have HKF := Lib.hid hoK
             first | (have HVF2 := Lib.hid (hmK _ _ HVF.out)) | skip
             have HB7 := Lib.hid hbK
             clear hoK hbK hmK)
          | (go_simp; go_at_call 11; with_reducible refine (HOV.out _ (by first | with_reducible exact HBD.out | with_reducible exact HB7.out)).mono ?_; rintro e w7 ⟨gV, rfl, hoV, hbV, hmV⟩
             obtain ⟨kc0, kc1, kc2⟩ := HCE.out w7 hbV
             have HVF := Lib.hid hoV
             first | (have HKF2 := Lib.hid (hmV _ _ HKF.out)) | skip
             have HB7 := Lib.hid hbV
             clear hoV hbV hmV)
          | (refine step_append_lies _ (by rfl) _ _ _ (by rfl) w6.heap.size 35 i0 _ 3 56 Try.underlying22 HI.out hz0 hz1 hz2 rfl (by decide) (.slice ia k ic) k (chC K) (by rfl) (by rw [← HKL2.out]; exact (HIN.out.1.below (HB7.out.alloc HB7.out.size _)).row) ⟨w7.heap.size, 0, none⟩ 1 1 [.slice (some ⟨gK, 0, none⟩) dk.length (dk.length + 3), .slice (some ⟨gV, 0, none⟩) dv.length (dv.length + 3), .bool dd] (by rfl) (by rfl) (World.news_of_block (cs := #[.slice (some ⟨gK, 0, none⟩) dk.length (dk.length + 3), .slice (some ⟨gV, 0, none⟩) dv.length (dv.length + 3), .bool dd]) (t := 35) (fr := (0, 0)) (heap_alloc_new w7 _)) (by simp [Value.oneCell']) (by omega) (by have := HKN.out; have := HSZ.out; unfold maxLen; omega) (by have := HKN.out; have := HSZ.out; omega) (Nat.le_trans HIN.out.2.2.size (HB7.out.alloc HB7.out.size _).size) (w7.heap.size + 1) (by simp) ?_
             intro gg cap9 w9 hown9 hgrow hat hlt9
             have hxk : OwnF w7 wr.heap.size (.slice (some ⟨gK, 0, none⟩) dk.length (dk.length + 3)) dk ff := by first | exact HKF2.out | exact HKF.out
             have hxv : OwnF w7 wr.heap.size (.slice (some ⟨gV, 0, none⟩) dv.length (dv.length + 3)) dv ff := by first | exact HVF2.out | exact HVF.out
             have hA : Below w7.heap.size w7 (w7.alloc (.cells #[.slice (some ⟨gK, 0, none⟩) dk.length (dk.length + 3), .slice (some ⟨gV, 0, none⟩) dv.length (dv.length + 3), .bool dd] 35)) := (Below.refl _ _).alloc (Nat.le_refl _) _
             have hW6 := HIN.out.2.2.size
             have hin9 := (HIN.out.1.below (HB7.out.trans (hA.mono HB7.out.size))).grown (x := ⟨.slice (some ⟨gK, 0, none⟩) dk.length (dk.length + 3), .slice (some ⟨gV, 0, none⟩) dv.length (dv.length + 3), dk, dv, dd⟩) ⟨(hxk.below hA).mono hW6, (hxv.below hA).mono hW6, HRL.out⟩ (by rw [HKL2.out]; exact hgrow) HKL2.out.symm hown9
             have H9 := Lib.hid hin9
             have HB9 : Hid (Below w6.heap.size w6 w9) := Lib.hid ((HIN.out.2.2.trans ((HB7.out.trans (hA.mono HB7.out.size)).mono hW6)).grown hgrow (Nat.le_trans hW6 (HB7.out.trans (hA.mono HB7.out.size)).size) (fun j e => by
               rw [← HKL2.out] at e
               exact (World.ownsRow.lt HIN.out.1.row j e).1))
             clear hown9 hgrow hat hlt9 hxk hxv hA hW6 hin9))
        all_goals
          go_wp2_with fail
          go_roundw
          case rel =>
            refine ⟨k + 1, _, HKN.out, by go_num, H9.out, ?_, HB9.out⟩
            rw [List.map_append, HIN.out.2.1, HNX.out]
            rfl
          case measure => have := HKN.out; simp [intOf]; omega
      · obtain rfl : k = C.length := by omega
        rw [List.take_length] at hkm
        have HIN := Lib.hid (And.intro hin (And.intro hkm hb))
        have HKL2 := Lib.hid hKl
        clear hin hkm hb hKl hk hkn
        have hW := HW6.out.trans (HIN.out.2.2.mono HW6.out.size)
        obtain ⟨P1, hP1⟩ : ∃ P1, (if mayP C = 0 then doneP [] C else []) = P1 := ⟨_, rfl⟩
        have hdo := do_any (HT6.out.below HIN.out.2.2) List.Pairwise.nil HIN.out.1.chgV (by rw [HIN.out.2.1]; exact HSZ.out.1) (by rw [HIN.out.2.1]; exact HS.out.1) (Nat.le_trans HW6.out.size HIN.out.2.2.size) (by decide) (by decide) (by decide)
        rw [HIN.out.2.1, hP1, HKL2.out] at hdo
        have HDO := Lib.hid hdo
        have HP1 : Hid (SortP P1 ∧ P1.length ≤ 60 ∧ SizP P1) := Lib.hid (by
          rw [← hP1]
          split
          · refine ⟨doneP_sort _ List.Pairwise.nil, ?_, doneP_siz _ (by simp) fun c hc => ?_⟩
            · have := doneP_length C []
              have := HSZ.out.1
              simp at *
              omega
            · have := HSZ.out.2.2.1 c hc
              omega
          · exact ⟨List.Pairwise.nil, by simp, by simp⟩)
        have HE1 := Lib.hid hP1
        clear hP1 hdo hW
        go_upto_region 11 with (first | (go_at_call 12; with_reducible refine HDO.out.mono ?_; rintro e w8 ⟨rfl, ht8, hl8⟩; have HT8 := Lib.hid ht8; have HL8 := Lib.hid hl8; clear ht8 hl8))
        have HIN8 : Hid (InF w8 w6.heap.size (.slice ia C.length ic) K ∧ K.map Ch.of = C ∧ K.length = C.length) := Lib.hid ⟨by have := HIN.out.1.lt HL8.out; rwa [HKL2.out] at this, HIN.out.2.1, HKL2.out⟩
        have HW8 : Hid (Below w.heap.size w w8) := Lib.hid (by
          obtain ⟨⟨s, S, W, hl, _⟩, _⟩ := HT8.out
          exact hl.disk.below)
        have HAB1 : Hid (AllB P1) := Lib.hid (by
          obtain ⟨-, ⟨cost, pv, L, ht, -, hr, hm⟩, -, -⟩ := HT8.out
          rw [← hm]
          exact hr.all)
        have HC8 := Lib.hid (And.intro (HC.out.1.below HW8.out) (And.intro (HC.out.2.1.below HW8.out) (HC.out.2.2.below HW8.out)))
        clear HDO HIN HKL2 HL8 HC6 HT6 HW6
        go_upto_block 2 with (fail)
        go_cut [] (fun wx => Below w8.heap.size w8 wx)
        case first =>
          go_wp2_with fail
          go_loopw [14] (fun i wx => ∃ k : Nat, k ≤ C.length ∧ i = .int .i64 (k : Nat) ∧ Below w8.heap.size w8 wx) (fun i _ => C.length - (RowKit.intOf i).toNat)
          case atStart => exact ⟨0, Nat.zero_le _, rfl, Below.refl _ _⟩
          case round =>
            obtain ⟨k, hk, rfl, hb⟩ := hrel
            rename World => wr
            by_cases hkn : k < C.length
            · have hin := HIN8.out.1.below hb
              obtain ⟨gi, capi, e, -, -, i0, i1, -⟩ := hin.at k (by rw [HIN8.out.2.2]; exact hkn)
              obtain ⟨rfl, -, rfl⟩ := Value.slice.inj e
              obtain ⟨g, off, cap, xa, xc, ya, yc, e2, -, c0, c1, -, r1, r2⟩ := (HC8.out.1.below hb).at k hkn
              obtain ⟨rfl, -, rfl⟩ := Value.slice.inj e2
              obtain ⟨ho1, ho2, -, -⟩ := hin.own _ (List.getElem_mem (by rw [HIN8.out.2.2]; exact hkn))
              have hdd := HSZ.out.2.2.1 _ (List.getElem_mem hkn)
              have hof : (K[k]'(by rw [HIN8.out.2.2]; exact hkn)).of = C[k] := by
                have : C[k] = (K.map Ch.of)[k]'(by rw [HIN8.out.2.1]; exact hkn) := by simp only [HIN8.out.2.1]
                rw [this, List.getElem_map]
              obtain ⟨x, hx⟩ : ∃ x, (K[k]'(by rw [HIN8.out.2.2]; exact hkn)) = x := ⟨_, rfl⟩
              obtain ⟨d, hd⟩ : ∃ d, C[k] = d := ⟨_, rfl⟩
              rw [hx] at i0 i1 ho1 ho2 hof
              rw [hd] at c0 c1 r1 r2 hdd hof
              subst hof
              obtain ⟨xk, xv, key1, val1, dr⟩ := x
              simp only [Ch.of] at *
              obtain ⟨g1, rfl⟩ := ho1.shape
              obtain ⟨g2, rfl⟩ := ho2.shape
              have HKK : Hid (∀ d os, Calls Try.prog 13 #[.slice (some ⟨g1, 0, none⟩) key1.length (key1.length + ff.length), .slice xa key1.length xc, .int .u8 71] (grow (redrawn wr d) os) fun e w' => e = .returned (.bool true) ∧ Below (grow (redrawn wr d) os).heap.size (grow (redrawn wr d) os) w') := Lib.hid fun d os =>
                (kept_any (f := 71) (ho1.below (below_regrown wr d os)) (r1.below (below_regrown wr d os)) (by omega)).mono fun e w' h => ⟨h.1, h.2.1⟩
              have HKV : Hid (∀ d os, Calls Try.prog 13 #[.slice (some ⟨g2, 0, none⟩) val1.length (val1.length + ff.length), .slice ya val1.length yc, .int .u8 71] (grow (redrawn wr d) os) fun e w' => e = .returned (.bool true) ∧ Below (grow (redrawn wr d) os).heap.size (grow (redrawn wr d) os) w') := Lib.hid fun d os =>
                (kept_any (f := 71) (ho2.below (below_regrown wr d os)) (r2.below (below_regrown wr d os)) (by omega)).mono fun e w' h => ⟨h.1, h.2.1⟩
              have d0 := fun n os => cell_regrown i0 n os
              have d1 := fun n os => cell_regrown i1 n os
              have d2 := fun n os => cell_regrown c0 n os
              have d3 := fun n os => cell_regrown c1 n os
              have hkz : (k : Int) < (C.length : Int) := by omega
              have hkz2 : (k : Int) < (ic : Int) := by
                have := HIN8.out.1.row
                rcases this.2 with ⟨e, _⟩ | ⟨_, _, _, e, _, _, hc, _⟩
                · cases e
                · obtain ⟨-, -, rfl⟩ := Value.slice.inj e
                  rw [HIN8.out.2.2] at hc
                  omega
              have hkz3 : (k : Int) < (cc : Int) := by omega
              have HKN := Lib.hid hkn
              have HB := Lib.hid hb
              generalize key1.length + ff.length = kf at *
              generalize val1.length + ff.length = vf at *
              clear hin e e2 i0 i1 c0 c1 r1 r2 ho1 ho2 hdd hx hd hkn hb hk
              go_upto_region 14 with (fail)
              refine wp_region_quiet_below (by kernel_rfl) (by kernel_rfl) ?_
              repeat (go_big_quiet_step ((go_at_call 13; first | with_reducible exact Calls.regrown_of (HKK.out _ _) | with_reducible exact Calls.regrown_of (HKV.out _ _))))
              refine wpQuiet_nil ?_
              intro _ hw'
              obtain ⟨p, rfl⟩ := hw'
              clear d0 d1 d2 d3
              go_wp2_with fail
              go_roundw
              case rel => exact ⟨k + 1, HKN.out, by go_num, HB.out.trans ((below_regrown wr p.d p.os).mono HB.out.size)⟩
              case measure => have := HKN.out; simp [intOf]; omega
            · obtain rfl : k = C.length := by omega
              have HB := Lib.hid hb
              clear hb
              go_wp2_with fail
              go_meet
              exact HB.out
        case rest =>
          rename World => wc8
          have hcut8 := hcut
          have H8 := Lib.hid hcut8
          clear hcut hcut8
          obtain ⟨mc, hmc⟩ : ∃ mc, mayP C = mc := ⟨_, rfl⟩
          have HM : Hid (∀ W, Below w8.heap.size w8 W → Calls Try.prog 14 #[.slice ca C.length cc] W fun e w' => e = .returned (.int .i64 (mc : Nat)) ∧ Below w8.heap.size w8 w' ∧ Below W.heap.size W w') := Lib.hid fun W hW => by
            refine (may_any (HC8.out.1.below hW) HSZ.out.1 HS.out.1).mono ?_
            rintro e w' ⟨rfl, h⟩
            exact ⟨by rw [hmc], hW.trans (h.mono hW.size), h⟩
          rw [hmc] at HE1
          rw [hmc]
          clear hmc
          obtain ⟨zb, hzb⟩ : ∃ zb, ((mc : Int) == 0) = zb := ⟨_, rfl⟩
          have HZB := Lib.hid hzb
          go_upto_if 124 with (first | (go_at_call 14; with_reducible refine (HM.out _ H8.out).mono ?_; rintro e w9 ⟨rfl, hb9, -⟩; have H9 := Lib.hid hb9; clear hb9))
          go_cut [15] (fun u wx => RowS wx w8.heap.size u P1 ∧ Below w8.heap.size w8 wx)
          case first =>
            cases zb
            · have hm0 : ¬ mc = 0 := fun h => by rw [h] at hzb; cases hzb
              have hp := HE1.out
              rw [if_neg hm0] at hp
              subst hp
              clear hm0 hzb
              go_wp2_with fail
              go_meet
              exact ⟨.inl ⟨rfl, rfl⟩, H9.out⟩
            · have hm0 : mc = 0 := by have := of_decide_eq_true hzb; omega
              have hp := HE1.out
              rw [if_pos hm0] at hp
              subst hp
              have HDN := Lib.hid (done_any (w := w9) (Bm := 0) (vm := .slice none 0 0) (M := []) (.inl ⟨rfl, rfl⟩) (by simp) (HC8.out.1.below H9.out) (by have := HSZ.out.1; simp; omega) HS.out.1)
              clear hm0 hzb
              go_wp2_with (first | (go_at_call 15; with_reducible refine HDN.out.mono ?_; rintro e w10 ⟨o, rfl, hro, hb10⟩; obtain ⟨oa, oc, rfl, -⟩ := hro.shape; have H10 := Lib.hid (And.intro hro hb10); clear hro hb10))
              go_meet
              exact ⟨H10.out.1.mono H9.out.size, H9.out.trans (H10.out.2.mono H9.out.size)⟩
          case rest =>
            obtain ⟨hrow, hb⟩ := hcut
            rename World => w11
            obtain ⟨ma, mcap, rfl, hmcap⟩ := hrow.shape
            have HR11 := Lib.hid hrow
            have HB11 := Lib.hid hb
            have HTD := Lib.hid fun W (hW : Below w8.heap.size w8 W) (hr : RowS W w8.heap.size (.slice ma P1.length mcap) P1) => told_tb (HT8.out.below hW) hr (Nat.le_trans HP1.out.2.1 (by decide)) HP1.out.2.2
            clear hrow hb hzb H9 H8
            obtain ⟨n1, hn1⟩ : ∃ n, P1.length = n := ⟨_, rfl⟩
            rw [hn1] at HR11 HTD
            rw [hn1]
            have HN1 := Lib.hid hn1
            clear hn1
            go_upto_region 21 with (first
              | (go_at_call 14; with_reducible refine (HM.out _ HB11.out).mono ?_; rintro e w12 ⟨rfl, hb12, hc12⟩; have HB12 := Lib.hid hb12; have HR12 := Lib.hid (HR11.out.below hc12); clear hb12 hc12)
              | (go_at_call 16; with_reducible refine (HTD.out _ HB12.out HR12.out).mono ?_; rintro e w13 ⟨rfl, hb13⟩; have HB13 := Lib.hid (HB12.out.trans (hb13.mono HB12.out.size)); have HR13 := Lib.hid (HR12.out.below hb13); clear hb13))
            have HW13 := Lib.hid (HW8.out.trans (HB13.out.mono HW8.out.size))
            obtain ⟨P2, hP2⟩ : ∃ P2, (if mayP D = 0 then doneP P1 D else P1) = P2 := ⟨_, rfl⟩
            have hdo := do_any (HT8.out.below HB13.out) HP1.out.1 (HC.out.2.1.below HW13.out) HSZ.out.2.1 HS.out.2 HW13.out.size (by decide) (by decide) (Nat.le_trans HP1.out.2.1 (by decide))
            obtain ⟨md, hmd⟩ : ∃ md, mayP D = md := ⟨_, rfl⟩
            rw [hP2, hmd] at hdo
            have HDO := Lib.hid hdo
            have HP2 : Hid (SortP P2 ∧ P2.length ≤ 120 ∧ SizP P2) := Lib.hid (by
              rw [← hP2]
              split
              · refine ⟨doneP_sort _ HP1.out.1, ?_, doneP_siz _ HP1.out.2.2 fun c hc => ?_⟩
                · have := doneP_length D P1
                  have := HSZ.out.2.1
                  have := HP1.out.2.1
                  omega
                · have := HSZ.out.2.2.2 c hc
                  omega
              · exact ⟨HP1.out.1, Nat.le_trans HP1.out.2.1 (by decide), HP1.out.2.2⟩)
            rw [hmd] at hP2
            have HE2 := Lib.hid hP2
            have HMD := Lib.hid hmd
            clear hP2 hdo hmd HM HTD HR11 HB11
            go_upto_region 22 with (first | (go_at_call 12; with_reducible refine HDO.out.mono ?_; rintro e w14 ⟨rfl, ht14, hl14⟩; have HT14 := Lib.hid ht14; have HR14 := Lib.hid (HR13.out.lt' hl14); have HS14 := Lib.hid (Nat.le_trans HB13.out.size hl14.size); clear ht14 hl14))
            have HW14 : Hid (Below w.heap.size w w14) := Lib.hid (by
              obtain ⟨⟨s, S, W, hl, _⟩, _⟩ := HT14.out
              exact hl.disk.below)
            have HC14 := Lib.hid (And.intro (HC.out.2.1.below HW14.out) (HC.out.2.2.below HW14.out))
            clear HDO HT8 HW8 HC8 HB12 HR12 HB13 HR13 HW13
            have HM2 : Hid (∀ W, Below w14.heap.size w14 W → Calls Try.prog 14 #[.slice da D.length dc] W fun e w' => e = .returned (.int .i64 (md : Nat)) ∧ Below w14.heap.size w14 w' ∧ Below W.heap.size W w') := Lib.hid fun W hW => by
              refine (may_any (HC14.out.1.below hW) HSZ.out.2.1 HS.out.2).mono ?_
              rintro e w' ⟨rfl, h⟩
              exact ⟨by rw [HMD.out], hW.trans (h.mono hW.size), h⟩
            obtain ⟨zc, hzc⟩ : ∃ zc, ((md : Int) == 0) = zc := ⟨_, rfl⟩
            have HZC := Lib.hid hzc
            go_upto_if 142 with (first | (go_at_call 14; with_reducible refine (HM2.out _ (Below.refl _ _)).mono ?_; rintro e w15 ⟨rfl, hb15, -⟩; have H15 := Lib.hid hb15; clear hb15))
            go_cut [15] (fun u wx => RowS wx w8.heap.size u P2 ∧ Below w14.heap.size w14 wx)
            case first =>
              cases zc
              · have hm0 : ¬ md = 0 := fun h => by rw [h] at hzc; cases hzc
                have hp := HE2.out
                rw [if_neg hm0] at hp
                have HPQ := Lib.hid hp
                clear hm0 hzc hp
                go_wp2_with fail
                go_meet
                exact ⟨by rw [← HPQ.out]; exact HR14.out.below H15.out, H15.out⟩
              · have hm0 : md = 0 := by have := of_decide_eq_true hzc; omega
                have hp := HE2.out
                rw [if_pos hm0] at hp
                have HPQ := Lib.hid hp
                have HDN := Lib.hid (done_any (w := w15) (HR14.out.below H15.out) HAB1.out (HC14.out.1.below H15.out) (by have := HSZ.out.2.1; have := HP1.out.2.1; omega) HS.out.2)
                clear hm0 hzc hp
                go_wp2_with (first | (go_at_call 15; with_reducible refine HDN.out.mono ?_; rintro e w16 ⟨o, rfl, hro, hb16⟩; obtain ⟨oa, oc, rfl, -⟩ := hro.shape; have H16 := Lib.hid (And.intro hro hb16); clear hro hb16))
                go_meet
                exact ⟨by rw [← HPQ.out]; exact H16.out.1.mono (Nat.le_trans HS14.out H15.out.size), H15.out.trans (H16.out.2.mono H15.out.size)⟩
            case rest =>
              obtain ⟨hrow, hb⟩ := hcut
              rename World => w17
              obtain ⟨mb, mbc, rfl, hmbc⟩ := hrow.shape
              have HR17 := Lib.hid hrow
              have HB17 := Lib.hid hb
              have HT17 := Lib.hid (HT14.out.below hb)
              obtain ⟨idx, f1, f2, f3, f4⟩ := find_at HP2.out.1 key
              have HG : Hid (Calls Try.prog 17 #[.pointer (some ⟨pt, 0, none⟩), .slice ka kl kc] w17 fun e w' => ∃ oa oc val, e = .returned (.tuple #[.slice oa val.length oc, .bool (decide (idx < P2.length))]) ∧ OwnB w' w17.heap.size (.slice oa val.length oc) val ∧ val.length ≤ 1000000 ∧ (∀ n ∈ val, n < 256) ∧ (idx < P2.length → P2[idx]?.map (·.2) = some val) ∧ (¬ idx < P2.length → val = []) ∧ Below w17.heap.size w17 w') := Lib.hid
                ((get_idx HT17.out (HC14.out.2.below hb) (Nat.le_trans HP2.out.2.1 (by decide)) HP2.out.1 HP2.out.2.2 f1 f2 f3 f4).mono fun e w' ⟨oa, oc, val, g1, g2, g3, g4, g5, g6, g7⟩ => ⟨oa, oc, val, g1, g2, g3, g4, fun h => by rw [List.getElem?_eq_getElem h, g5 h]; rfl, g6, g7⟩)
              have HAB2 : Hid (AllB P2) := Lib.hid (by
                obtain ⟨-, ⟨cost, pv, L, ht, -, hr, hm⟩, -, -⟩ := HT17.out
                rw [← hm]
                exact hr.all)
              have HF := Lib.hid (And.intro f1 (And.intro f2 f3))
              obtain ⟨n2, hn2⟩ : ∃ n, P2.length = n := ⟨_, rfl⟩
              rw [hn2] at HR17 HG hmbc
              rw [hn2]
              have HN2 := Lib.hid hn2
              obtain ⟨fb, hfb⟩ : ∃ fb, decide (idx < n2) = fb := ⟨_, rfl⟩
              rw [hfb] at HG
              have HFB := Lib.hid hfb
              clear hrow hb f1 f2 f3 f4 hn2 hfb hzc HT14 HR14 H15
              go_upto_region 25 with (first | (go_at_call 17; with_reducible refine HG.out.mono ?_; rintro e w18 ⟨oa, oc, val, rfl, hov, hvl, hvb, hv1, hv2, hb18⟩; have hcv := run_str (hov.rowB hvb); have HOV := Lib.hid (And.intro hov (And.intro hvl (And.intro hv1 hv2))); have HB18 := Lib.hid hb18; clear hov hvl hvb hv1 hv2 hb18))
              obtain ⟨sv, hsv⟩ : ∃ sv, strN val = sv := ⟨_, rfl⟩
              rw [hsv] at hcv
              have HSV := Lib.hid hsv
              have HSP := Lib.hid (spoil_any HOV.out.1 HOV.out.2.1)
              clear hsv HG
              go_upto_region 27 with (first | (go_at_call 18; with_reducible refine HSP.out.mono ?_; rintro e w19 ⟨rfl, hb19⟩; have HB19 := Lib.hid (HB18.out.trans (hb19.below (fun j e => HOV.out.1.ownLe j e) HB18.out.size)); clear hb19))
              have HT19 := Lib.hid (HT17.out.below HB19.out)
              have HR19 := Lib.hid (HR17.out.below HB19.out)
              have HK19 := Lib.hid ((HC14.out.2.below HB17.out).below HB19.out)
              have H1419 := Lib.hid (HB17.out.trans (HB19.out.mono HB17.out.size))
              have HW19 := Lib.hid (HW14.out.trans (H1419.out.mono HW14.out.size))
              have hmz : (n2 : Int) ≤ (mbc : Int) := by omega
              have hnz : (n2 : Int) ≤ 120 := by have := HP2.out.2.1; have := HN2.out; omega
              clear hcv HSP HT17 HR17 HB18 HB19 HB17
              go_upto_block 4 with (fail)
              go_cut [20] (fun u wx => u = .int .i64 (idx : Nat) ∧ Below w19.heap.size w19 wx)
              case first =>
                go_wp2_with fail
                go_loopw [20] (fun i wx => ∃ j : Nat, j ≤ idx ∧ i = .int .i64 (j : Nat) ∧ Below w19.heap.size w19 wx) (fun i _ => idx - (RowKit.intOf i).toNat)
                case atStart => exact ⟨0, Nat.zero_le _, rfl, Below.refl _ _⟩
                case round =>
                  obtain ⟨j, hj, rfl, hb⟩ := hrel
                  rename World => wx
                  have HB := Lib.hid hb
                  have hf1 : idx ≤ n2 := by have := HF.out.1; have := HN2.out; omega
                  by_cases hjn : j < n2
                  · obtain ⟨g, cap, e, -, d0, -, -⟩ := (HR19.out.below hb).at j (by rw [HN2.out]; exact hjn)
                    obtain ⟨rfl, -, -⟩ := Value.slice.inj e
                    have hjp : j < P2.length := by rw [HN2.out]; exact hjn
                    have hpb := (HAB2.out _ (List.getElem_mem hjp)).1
                    have hcv := run_str (RowB.below (HK19.out.below hb) ((Below.refl wx.heap.size wx).drew))
                    have heq := beq_strN _ _ hpb HK19.out.lt
                    obtain ⟨sk, hsk⟩ : ∃ s, strN key = s := ⟨_, rfl⟩
                    obtain ⟨sj, hsj⟩ : ∃ s, strN P2[j].1 = s := ⟨_, rfl⟩
                    rw [hsk] at hcv heq
                    rw [hsj] at d0 heq
                    have d0d : wx.drew.cell? ⟨g, j * 2, none⟩ = some (.string sj) := d0
                    have hjz : (j : Int) < (n2 : Int) := by omega
                    have hjz2 : (j : Int) < (mbc : Int) := by omega
                    have hjd : decide ((j : Int) < (n2 : Int)) = true := decide_eq_true hjz
                    have hjd2 : decide (j < n2) = true := decide_eq_true hjn
                    by_cases hji : j < idx
                    · rw [decide_eq_false (HF.out.2.1 j hjp hji)] at heq
                      have HJ := Lib.hid hji
                      clear hb e d0 hpb hsk hsj hjp hjn hji hf1 hj
                      go_wp2_with go_region
                      go_roundw
                      case rel => exact ⟨j + 1, HJ.out, by go_num, by first | exact HB.out.drew | exact HB.out⟩
                      case measure => have := HJ.out; simp [intOf]; omega
                    · obtain rfl : j = idx := by omega
                      rw [decide_eq_true (HF.out.2.2 hjp)] at heq
                      clear hb e d0 hpb hsk hsj hjp hjn hji hf1 hj
                      go_wp2_with go_region
                      go_meet
                      exact ⟨rfl, by first | exact HB.out.drew | exact HB.out⟩
                  · have hji : j = n2 := by omega
                    have hie : idx = n2 := by omega
                    subst hji
                    subst hie
                    clear hb hjn hf1 hj
                    go_wp2_with go_region
                    go_meet
                    exact ⟨rfl, by first | exact HB.out.drew | exact HB.out⟩
              case rest =>
                obtain ⟨rfl, hb⟩ := hcut
                rename World => w20
                have HB20 := Lib.hid hb
                have HTD2 := Lib.hid fun W (hW : Below w19.heap.size w19 W) (hr : RowS W w8.heap.size (.slice mb P2.length mbc) P2) => told_tb (HT19.out.below hW) hr (Nat.le_trans HP2.out.2.1 (by decide)) HP2.out.2.2
                rw [HN2.out] at HTD2
                clear hb
                cases fb
                · have hi := of_decide_eq_false HFB.out
                  have hv0 := HOV.out.2.2.2 hi
                  have hs0 : sv = ⟨#[]⟩ := by rw [← HSV.out, hv0]; rfl
                  have hie : idx = n2 := by have := HF.out.1; have := HN2.out; omega
                  subst hs0
                  have hid : decide ((idx : Int) < (n2 : Int)) = false := decide_eq_false (by omega)
                  have hnl : ¬ (idx : Int) < (n2 : Int) := by omega
                  have hid2 : decide (idx < n2) = false := HFB.out
                  have hnl2 : ¬ idx < n2 := hi
                  clear hi hv0 hie
                  go_wp2_with (first
                    | (go_at_call 14; with_reducible refine (HM2.out _ (H1419.out.trans (HB20.out.mono H1419.out.size))).mono ?_; rintro e w21 ⟨rfl, -, hb21⟩; have HB21 := Lib.hid (HB20.out.trans (hb21.mono HB20.out.size)); clear hb21)
                    | (go_at_call 16; with_reducible refine (HTD2.out _ HB21.out (HR19.out.below HB21.out)).mono ?_; rintro e w22 ⟨rfl, hb22⟩; have HB22 := Lib.hid (HB21.out.trans (hb22.mono HB21.out.size)); clear hb22))
                  go_ret
                  exact ⟨by first | rfl | simp [hid2], HW19.out.trans (HB22.out.mono HW19.out.size)⟩
                · have hi := of_decide_eq_true HFB.out
                  have hip : idx < P2.length := by rw [HN2.out]; exact hi
                  have hv1 := HOV.out.2.2.1 hi
                  rw [List.getElem?_eq_getElem hip] at hv1
                  have hv2 : P2[idx].2 = val := by simpa using hv1
                  have HCV : Hid (∀ W, Below w19.heap.size w19 W → ∃ g, mb = some ⟨g, 0, none⟩ ∧ W.cell? ⟨g, idx * 2 + 1, none⟩ = some (.string sv)) := Lib.hid fun W hW => by
                    obtain ⟨g, cap, e, -, -, d1, -⟩ := (HR19.out.below hW).at idx hip
                    obtain ⟨rfl, -, -⟩ := Value.slice.inj e
                    rw [hv2, HSV.out] at d1
                    exact ⟨g, rfl, d1⟩
                  obtain ⟨g, rfl, -⟩ := HCV.out w19 (Below.refl _ _)
                  have HCW : Hid (∀ W, Below w19.heap.size w19 W → W.cell? ⟨g, idx * 2 + 1, none⟩ = some (.string sv)) := Lib.hid fun W hW => by
                    obtain ⟨g', e, h⟩ := HCV.out W hW
                    simp at e
                    rw [e]
                    exact h
                  have hiz : (idx : Int) < (n2 : Int) := by omega
                  have hiz2 : (idx : Int) < (mbc : Int) := by omega
                  have hid : decide ((idx : Int) < (n2 : Int)) = true := decide_eq_true hiz
                  have hid2 : decide (idx < n2) = true := HFB.out
                  clear hi hip hv1 hv2 HCV
                  go_wp2_with (first
                    | (go_at_call 14; with_reducible refine (HM2.out _ (H1419.out.trans (HB20.out.mono H1419.out.size))).mono ?_; rintro e w21 ⟨rfl, -, hb21⟩; have HB21 := Lib.hid (HB20.out.trans (hb21.mono HB20.out.size)); clear hb21)
                    | (go_at_call 16; with_reducible refine (HTD2.out _ HB21.out (HR19.out.below HB21.out)).mono ?_; rintro e w22 ⟨rfl, hb22⟩; have HB22 := Lib.hid (HB21.out.trans (hb22.mono HB21.out.size)); have k22 := HCW.out _ HB22.out; clear hb22))
                  go_ret
                  exact ⟨by first | rfl | simp [hid2], HW19.out.trans (HB22.out.mono HW19.out.size)⟩
end Go.Proofs.Ytmnbkhgogogeiaa
