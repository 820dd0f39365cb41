/-
  TableOwn: the walk.
-/
import Derived.Test.YtmnbkhgogogeiaaVw
import Derived.Test.YtmnbkhgogogeiaaWake
import Derived.Test.YtmnbkhgogogeiaaAppIn
import Derived.Test.YtmnbkhgogogeiaaRangeW
import Derived.Sort.CutIn
import Derived.Stop.RegionWithIn
namespace Go.Proofs.Ytmnbkhgogogeiaa
set_option linter.unusedVariables false
open Go.RowKit
attribute [local go_sem] Oper.semAt_some

theorem wpIn_cutA {F : Fence} {n : Nat} {P : Program} {c : Code} {Q : Exit → Act → World → Prop} {a : Act} {w : World} (R : Act → Act → World → Prop)
    (h1 : c.wpIn F n P (fun e a' w' => match e with | .normal => R a a' w' | _ => False) a w) (h2 : ∀ a' w', R a a' w' → Q .normal a' w') : c.wpIn F n P Q a w :=
  wpIn_mono h1 (by
    intro e a' w' h
    cases e <;> first | exact h2 _ _ h | exact h.elim)

set_option maxRecDepth 100000 in
theorem do_own1 {w1 w4 w5 w6 : World} {pt pl pd : Nat} {kvv : Value} {key val : List Nat} {x1 x2 : Option Addr} {y1 y2 : Nat} (ht4 : Tb w1.heap.size w1 w4 pt pl pd kvv (2000 - 2) 0 2000 [])
    (ho1 : OwnB w5 w4.heap.size (.slice x1 key.length y1) key) (hb5 : Below w4.heap.size w4 w5) (ho2 : OwnB w6 w5.heap.size (.slice x2 val.length y2) val) (hb6 : Below w5.heap.size w5 w6)
    (hk0 : key ≠ []) (hk : key.length ≤ 64) (hv : val.length ≤ 500) (hk2 : ∀ n ∈ key, n < 256) (hv2 : ∀ n ∈ val, n < 256) :
    Calls Try.prog 12 #[.pointer (some ⟨pt, 0, none⟩), .slice (some ⟨w6.heap.size, 0, none⟩) 1 1] (w6.alloc (.cells #[.slice x1 key.length y1, .slice x2 val.length y2, .bool false] 35)) fun e w' => e = .returned (.int .i64 0) ∧
      OwnB w' w4.heap.size (.slice x1 key.length y1) key ∧ OwnB w' w5.heap.size (.slice x2 val.length y2) val ∧ Vw (w6.heap.size + 1) w' pt [(key, val)] ∧ Below w1.heap.size w1 w' ∧ w1.heap.size ≤ w4.heap.size := by
  have hw4 : w1.heap.size ≤ w4.heap.size := by
    obtain ⟨⟨s, S, W, hl, _⟩, _⟩ := ht4
    exact hl.disk.below.size
  have hA7 : Below w6.heap.size w6 (w6.alloc (.cells #[.slice x1 key.length y1, .slice x2 val.length y2, .bool false] 35)) := (Below.refl _ _).alloc (Nat.le_refl _) _
  have h46 : Below w4.heap.size w4 w6 := hb5.trans (hb6.mono hb5.size)
  have ho1' : OwnB w6 w4.heap.size (.slice x1 key.length y1) key := ownsRow_below ho1 hb6
  have hr1 : RowB w6 (.slice x1 key.length y1) key := ho1'.rowB hk2
  have hr2 : RowB w6 (.slice x2 val.length y2) val := ho2.rowB hv2
  have ht7 := (ht4.below h46).below hA7
  have hx7 := heap_alloc_new w6 (.cells #[.slice x1 key.length y1, .slice x2 val.length y2, .bool false] 35)
  have hC7 : ChgV (w6.alloc (.cells #[.slice x1 key.length y1, .slice x2 val.length y2, .bool false] 35)) (.slice (some ⟨w6.heap.size, 0, none⟩) 1 1) [⟨key, val, false⟩] := by
    refine ⟨_, 1, rfl, Nat.le_refl _, by decide, .inr ⟨_, _, rfl, fun i hi => ?_⟩⟩
    obtain rfl : i = 0 := by simp at hi; omega
    exact ⟨_, _, _, _, _, _, cell_of_row _ _ 0 _ _ _ hx7, cell_of_row _ _ 1 _ _ _ hx7, cell_of_row _ _ 2 _ _ _ hx7, hr1.below hA7, hr2.below hA7⟩
  have hN : 16 + 27 * [(⟨key, val, false⟩ : Chg)].length + weigh [⟨key, val, false⟩] = 16 + 27 * 1 + (key.length + val.length) := by simp [weigh]
  refine (do_first ht7 rfl hC7 (by simp) (by simp) (by simp [weigh]; omega) (fun c hc => by simp at hc; subst hc; exact ⟨List.length_pos_iff.2 hk0, hk⟩) (fun c hc => by simp at hc; subst hc; rfl) (by rw [World.size_alloc]; have := h46.size; omega)
    (16 + 27 * 1 + (key.length + val.length)) hN (by unfold cellsN; omega) (by decide) (by decide) (fun j hj x hx => ?_)).mono ?_
  · obtain rfl : j = 0 := by simp at hj; omega
    simp at hx
  · rintro e w8 ⟨rfl, ht8, hl8⟩
    have hv8 := ht8.vw
    rw [World.size_alloc] at hv8
    exact ⟨rfl, OwnB.lt (ownsRow_below ho1' hA7) hl8, OwnB.lt (ownsRow_below ho2 hA7) hl8, hv8, ht8.bel, hw4⟩

set_option maxRecDepth 100000 in
set_option maxHeartbeats 8000000 in
theorem town_walk (vk vv vo : Value) (key val other : List Nat) (w : World) (hk : RowB w vk key) (hv : RowB w vv val) (ho : RowB w vo other) :
    Calls Try.prog 4 #[vk, vv, vo] w fun e w' => e = .returned (.bool true) ∧ Below w.heap.size w w' := by
  refine (callsIn_wide (n := 3)).1 ?_
  refine callsIn_of_wp_marks Try.func4 rfl trivial ?_ rfl
  simp only [Try.ntmps4, List.size_toArray, List.length_cons, List.length_nil, Nat.reduceAdd, Nat.reduceSub, Array.replicate_succ, Array.replicate_zero, List.push_toArray, List.append_toArray, List.nil_append, List.cons_append]
  obtain ⟨ka, kl, kc, rfl, hkl, -⟩ := id hk
  obtain ⟨va, vl, vc, rfl, hvl, -⟩ := id hv
  obtain ⟨oa, ol, oc, rfl, hol, -⟩ := id ho
  have HK := Lib.hid hk
  have HV := Lib.hid hv
  have HO := Lib.hid ho
  clear hk hv ho
  obtain ⟨w1, hw1⟩ : ∃ w1, w1 = ((w.alloc (.cells #[.slice ka kl kc] 23)).alloc (.cells #[.slice va vl vc] 23)).alloc (.cells #[.bool false] 4) := ⟨_, rfl⟩
  have hB1 : Below w.heap.size w w1 := by rw [hw1]; exact (((Below.refl _ _).alloc (Nat.le_refl _) _).alloc (by simp) _).alloc (by simp; omega) _
  have hx1 : Boxed w1 w.heap.size 23 (.slice ka kl kc) := by rw [hw1]; exact ((Boxed.new w 23 _).alloc _).alloc _
  have hx2 : Boxed w1 (w.heap.size + 1) 23 (.slice va vl vc) := by
    rw [hw1]
    refine Boxed.alloc ?_ _
    have := Boxed.new (w.alloc (.cells #[.slice ka kl kc] 23)) 23 (.slice va vl vc)
    rwa [World.size_alloc] at this
  have hx3 : Boxed w1 (w.heap.size + 1 + 1) 4 (.bool false) := by
    rw [hw1]
    have := Boxed.new ((w.alloc (.cells #[.slice ka kl kc] 23)).alloc (.cells #[.slice va vl vc] 23)) 4 (.bool false)
    rwa [World.size_alloc, World.size_alloc] at this
  have HB1 := Lib.hid hB1
  have HX := Lib.hid (And.intro hx1 (And.intro hx2 hx3))
  clear hB1 hx1 hx2 hx3
  have HE3 : Hid (w.heap.size + 1 + 1 < w1.heap.size ∧ w.heap.size ≤ w.heap.size) := Lib.hid ⟨by rw [hw1]; simp, Nat.le_refl _⟩
  have HBX : Hid (∀ W, Below w1.heap.size w1 W → Boxed W w.heap.size 23 (.slice ka kl kc) ∧ Boxed W (w.heap.size + 1) 23 (.slice va vl vc) ∧ Boxed W (w.heap.size + 1 + 1) 4 (.bool false)) := Lib.hid fun W hb =>
    ⟨(hb.block _ HX.out.1.lt).trans HX.out.1, (hb.block _ HX.out.2.1.lt).trans HX.out.2.1, (hb.block _ HX.out.2.2.lt).trans HX.out.2.2⟩
  have HRW : Hid (∀ W, Below w1.heap.size w1 W → RowB W (.slice ka kl kc) key ∧ RowB W (.slice va vl vc) val ∧ RowB W (.slice oa ol oc) other) := Lib.hid fun W hb =>
    ⟨(HK.out.below HB1.out).below hb, (HV.out.below HB1.out).below hb, (HO.out.below HB1.out).below hb⟩
  have HLE := Lib.hid (And.intro hkl (And.intro hvl hol))
  clear hkl hvl hol HK HV HO HX
  obtain ⟨b3, hb3⟩ : ∃ b3, w.heap.size = b3 := ⟨_, rfl⟩
  rw [hb3] at HE3 HBX HB1
  have HEQ3 := Lib.hid hb3
  gi_upto_region 3 with (first
    | (refine ⟨trivial, ?_⟩; rw [← hw1]; refine (callsIn_wide.2 (new_held 2000 _ (by decide) (by decide))).mono ?_; rintro e w2 ⟨pd, kvv, rfl, hd2⟩; have HD2 := Lib.hid hd2; clear hd2)
    | (refine ⟨trivial, ?_⟩; refine (callsIn_wide.2 (topen_fresh HD2.out (by decide) (by decide))).mono ?_; rintro e w3 ⟨pt, pl, rfl, ht3, -⟩; have HT3 := Lib.hid ht3; clear ht3))
  clear HD2 hw1
  have HAW : Hid (Calls Try.prog 9 #[] w3 fun e w' => e = .returned (.bool true) ∧ Tb w1.heap.size w1 w' pt pl pd kvv (2000 - 2) 0 2000 [] ∧ Below w1.heap.size w1 w') := Lib.hid ((twake_any w3).mono fun e w' ⟨h1, h2⟩ => by
    have ht := HT3.out.below h2
    refine ⟨h1, ht, ?_⟩
    obtain ⟨⟨s, S, W, hl, _⟩, _⟩ := ht
    exact hl.disk.below)
  have HAW2 : Hid (∀ W, Below w1.heap.size w1 W → Calls Try.prog 9 #[] W fun e w' => e = .returned (.bool true) ∧ Below w1.heap.size w1 w') := Lib.hid fun W hb => (twake_any W).mono fun e w' ⟨h1, h2⟩ => ⟨h1, hb.trans (h2.mono hb.size)⟩
  clear HT3
  rcases (show kl = 0 ∨ (kl ≠ 0 ∧ 64 < kl) ∨ (kl ≠ 0 ∧ kl ≤ 64 ∧ 500 < vl) ∨ (kl ≠ 0 ∧ kl ≤ 64 ∧ vl ≤ 500 ∧ 500 < ol) ∨ (kl ≠ 0 ∧ kl ≤ 64 ∧ vl ≤ 500 ∧ ol ≤ 500) by omega) with g | g | g | g | g
  · have q1 : (kl : Int) = 0 := by omega
    have e1 : ((kl : Int) == 0) = true := by rw [q1]; rfl
    clear g
    gi_wp2_with (first
      | (refine ⟨trivial, ?_⟩; refine (callsIn_wide.2 HAW.out).mono ?_; rintro e w4 ⟨rfl, -, hw4⟩
         have c3 := (HBX.out w4 hw4).1.cell
         have c4 := (HBX.out w4 hw4).2.1.cell
         have HW4 := Lib.hid hw4
         clear hw4 HAW)
      | (refine ⟨trivial, ?_⟩; refine (callsIn_wide.2 (HAW2.out w4 HW4.out)).mono ?_; rintro e w5 ⟨rfl, hw5⟩
         have hx6 := (HBX.out w5 hw5).2.2
         have c6 := hx6.cell
         have f6 := hx6.frozen
         have HX6 := Lib.hid hx6
         have HW5 := Lib.hid hw5
         clear hw5 hx6))
    have hcf := (Boxed.set (.bool true) HX6.out).cell
    refine ⟨.bool true, ?_, rfl, ?_⟩
    · have h6 : Try.f4.results = #[.cell 6 4] := rfl
      simp only [results, h6]
      simp [go_sem, hcf]
    · have hbb : Below b3 w w5 := HB1.out.trans (HW5.out.mono (by have := HB1.out.size; have := HEQ3.out; omega))
      have hwl : w.heap.size = b3 := HEQ3.out
      rw [← hwl] at hbb
      exact hbb.setCell (p := ⟨b3 + 1 + 1, 0, none⟩) (by show w.heap.size ≤ b3 + 1 + 1; omega) _
  · have q1 : ¬ (kl : Int) = 0 := by omega
    have e1 : ((kl : Int) == 0) = false := beq_false_of_ne q1
    have q2 : (64 : Int) < (kl : Int) := by omega
    have e2 : decide ((64 : Int) < (kl : Int)) = true := decide_eq_true q2
    clear g
    gi_wp2_with (first
      | (refine ⟨trivial, ?_⟩; refine (callsIn_wide.2 HAW.out).mono ?_; rintro e w4 ⟨rfl, -, hw4⟩
         have c3 := (HBX.out w4 hw4).1.cell
         have c4 := (HBX.out w4 hw4).2.1.cell
         have HW4 := Lib.hid hw4
         clear hw4 HAW)
      | (refine ⟨trivial, ?_⟩; refine (callsIn_wide.2 (HAW2.out w4 HW4.out)).mono ?_; rintro e w5 ⟨rfl, hw5⟩
         have hx6 := (HBX.out w5 hw5).2.2
         have c6 := hx6.cell
         have f6 := hx6.frozen
         have HX6 := Lib.hid hx6
         have HW5 := Lib.hid hw5
         clear hw5 hx6))
    have hcf := (Boxed.set (.bool true) HX6.out).cell
    refine ⟨.bool true, ?_, rfl, ?_⟩
    · have h6 : Try.f4.results = #[.cell 6 4] := rfl
      simp only [results, h6]
      simp [go_sem, hcf]
    · have hbb : Below b3 w w5 := HB1.out.trans (HW5.out.mono (by have := HB1.out.size; have := HEQ3.out; omega))
      have hwl : w.heap.size = b3 := HEQ3.out
      rw [← hwl] at hbb
      exact hbb.setCell (p := ⟨b3 + 1 + 1, 0, none⟩) (by show w.heap.size ≤ b3 + 1 + 1; omega) _
  · have q1 : ¬ (kl : Int) = 0 := by omega
    have e1 : ((kl : Int) == 0) = false := beq_false_of_ne q1
    have q2 : ¬ (64 : Int) < (kl : Int) := by omega
    have e2 : decide ((64 : Int) < (kl : Int)) = false := decide_eq_false q2
    have q3 : (500 : Int) < (vl : Int) := by omega
    have e3 : decide ((500 : Int) < (vl : Int)) = true := decide_eq_true q3
    clear g
    gi_wp2_with (first
      | (refine ⟨trivial, ?_⟩; refine (callsIn_wide.2 HAW.out).mono ?_; rintro e w4 ⟨rfl, -, hw4⟩
         have c3 := (HBX.out w4 hw4).1.cell
         have c4 := (HBX.out w4 hw4).2.1.cell
         have HW4 := Lib.hid hw4
         clear hw4 HAW)
      | (refine ⟨trivial, ?_⟩; refine (callsIn_wide.2 (HAW2.out w4 HW4.out)).mono ?_; rintro e w5 ⟨rfl, hw5⟩
         have hx6 := (HBX.out w5 hw5).2.2
         have c6 := hx6.cell
         have f6 := hx6.frozen
         have HX6 := Lib.hid hx6
         have HW5 := Lib.hid hw5
         clear hw5 hx6))
    have hcf := (Boxed.set (.bool true) HX6.out).cell
    refine ⟨.bool true, ?_, rfl, ?_⟩
    · have h6 : Try.f4.results = #[.cell 6 4] := rfl
      simp only [results, h6]
      simp [go_sem, hcf]
    · have hbb : Below b3 w w5 := HB1.out.trans (HW5.out.mono (by have := HB1.out.size; have := HEQ3.out; omega))
      have hwl : w.heap.size = b3 := HEQ3.out
      rw [← hwl] at hbb
      exact hbb.setCell (p := ⟨b3 + 1 + 1, 0, none⟩) (by show w.heap.size ≤ b3 + 1 + 1; omega) _
  · have q1 : ¬ (kl : Int) = 0 := by omega
    have e1 : ((kl : Int) == 0) = false := beq_false_of_ne q1
    have q2 : ¬ (64 : Int) < (kl : Int) := by omega
    have e2 : decide ((64 : Int) < (kl : Int)) = false := decide_eq_false q2
    have q3 : ¬ (500 : Int) < (vl : Int) := by omega
    have e3 : decide ((500 : Int) < (vl : Int)) = false := decide_eq_false q3
    have q4 : (500 : Int) < (ol : Int) := by omega
    have e4 : decide ((500 : Int) < (ol : Int)) = true := decide_eq_true q4
    clear g
    gi_wp2_with (first
      | (refine ⟨trivial, ?_⟩; refine (callsIn_wide.2 HAW.out).mono ?_; rintro e w4 ⟨rfl, -, hw4⟩
         have c3 := (HBX.out w4 hw4).1.cell
         have c4 := (HBX.out w4 hw4).2.1.cell
         have HW4 := Lib.hid hw4
         clear hw4 HAW)
      | (refine ⟨trivial, ?_⟩; refine (callsIn_wide.2 (HAW2.out w4 HW4.out)).mono ?_; rintro e w5 ⟨rfl, hw5⟩
         have hx6 := (HBX.out w5 hw5).2.2
         have c6 := hx6.cell
         have f6 := hx6.frozen
         have HX6 := Lib.hid hx6
         have HW5 := Lib.hid hw5
         clear hw5 hx6))
    have hcf := (Boxed.set (.bool true) HX6.out).cell
    refine ⟨.bool true, ?_, rfl, ?_⟩
    · have h6 : Try.f4.results = #[.cell 6 4] := rfl
      simp only [results, h6]
      simp [go_sem, hcf]
    · have hbb : Below b3 w w5 := HB1.out.trans (HW5.out.mono (by have := HB1.out.size; have := HEQ3.out; omega))
      have hwl : w.heap.size = b3 := HEQ3.out
      rw [← hwl] at hbb
      exact hbb.setCell (p := ⟨b3 + 1 + 1, 0, none⟩) (by show w.heap.size ≤ b3 + 1 + 1; omega) _
  · obtain ⟨g1, g2, g3, g4⟩ := g
    have q1 : ¬ (kl : Int) = 0 := by omega
    have q2 : ¬ (64 : Int) < (kl : Int) := by omega
    have q3 : ¬ (500 : Int) < (vl : Int) := by omega
    have q4 : ¬ (500 : Int) < (ol : Int) := by omega
    have e1 : ((kl : Int) == 0) = false := beq_false_of_ne q1
    have e2 : decide ((64 : Int) < (kl : Int)) = false := decide_eq_false q2
    have e3 : decide ((500 : Int) < (vl : Int)) = false := decide_eq_false q3
    have e4 : decide ((500 : Int) < (ol : Int)) = false := decide_eq_false q4
    have HG := Lib.hid (And.intro g1 (And.intro g2 (And.intro g3 g4)))
    clear g1 g2 g3 g4
    gi_upto_region 5 with (first
      | (refine ⟨trivial, ?_⟩; refine (callsIn_wide.2 HAW.out).mono ?_; rintro e w4 ⟨rfl, ht4, hw4⟩
         have c3 := (HBX.out w4 hw4).1.cell
         have c4 := (HBX.out w4 hw4).2.1.cell
         have HW4 := Lib.hid hw4
         have HT4 := Lib.hid ht4
         clear hw4 ht4 HAW))
    clear q1 q2 q3 q4 e1 e2 e3 e4 HAW2
    have HLK : Hid (key.length ≤ 64 ∧ val.length ≤ 500 ∧ other.length ≤ 500 ∧ key ≠ []) := Lib.hid (by
      have h1 := HLE.out
      have h2 := HG.out
      refine ⟨by omega, by omega, by omega, fun e => ?_⟩
      rw [e] at h1
      simp at h1
      omega)
    refine wpIn_cutA (fun a a' w' => ∃ o1 o2, a' = { a with tmps := (((((a.tmps.setIfInBounds 61 (.slice ka kl kc)).setIfInBounds 62 o1).setIfInBounds 63 (.slice va vl vc)).setIfInBounds 64 o2).setIfInBounds 11 o1).setIfInBounds 12 o2 } ∧
      ∃ w5, OwnB w5 w4.heap.size o1 key ∧ Below w4.heap.size w4 w5 ∧ OwnB w' w5.heap.size o2 val ∧ Below w5.heap.size w5 w') ?_ ?_
    · gi_region_with (first
        | (refine ⟨trivial, ?_⟩; refine (callsIn_wide.2 (cbytes_any (HRW.out _ HW4.out.drew).1 (Nat.le_trans HLK.out.1 (by decide)))).mono ?_; rintro e w5 ⟨o1, rfl, ho1, hb5⟩
           have hw5 : Below w1.heap.size w1 w5 := HW4.out.drew.trans (hb5.mono HW4.out.drew.size)
           have d4 := (HBX.out w5 hw5).2.1.cell
           have HO1 := Lib.hid ho1
           have HB5 := Lib.hid hb5
           have HW5 := Lib.hid hw5
           clear ho1 hb5 hw5)
        | (refine ⟨trivial, ?_⟩; refine (callsIn_wide.2 (cbytes_any (HRW.out _ HW5.out).2.1 (Nat.le_trans HLK.out.2.1 (by decide)))).mono ?_; rintro e w6 ⟨o2, rfl, ho2, hb6⟩
           have HO2 := Lib.hid ho2
           have HB6 := Lib.hid hb6
           clear ho2 hb6))
      all_goals
        exact ⟨o1, o2, rfl, w5, HO1.out, (Below.refl w4.heap.size w4).drew.trans HB5.out, HO2.out, HB6.out⟩
    · rintro a' w6 ⟨o1, o2, rfl, w5, ho1, hb5, ho2, hb6⟩
      obtain ⟨x1, y1, rfl⟩ := ho1.shape
      obtain ⟨x2, y2, rfl⟩ := ho2.shape
      have hlt12 : ∀ k, (Value.slice x1 key.length y1).ownBlock = some k → (Value.slice x2 val.length y2).ownBlock ≠ some k := fun k e1 e2 => by
        have := own_lt ho1 k e1
        have := ho2.ownLe k e2
        omega
      have hd256 := HRW.out _ HW4.out
      have HDO := Lib.hid (do_own1 HT4.out ho1 hb5 ho2 hb6 HLK.out.2.2.2 HLK.out.1 HLK.out.2.1 hd256.1.lt hd256.2.1.lt)
      have HLT := Lib.hid (And.intro hlt12 (And.intro (fun k (e : (Value.slice x1 key.length y1).ownBlock = some k) => own_lt (ownsRow_below ho1 hb6) k e) (fun k (e : (Value.slice x2 val.length y2).ownBlock = some k) => own_lt ho2 k e)))
      have HS4 := Lib.hid (And.intro HW4.out.size (Nat.le_trans HW4.out.size hb5.size))
      clear ho1 ho2 hb5 hb6 hlt12 hd256
      gi_upto_region 8 with (first
        | (refine ⟨trivial, ?_⟩; refine (callsIn_wide.2 HDO.out).mono ?_; rintro e w8 ⟨rfl, ho8, hp8, hv8, hw8, -⟩
           have HO8 := Lib.hid ho8
           have HP8 := Lib.hid hp8
           have HV8 := Lib.hid hv8
           have HW8 := Lib.hid hw8
           clear ho8 hp8 hv8 hw8))
      have HSP1 := Lib.hid (spoil_any HO8.out (Nat.le_trans HLK.out.1 (by decide)))
      gi_upto_region 9 with (first
        | (refine ⟨trivial, ?_⟩; refine (callsIn_wide.2 HSP1.out).mono ?_; rintro e w9 ⟨rfl, hb9⟩
           have HB9 := Lib.hid hb9
           clear hb9))
      have HP9 : Hid (OwnB w9 w5.heap.size (.slice x2 val.length y2) val) := Lib.hid (HP8.out.beside HB9.out (fun k hk e => HLT.out.1 k e hk))
      have HV9 : Hid (Vw (w6.heap.size + 1) w9 pt [(key, val)]) := Lib.hid (HV8.out.spoil HO8.out (fun k e => Nat.lt_succ_of_lt (HLT.out.2.1 k e)) HB9.out)
      have HW9 : Hid (Below w1.heap.size w1 w9) := Lib.hid (HW8.out.trans (HB9.out.below (fun k e => Nat.le_trans HS4.out.1 (HO8.out.ownLe k e)) HW8.out.size))
      have HSP2 := Lib.hid (spoil_any HP9.out (Nat.le_trans HLK.out.2.1 (by decide)))
      clear HSP1 HO8 HP8 HV8 HW8 HB9
      gi_upto_region 10 with (first
        | (refine ⟨trivial, ?_⟩; refine (callsIn_wide.2 HSP2.out).mono ?_; rintro e w10 ⟨rfl, hb10⟩
           have HB10 := Lib.hid hb10
           clear hb10))
      have HV10 : Hid (Vw (w6.heap.size + 1) w10 pt [(key, val)]) := Lib.hid (HV9.out.spoil HP9.out (fun k e => Nat.lt_succ_of_lt (HLT.out.2.2 k e)) HB10.out)
      have HW10 : Hid (Below w1.heap.size w1 w10) := Lib.hid (HW9.out.trans (HB10.out.below (fun k e => Nat.le_trans HS4.out.2 (HP9.out.ownLe k e)) HW9.out.size))
      clear HSP2 HP9 HV9 HW9 HB10 c3 c4 HT4 HW4 HDO HLT HS4
      have HGET : Hid (∀ W, Below w10.heap.size w10 W → Calls Try.prog 17 #[.pointer (some ⟨pt, 0, none⟩), .slice ka kl kc] W fun e w' => ∃ oa oc, e = .returned (.tuple #[.slice oa val.length oc, .bool true]) ∧ OwnB w' W.heap.size (.slice oa val.length oc) val ∧ Below W.heap.size W w' ∧ Below w10.heap.size w10 w') := Lib.hid fun W hb => by
        refine (get_yes_vw (HV10.out.below hb) (HRW.out _ (HW10.out.trans (hb.mono HW10.out.size))).1 (by simp) 0 rfl (fun i hi => ?_) (Nat.le_trans HLK.out.2.1 (by decide))).mono ?_
        · obtain rfl : i = 0 := by simp at hi; omega
          simp [cmpL_same]
        · rintro e w' ⟨o, rfl, ho, hb2⟩
          obtain ⟨oa, oc, rfl⟩ := ho.shape
          exact ⟨oa, oc, rfl, ho, hb2, hb.trans (hb2.mono hb.size)⟩
      have HBC : Hid (∀ W, Below w10.heap.size w10 W → W.cell? ⟨b3, 0, none⟩ = some (.slice ka kl kc) ∧ W.cell? ⟨b3 + 1, 0, none⟩ = some (.slice va vl vc) ∧ Boxed W (b3 + 1 + 1) 4 (.bool false)) := Lib.hid fun W hb => by
        obtain ⟨h1, h2, h3⟩ := HBX.out W (HW10.out.trans (hb.mono HW10.out.size))
        exact ⟨h1.cell, h2.cell, h3⟩
      have HRB : Hid (∀ W, Below w10.heap.size w10 W → RowB W (.slice ka kl kc) key ∧ RowB W (.slice va vl vc) val ∧ RowB W (.slice oa ol oc) other) := Lib.hid fun W hb => HRW.out W (HW10.out.trans (hb.mono HW10.out.size))
      have HBY : Hid (∀ W a c B u, Below w10.heap.size w10 W → OwnB W B (.slice a u c) val → Calls Try.prog 20 #[.slice a u c, .slice va vl vc] W fun e w' => e = .returned (.bool true) ∧ W = w') := Lib.hid fun W a c B u hb ho => by
        have h1 := HRB.out W hb
        refine (bytes_any (ho.rowB h1.2.1.lt) h1.2.1).mono ?_
        rintro e w' ⟨rfl, rfl⟩
        simp
      obtain ⟨c3, c4, -⟩ := HBC.out w10 (Below.refl _ _)
      gi_upto_region 13 with (first
        | (refine ⟨trivial, ?_⟩; refine (callsIn_wide.2 (HGET.out w10 (Below.refl _ _))).mono ?_; rintro e w11 ⟨ga, gc, rfl, hg11, hb11, -⟩
           obtain ⟨d3, d4, -⟩ := HBC.out w11 hb11
           have HG11 := Lib.hid hg11
           have HB11 := Lib.hid hb11
           clear hg11 hb11)
        | (refine ⟨trivial, ?_⟩; refine (callsIn_wide.2 (HBY.out w11 ga gc _ _ HB11.out HG11.out)).mono ?_; rintro e w' ⟨rfl, rfl⟩))
      have HSP3 := Lib.hid (spoil_any HG11.out (Nat.le_trans HLK.out.2.1 (by decide)))
      clear c3 c4 d3 d4
      gi_upto_region 14 with (first
        | (refine ⟨trivial, ?_⟩; refine (callsIn_wide.2 HSP3.out).mono ?_; rintro e w12 ⟨rfl, hb12⟩
           have HB12 := Lib.hid hb12
           clear hb12))
      have HB12' : Hid (Below w10.heap.size w10 w12) := Lib.hid (HB11.out.trans (HB12.out.below (fun k e => HG11.out.ownLe k e) HB11.out.size))
      clear HSP3 HB12 HG11 HB11
      have HSC := Lib.hid (scan_vw (HV10.out.below HB12'.out) ⟨Nat.le_trans HLK.out.1 (by decide), Nat.le_trans HLK.out.2.1 (by decide)⟩)
      gi_wp2_with (first
        | (refine ⟨trivial, ?_⟩; refine (callsIn_wide.2 HSC.out).mono ?_; rintro e w13 ⟨bx, gx, cx, xx, rfl, hit, hcx, hxk, hxv, hb13⟩
           have HIT := Lib.hid hit
           have HXX := Lib.hid (And.intro hcx (And.intro hxk hxv))
           have HB13 := Lib.hid (HB12'.out.trans (hb13.mono HB12'.out.size))
           clear hit hcx hxk hxv hb13))
      have HD : Hid (w10.heap.size ≤ w13.heap.size) := Lib.hid HB13.out.size
      clear HB12' HSC
      refine range_w rfl (by omega) (gf := 39) (lb := #[.pointer (some ⟨bx, 0, none⟩)]) rfl trivial (enters_of Try.func39 (by kernel_rfl) rfl)
        (itr_on 2 w13.heap.size bx gx cx [xx] (by simp) HXX.out.1) (fun r => HIT.out.below (((Below.refl _ _).alloc (Nat.le_refl _) _).alloc (by simp) _)) (fun h k => h.trans k)
        (fun W r r' hb => (Below.refl _ W).grown (grownBy_putObj' W _ _) (by have := (Array.getElem?_eq_some_iff.1 hb.2).1; omega) (fun k e => by cases e; omega)) rfl
        (fun x u v W r r' hb he => ⟨ownB_put he.1 hb, ownB_put he.2.1 hb, he.2.2⟩)
        (fun pre W => Below w10.heap.size w10 W) (fun _ _ _ => False) (ownFrom_below (Nat.le_refl _) HD.out) (fun c s A C row h => h.elim)
        (fun s A C hs hb => hs.trans (hb.mono hs.size)) (fun c s A C h => h.elim) HB13.out
        (fun a u v => { tmps := (((a.tmps.setIfInBounds 94 u).setIfInBounds 95 v).setIfInBounds 15 u).setIfInBounds 16 v, defers := [] }) ?assign ?body ?done ?stop
      case assign =>
        intro x u v W1 he W K hK
        obtain ⟨ua, uc, rfl⟩ := he.1.shape
        obtain ⟨va2, vc2, rfl⟩ := he.2.1.shape
        gi_wp2
        exact hK
      case body =>
        intro pre x rest u v W hx he hB
        obtain ⟨rfl, rfl, rfl⟩ : pre = [] ∧ x = xx ∧ rest = [] := by
          cases pre with
          | nil => simp at hx; exact ⟨rfl, hx.1.symm, hx.2⟩
          | cons a b => simp at hx
        obtain ⟨he1, he2, he3⟩ := he
        rw [HXX.out.2.1] at he1
        rw [HXX.out.2.2] at he2
        obtain ⟨ua, uc, rfl⟩ := he1.shape
        obtain ⟨va2, vc2, rfl⟩ := he2.shape
        obtain ⟨c3, c4, -⟩ := HBC.out W hB
        have HYK := Lib.hid (bytes_any (he1.rowB (HRB.out W hB).1.lt) (HRB.out W hB).1)
        have HYV := Lib.hid (HBY.out W va2 vc2 _ _ hB he2)
        have HE1 := Lib.hid he1
        have HE2 := Lib.hid he2
        have HE3' := Lib.hid he3
        have HB := Lib.hid hB
        clear he1 he2 he3 hB hx
        gi_upto_region 19 with (first
          | (refine ⟨trivial, ?_⟩; refine (CallsIn.inRound _ (callsIn_wide.2 HYV.out)).mono ?_; rintro e w' ⟨rfl, rfl⟩)
          | (refine ⟨trivial, ?_⟩; refine (CallsIn.inRound _ (callsIn_wide.2 HYK.out)).mono ?_; rintro e w' ⟨rfl, rfl⟩))
        have hDW : w13.heap.size ≤ W.heap.size := by
          obtain ⟨g, cap, -, h1, h2⟩ := HE1.out.some (List.length_pos_iff.2 HLK.out.2.2.2)
          omega
        have HSU := Lib.hid (spoil_any HE1.out (Nat.le_trans HLK.out.1 (by decide)))
        clear c3 c4
        gi_upto_region 20 with (first
          | (refine ⟨trivial, ?_⟩; refine (CallsIn.inRound _ (callsIn_wide.2 HSU.out)).mono ?_; rintro e W2 ⟨rfl, hb2⟩
             have HB2 := Lib.hid hb2
             clear hb2))
        have HE4 : Hid (OwnB W2 w13.heap.size (.slice va2 val.length vc2) val) := Lib.hid (HE2.out.beside HB2.out (fun k hk e => HE3'.out k e hk))
        have HSV := Lib.hid (spoil_any HE4.out (Nat.le_trans HLK.out.2.1 (by decide)))
        gi_wp2_with (first
          | (refine ⟨trivial, ?_⟩; refine (CallsIn.inRound _ (callsIn_wide.2 HSV.out)).mono ?_; rintro e W3 ⟨rfl, hb3'⟩
             have HB3' := Lib.hid hb3'
             clear hb3'))
        have k2 : Below w13.heap.size W W2 := HB2.out.below (fun k e => HE1.out.ownLe k e) hDW
        have k3 : Below w13.heap.size W2 W3 := HB3'.out.below (fun k e => HE4.out.ownLe k e) (Nat.le_trans hDW k2.size)
        exact ⟨(keepsFrom_beside _ HB2.out (own_cellsAt HE1.out)).trans (keepsFrom_beside _ HB3'.out (own_cellsAt HE4.out)), k2.trans k3, HB.out.trans ((k2.trans k3).mono HD.out)⟩
      case done =>
        intro W hB hK
        obtain ⟨z, hz⟩ : ∃ z, ((ol : Int) == 0) = z := ⟨_, rfl⟩
        have HGN : Hid (∀ W ao n co B, Below w10.heap.size w10 W → OwnB W B (.slice ao n co) (key ++ other) → Calls Try.prog 17 #[.pointer (some ⟨pt, 0, none⟩), .slice ao n co] W fun e w' => ∃ ra rn rc, e = .returned (.tuple #[.slice ra rn rc, .bool z]) ∧ Below W.heap.size W w') := Lib.hid fun W ao n co B hb ho => by
          have hr := HRB.out W hb
          have hrow : RowB W (.slice ao n co) (key ++ other) := ho.rowB (fun n hn => by
            rcases List.mem_append.1 hn with h | h
            · exact hr.1.lt n h
            · exact hr.2.2.lt n h)
          have hol := HLE.out.2.2
          by_cases h0 : other = []
          · have hzt : z = true := by rw [← hz, ← hol, h0]; rfl
            rw [h0, List.append_nil] at hrow
            rw [hzt]
            refine (get_yes_vw (HV10.out.below hb) hrow (by simp) 0 rfl (fun i hi => ?_) (Nat.le_trans HLK.out.2.1 (by decide))).mono ?_
            · obtain rfl : i = 0 := by simp at hi; omega
              simp [cmpL_same]
            · rintro e w' ⟨o, rfl, ho, hb2⟩
              obtain ⟨oa, oc, rfl⟩ := ho.shape
              exact ⟨_, _, _, rfl, hb2⟩
          · have hzf : z = false := by
              rw [← hz, ← hol]
              have := List.length_pos_iff.2 h0
              exact beq_false_of_ne (by omega)
            rw [hzf]
            refine (get_no_vw (HV10.out.below hb) hrow (by simp) 1 (by simp) (fun i hi => ?_) (by simp)).mono ?_
            · obtain rfl : i = 0 := by simp at hi; omega
              simp [cmpL_more key other h0]
            · rintro e w' ⟨rfl, hb2⟩
              exact ⟨_, _, _, rfl, hb2⟩
        obtain ⟨d3, d4, -⟩ := HBC.out W hB
        have HBW := Lib.hid hB
        have HKW := Lib.hid hK
        have HZ := Lib.hid hz
        clear hB hK hz
        gi_upto_region 22 with (first
          | (refine ⟨trivial, ?_⟩; refine (callsIn_wide.2 (HGET.out W HBW.out)).mono ?_; rintro e w20 ⟨ya, yc, rfl, hy, hb20, hc20⟩
             have HY := Lib.hid hy
             have HB20 := Lib.hid hb20
             have HC20 := Lib.hid hc20
             clear hy hb20 hc20))
        clear d3 d4
        obtain ⟨c3, c4, -⟩ := HBC.out w20 HC20.out
        have HCB := Lib.hid (cbytes_any (HRB.out w20 HC20.out).1 (Nat.le_trans HLK.out.1 (by decide)))
        gi_upto_region 23 with (first
          | (refine ⟨trivial, ?_⟩; refine (callsIn_wide.2 HCB.out).mono ?_; rintro e w21 ⟨o3, rfl, ho3, hb21⟩
             obtain ⟨pa, pc, rfl⟩ := ho3.shape
             have HO3 := Lib.hid ho3
             have HB21 := Lib.hid hb21
             have HC21 := Lib.hid (HC20.out.trans (hb21.mono HC20.out.size))
             clear ho3 hb21)
          | (gi_at_builtin; refine appRIn rfl (.tmp 119) (.tmp 120) rfl HO3.out (HRB.out w21 HC21.out).2.2 HB21.out.size rfl rfl (by have := HLK.out; omega) ?_
             intro qa qc qn w22 hqn hq hbq
             have HQ := Lib.hid hq
             have HBQ := Lib.hid hbq
             have HC22 := Lib.hid (HC21.out.trans (hbq.mono HC20.out.size))
             clear hqn hq hbq)
          | (refine ⟨trivial, ?_⟩; refine (callsIn_wide.2 (HGN.out w22 _ _ _ _ HC22.out HQ.out)).mono ?_; rintro e w23 ⟨ra, rn, rc, rfl, hb23⟩
             have HB23 := Lib.hid hb23
             clear hb23))
        have HC23 : Hid (Below w10.heap.size w10 w23) := Lib.hid (HC22.out.trans (HB23.out.mono HC22.out.size))
        have HW23 : Hid (Below W.heap.size W w23) := Lib.hid (by
          have h1 : W.heap.size ≤ w20.heap.size := HB20.out.size
          have h2 : w20.heap.size ≤ w21.heap.size := HB21.out.size
          have h3 : w20.heap.size ≤ w22.heap.size := Nat.le_trans h2 HBQ.out.size
          exact HB20.out.trans (((HB21.out.trans HBQ.out).mono h1).trans (HB23.out.mono (Nat.le_trans h1 h3))))
        have HYW : Hid (OwnB w23 W.heap.size (.slice ya val.length yc) val) := Lib.hid (by
          have h2 : w20.heap.size ≤ w21.heap.size := HB21.out.size
          have h3 : w20.heap.size ≤ w22.heap.size := Nat.le_trans h2 HBQ.out.size
          exact ownsRow_below HY.out ((HB21.out.trans HBQ.out).trans (HB23.out.mono h3)))
        clear c3 c4 HCB
        obtain ⟨c3, c4, hb6⟩ := HBC.out w23 HC23.out
        have c6 := hb6.cell
        have f6 := hb6.frozen
        have HB6 := Lib.hid hb6
        clear hb6
        have HYB := Lib.hid (HBY.out w23 ya yc _ _ HC23.out HYW.out)
        have HLN := Lib.hid (len_vw (HV10.out.below HC23.out))
        have hz2 := HZ.out
        gi_wp2_with (first
          | (refine ⟨trivial, ?_⟩; refine (callsIn_wide.2 HYB.out).mono ?_; rintro e w' ⟨rfl, rfl⟩)
          | (refine ⟨trivial, ?_⟩; refine (callsIn_wide.2 HLN.out).mono ?_; rintro e w' ⟨rfl, rfl⟩))
        have hbd : b3 + 1 + 1 < w13.heap.size := Nat.lt_of_lt_of_le HE3.out.1 (Nat.le_trans HW10.out.size HD.out)
        have hDl : w13.heap.size < W.heap.size := (Array.getElem?_eq_some_iff.1 HKW.out).1
        have hkd : w23.heap[w13.heap.size]? = some (.deferred (some [])) := (HW23.out.block _ hDl).trans HKW.out
        have hkf : (w23.setCell ⟨b3 + 1 + 1, 0, none⟩ (.bool true)).heap[w13.heap.size]? = some (.deferred (some [])) := (Below.heap_setCell _ _ _ _ (by show w13.heap.size ≠ b3 + 1 + 1; omega)).trans hkd
        have hbf : Boxed ((w23.setCell ⟨b3 + 1 + 1, 0, none⟩ (.bool true)).putObj w13.heap.size (.deferred none)) (b3 + 1 + 1) 4 (.bool true) := (World.putObj_heap_other (by omega)).trans (Boxed.set (W := w23) (.bool true) HB6.out)
        have hcf := hbf.cell
        refine ⟨by simp, .inl ⟨_, _, rfl, run_takeDeferred hkf, ?_⟩⟩
        refine ⟨.bool true, ?_, rfl, ?_⟩
        · have h6 : Try.f4.results = #[.cell 6 4] := rfl
          simp only [results, h6]
          simp [go_sem, hcf]
        · have hbb : Below b3 w w23 := HB1.out.trans ((HW10.out.trans (HC23.out.mono HW10.out.size)).mono (by have := HB1.out.size; have := HEQ3.out; omega))
          have hwl : w.heap.size = b3 := HEQ3.out
          rw [← hwl] at hbb
          exact (hbb.setCell (p := ⟨b3 + 1 + 1, 0, none⟩) (by show w.heap.size ≤ b3 + 1 + 1; omega) _).trans (belowK_b (w := w) (Nat.le_refl _) _ _ _ _ (by omega) hkf rfl rfl)
      case stop =>
        rintro c pre W _ h
        exact h.elim
end Go.Proofs.Ytmnbkhgogogeiaa
