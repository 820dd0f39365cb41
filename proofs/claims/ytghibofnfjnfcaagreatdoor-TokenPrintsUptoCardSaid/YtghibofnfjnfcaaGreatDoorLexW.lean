/-
  The lexer's methods.
-/
import Derived.Test.YtghibofnfjnfcaaGreatDoorTell
import Derived.Laws.EntriesVeiled
namespace Go.Proofs.YtghibofnfjnfcaaGreatDoor
set_option linter.unusedVariables false
open Go.RowKit

set_option maxRecDepth 100000 in
set_option maxHeartbeats 4000000 in
theorem between_any (p : Nat) (o t : Value) (s : LS) (c : Nat) (hc : c < 256) (hfit : ∀ n ∈ s.text, n < 256) (hol : s.out.length + 1 ≤ 100000000) (htl : s.text.length ≤ 100000000) (w : World) (k : LexS w p o t s 0) : Calls Tryz.prog 38 #[.pointer (some ⟨p, 0, none⟩), .int .u8 (c : Int)] w (LexIs w p o t (betS s c)) := by
  have HK := Lib.hid (LexK.start k)
  have HKF := Lib.hid hfit
  clear k hfit
  by_cases h0 : singleN c = 0
  · have hsg := single_any c hc
    rw [h0] at hsg
    have HSG := Lib.hid hsg
    clear hsg
    by_cases h1 : c = 34
    · subst h1
      rw [show betS s 34 = ({ s with m := .quo, op := true }, 0) from rfl]
      go_enter Tryz.func38, Tryz.ntmps38
      go_upto_region 1 with fail
      generalize w.alloc (.cells #[.nilFunc] 53) = w1 at *
      obtain ⟨c0, c1, c2, c3, c4, x0, x1, x2, x3, x4⟩ := HK.out.s.b.at
      have hne := HK.out.ne
      have r0 := HK.out.r.cell
      have r1 := HK.out.r.free
      go_wp2_with fail
      refine (HSG.out _).mono ?_
      rintro e w2 ⟨rfl, rfl⟩
      go_upto_region 6 with fail
      have HK2 := Lib.hid (HK.out.put (j := 3) (v := .bool true) (s' := { s with m := .quo, op := true }) (HK.out.s.b.set3 true) rfl rfl)
      go_wp2_with fail
      have hk := HK2.out.res (mdV .quo)
      exact bodyPost_ret (v := .agg #[mdV .quo]) (ret42 hk.r rfl _ rfl) rfl (hk.done (rfl))
    by_cases h2 : c = 123
    · subst h2
      rw [show betS s 123 = ({ s with m := .siz, op := true }, 0) from rfl]
      go_enter Tryz.func38, Tryz.ntmps38
      go_upto_region 1 with fail
      generalize w.alloc (.cells #[.nilFunc] 53) = w1 at *
      obtain ⟨c0, c1, c2, c3, c4, x0, x1, x2, x3, x4⟩ := HK.out.s.b.at
      have hne := HK.out.ne
      have r0 := HK.out.r.cell
      have r1 := HK.out.r.free
      go_wp2_with fail
      refine (HSG.out _).mono ?_
      rintro e w2 ⟨rfl, rfl⟩
      go_upto_region 9 with fail
      have HK2 := Lib.hid (HK.out.put (j := 3) (v := .bool true) (s' := { s with m := .siz, op := true }) (HK.out.s.b.set3 true) rfl rfl)
      go_wp2_with fail
      have hk := HK2.out.res (mdV .siz)
      exact bodyPost_ret (v := .agg #[mdV .siz]) (ret42 hk.r rfl _ rfl) rfl (hk.done (rfl))
    have g1 : ¬ (c : Int) = 34 := by omega
    have g2 : ¬ (c : Int) = 123 := by omega
    have g1b : ((c : Int) == 34) = false := beq_false_of_ne g1
    have g2b : ((c : Int) == 123) = false := beq_false_of_ne g2
    by_cases h3 : inAtomN c = true
    · have e : betS s c = (pushT s .atom c, 0) := by unfold betS; rw [if_neg (by rw [h0]; decide), if_neg h1, if_neg h2, if_pos h3]
      rw [e]
      have hin := inAtom_any c hc
      rw [h3] at hin
      have HIN := Lib.hid hin
      clear hin e h0 h1 h2 h3
      go_enter Tryz.func38, Tryz.ntmps38
      go_upto_region 1 with fail
      generalize w.alloc (.cells #[.nilFunc] 53) = w1 at *
      obtain ⟨c0, c1, c2, c3, c4, x0, x1, x2, x3, x4⟩ := HK.out.s.b.at
      have hne := HK.out.ne
      have r0 := HK.out.r.cell
      have r1 := HK.out.r.free
      go_wp2_with fail
      refine (HSG.out _).mono ?_
      rintro e w2 ⟨rfl, rfl⟩
      go_wp2_with fail
      refine (HIN.out _).mono ?_
      rintro e w2 ⟨rfl, rfl⟩
      have htx := HK.out.s.tx
      go_wp2_with (at_builtin; go_loud (refine app1g rfl (.tmp 35) (.tmp 37) rfl htx (Nat.zero_le _) rfl rfl (by omega) (Lib.hid rfl) ?_); intro o' w2 ho hg2 hm2; obtain ⟨oa, oc, rfl⟩ := ho.shape; simp only [List.length_append, List.length_cons, List.length_nil, Nat.zero_add] at ho hm2; have HKP := Lib.hid (HK.out.push (s' := pushT s .atom c) ho hg2 hm2 rfl rfl rfl rfl); clear c0 c1 c2 c3 c4 x0 x1 x2 x3 x4; obtain ⟨c0, c1, c2, c3, c4, x0, x1, x2, x3, x4⟩ := ((HK.out.s.b.alloc _).grown hg2 (ownB_ne htx HK.out.s.b.row (by decide))).at; have hr2 := HK.out.r.same ((hg2.block _ (by have := HK.out.r.lt; simp; omega) (fun e => ownB_ne htx HK.out.r.row (by decide) e.symm)).trans (Below.heap_alloc w1 _ _ HK.out.r.lt)); have q0 := hr2.cell; have q1 := hr2.free; clear ho hg2 hm2 htx hr2)
      have hk := HKP.out.res (mdV .atom)
      exact bodyPost_ret (v := .agg #[mdV .atom]) (ret42 hk.r rfl _ rfl) rfl (hk.done rfl)
    · have h3b : inAtomN c = false := by simpa using h3
      have e : betS s c = (s, 9) := by unfold betS; rw [if_neg (by rw [h0]; decide), if_neg h1, if_neg h2, if_neg h3]
      rw [e]
      have hin := inAtom_any c hc
      rw [h3b] at hin
      have HIN := Lib.hid hin
      clear hin e h0 h1 h2 h3 h3b
      go_enter Tryz.func38, Tryz.ntmps38
      go_upto_region 1 with fail
      generalize w.alloc (.cells #[.nilFunc] 53) = w1 at *
      obtain ⟨c0, c1, c2, c3, c4, x0, x1, x2, x3, x4⟩ := HK.out.s.b.at
      have hne := HK.out.ne
      have r0 := HK.out.r.cell
      have r1 := HK.out.r.free
      go_wp2_with fail
      refine (HSG.out _).mono ?_
      rintro e w2 ⟨rfl, rfl⟩
      go_wp2_with fail
      refine (HIN.out _).mono ?_
      rintro e w2 ⟨rfl, rfl⟩
      go_wp2_with fail
      refine (fail_any p o t s 9 (by decide) w1 HK.out.s).mono ?_
      rintro e w3 ⟨o', t', he, hs, hf, mo, mt⟩
      obtain rfl : e = .returned (.agg #[.nilFunc]) := he
      have HK3 := Lib.hid (HK.out.call hs hf mo mt)
      clear hs hf mo mt
      have r0 := HK3.out.r.cell
      have r1 := HK3.out.r.free
      go_wp2_with fail
      have hk := HK3.out.res (.nilFunc)
      exact bodyPost_ret (v := .agg #[.nilFunc]) (ret42 hk.r rfl _ rfl) rfl (hk.done (rfl))
  · have e : betS s c = (tellS s (singleN c), 0) := by unfold betS; rw [if_pos h0]
    rw [e]
    have HSG := Lib.hid (single_any c hc)
    have g0 : ¬ ((singleN c : Nat) : Int) = 0 := by omega
    have g0b : (((singleN c : Nat) : Int) == 0) = false := beq_false_of_ne g0
    clear e h0
    generalize singleN c = kd at *
    go_enter Tryz.func38, Tryz.ntmps38
    go_upto_region 1 with fail
    generalize w.alloc (.cells #[.nilFunc] 53) = w1 at *
    obtain ⟨c0, c1, c2, c3, c4, x0, x1, x2, x3, x4⟩ := HK.out.s.b.at
    have hne := HK.out.ne
    have r0 := HK.out.r.cell
    have r1 := HK.out.r.free
    go_wp2_with fail
    refine (HSG.out _).mono ?_
    rintro e w2 ⟨rfl, rfl⟩
    go_wp2_with fail
    refine (tell_any p _ _ (s) kd HKF.out hol w1 HK.out.s).mono ?_
    rintro e w3 ⟨o', t', he, hs, hf, mo, mt⟩
    obtain rfl : e = .returned (.agg #[mdV .btw]) := he
    have HK3 := Lib.hid (HK.out.call hs hf mo mt)
    clear hs hf mo mt
    go_wp2_with fail
    rw [HK3.out.r.store (mdV_one _)]
    go_wp2_with fail
    have hk := HK3.out.res (mdV .btw)
    exact bodyPost_ret (v := .agg #[mdV .btw]) (ret42 hk.r rfl _ rfl) rfl (hk.done (rfl))

set_option maxRecDepth 100000 in
set_option maxHeartbeats 4000000 in
theorem atom_any (p : Nat) (o t : Value) (s : LS) (c : Nat) (hc : c < 256) (hfit : ∀ n ∈ s.text, n < 256) (hol : s.out.length + 2 ≤ 100000000) (htl : s.text.length ≤ 100000000) (w : World) (k : LexS w p o t s 0) : Calls Tryz.prog 45 #[.pointer (some ⟨p, 0, none⟩), .int .u8 (c : Int)] w (LexIs w p o t (atomS s c)) := by
  have HK := Lib.hid (LexK.start k)
  have HKF := Lib.hid hfit
  clear k hfit
  by_cases h3 : inAtomN c = true
  · have e : atomS s c = (pushT s .atom c, 0) := by unfold atomS; rw [if_pos h3]
    rw [e]
    have hin := inAtom_any c hc
    rw [h3] at hin
    have HIN := Lib.hid hin
    clear hin e h3
    go_enter Tryz.func45, Tryz.ntmps45
    go_upto_region 1 with fail
    generalize w.alloc (.cells #[.nilFunc] 53) = w1 at *
    obtain ⟨c0, c1, c2, c3, c4, x0, x1, x2, x3, x4⟩ := HK.out.s.b.at
    have hne := HK.out.ne
    have r0 := HK.out.r.cell
    have r1 := HK.out.r.free
    go_wp2_with fail
    refine (HIN.out _).mono ?_
    rintro e w2 ⟨rfl, rfl⟩
    have htx := HK.out.s.tx
    go_wp2_with (at_builtin; go_loud (refine app1g rfl (.tmp 11) (.tmp 13) rfl htx (Nat.zero_le _) rfl rfl (by omega) (Lib.hid rfl) ?_); intro o' w2 ho hg2 hm2; obtain ⟨oa, oc, rfl⟩ := ho.shape; simp only [List.length_append, List.length_cons, List.length_nil, Nat.zero_add] at ho hm2; have HKP := Lib.hid (HK.out.push (s' := pushT s .atom c) ho hg2 hm2 rfl rfl rfl rfl); clear c0 c1 c2 c3 c4 x0 x1 x2 x3 x4; obtain ⟨c0, c1, c2, c3, c4, x0, x1, x2, x3, x4⟩ := ((HK.out.s.b.alloc _).grown hg2 (ownB_ne htx HK.out.s.b.row (by decide))).at; have hr2 := HK.out.r.same ((hg2.block _ (by have := HK.out.r.lt; simp; omega) (fun e => ownB_ne htx HK.out.r.row (by decide) e.symm)).trans (Below.heap_alloc w1 _ _ HK.out.r.lt)); have q0 := hr2.cell; have q1 := hr2.free; clear ho hg2 hm2 htx hr2)
    have hk := HKP.out.res (mdV .atom)
    exact bodyPost_ret (v := .agg #[mdV .atom]) (ret42 hk.r rfl _ rfl) rfl (hk.done rfl)
  · have h3b : inAtomN c = false := by simpa using h3
    have e : atomS s c = betS (tellS s 1) c := by unfold atomS; rw [if_neg h3]
    rw [e]
    have hin := inAtom_any c hc
    rw [h3b] at hin
    have HIN := Lib.hid hin
    clear hin e h3 h3b
    go_enter Tryz.func45, Tryz.ntmps45
    go_upto_region 1 with fail
    generalize w.alloc (.cells #[.nilFunc] 53) = w1 at *
    obtain ⟨c0, c1, c2, c3, c4, x0, x1, x2, x3, x4⟩ := HK.out.s.b.at
    have hne := HK.out.ne
    have r0 := HK.out.r.cell
    have r1 := HK.out.r.free
    go_wp2_with fail
    refine (HIN.out _).mono ?_
    rintro e w2 ⟨rfl, rfl⟩
    go_wp2_with fail
    refine (tell_any p _ _ (s) 1 HKF.out (by omega) w1 HK.out.s).mono ?_
    rintro e w3 ⟨o', t', he, hs, hf, mo, mt⟩
    obtain rfl : e = .returned (.agg #[mdV .btw]) := he
    have HK3 := Lib.hid (HK.out.call hs hf mo mt)
    clear hs hf mo mt
    go_wp2_with fail
    have ho1 : (tellS s 1).out.length + 1 ≤ 100000000 := by show (s.out ++ [(1, s.text)]).length + 1 ≤ _; simp; omega
    refine (between_any p _ _ (tellS s 1) c hc (by intro n hn; cases hn) ho1 (by show 0 ≤ _; omega) w3 HK3.out.s).mono ?_
    rintro e w4 ⟨o2, t2, he, hs, hf, mo, mt⟩
    subst he
    have HK4 := Lib.hid (HK3.out.call hs hf mo mt)
    clear hs hf mo mt
    have h1c : (if (betS (tellS s 1) c).2 = 0 then mdV (betS (tellS s 1) c).1.m else Value.nilFunc).oneCell' = true := by split; exact mdV_one _; rfl
    generalize hV : (if (betS (tellS s 1) c).2 = 0 then mdV (betS (tellS s 1) c).1.m else Value.nilFunc) = V at *
    go_wp2_with fail
    rw [HK4.out.r.store h1c]
    go_wp2_with fail
    have hk := HK4.out.res (V)
    exact bodyPost_ret (v := .agg #[V]) (ret42 hk.r rfl _ rfl) rfl (hk.done (hV.symm))

set_option maxRecDepth 100000 in
set_option maxHeartbeats 4000000 in
theorem quoted_any (p : Nat) (o t : Value) (s : LS) (c : Nat) (hc : c < 256) (hfit : ∀ n ∈ s.text, n < 256) (hol : s.out.length + 1 ≤ 100000000) (htl : s.text.length ≤ 100000000) (w : World) (k : LexS w p o t s 0) : Calls Tryz.prog 43 #[.pointer (some ⟨p, 0, none⟩), .int .u8 (c : Int)] w (LexIs w p o t (quoS s c)) := by
  have HK := Lib.hid (LexK.start k)
  have HKF := Lib.hid hfit
  clear k hfit
  by_cases h1 : c = 34
  · subst h1
    rw [show quoS s 34 = (tellS s 2, 0) from rfl]
    go_enter Tryz.func43, Tryz.ntmps43
    go_upto_region 1 with fail
    generalize w.alloc (.cells #[.nilFunc] 53) = w1 at *
    obtain ⟨c0, c1, c2, c3, c4, x0, x1, x2, x3, x4⟩ := HK.out.s.b.at
    have hne := HK.out.ne
    have r0 := HK.out.r.cell
    have r1 := HK.out.r.free
    go_wp2_with fail
    refine (tell_any p _ _ (s) 2 HKF.out hol w1 HK.out.s).mono ?_
    rintro e w3 ⟨o', t', he, hs, hf, mo, mt⟩
    obtain rfl : e = .returned (.agg #[mdV .btw]) := he
    have HK3 := Lib.hid (HK.out.call hs hf mo mt)
    clear hs hf mo mt
    go_wp2_with fail
    rw [HK3.out.r.store (mdV_one _)]
    go_wp2_with fail
    have hk := HK3.out.res (mdV .btw)
    exact bodyPost_ret (v := .agg #[mdV .btw]) (ret42 hk.r rfl _ rfl) rfl (hk.done (rfl))
  by_cases h2 : c = 92
  · subst h2
    rw [show quoS s 92 = ({ s with m := .esc }, 0) from rfl]
    go_enter Tryz.func43, Tryz.ntmps43
    go_upto_region 1 with fail
    generalize w.alloc (.cells #[.nilFunc] 53) = w1 at *
    obtain ⟨c0, c1, c2, c3, c4, x0, x1, x2, x3, x4⟩ := HK.out.s.b.at
    have hne := HK.out.ne
    have r0 := HK.out.r.cell
    have r1 := HK.out.r.free
    have HK2 : Hid (LexK w w1 p w.heap.size o t o t { s with m := .esc } 0 .nilFunc) := Lib.hid ⟨⟨HK.out.s.b, HK.out.s.ot, HK.out.s.tx⟩, HK.out.r, HK.out.f, HK.out.mo, HK.out.mt, HK.out.kw, HK.out.pk⟩
    go_wp2_with fail
    have hk := HK2.out.res (mdV .esc)
    exact bodyPost_ret (v := .agg #[mdV .esc]) (ret42 hk.r rfl _ rfl) rfl (hk.done (rfl))
  have g1 : ¬ (c : Int) = 34 := by omega
  have g2 : ¬ (c : Int) = 92 := by omega
  have g1b : ((c : Int) == 34) = false := beq_false_of_ne g1
  have g2b : ((c : Int) == 92) = false := beq_false_of_ne g2
  by_cases h3 : inQuoN c = true
  · have e : quoS s c = (pushT s .quo c, 0) := by unfold quoS; rw [if_neg h1, if_neg h2, if_pos h3]
    rw [e]
    have hin := inQuo_any c hc
    rw [h3] at hin
    have HIN := Lib.hid hin
    clear hin e h1 h2 h3
    go_enter Tryz.func43, Tryz.ntmps43
    go_upto_region 1 with fail
    generalize w.alloc (.cells #[.nilFunc] 53) = w1 at *
    obtain ⟨c0, c1, c2, c3, c4, x0, x1, x2, x3, x4⟩ := HK.out.s.b.at
    have hne := HK.out.ne
    have r0 := HK.out.r.cell
    have r1 := HK.out.r.free
    go_wp2_with fail
    refine (HIN.out _).mono ?_
    rintro e w2 ⟨rfl, rfl⟩
    have htx := HK.out.s.tx
    go_wp2_with (at_builtin; go_loud (refine app1g rfl (.tmp 21) (.tmp 23) rfl htx (Nat.zero_le _) rfl rfl (by omega) (Lib.hid rfl) ?_); intro o' w2 ho hg2 hm2; obtain ⟨oa, oc, rfl⟩ := ho.shape; simp only [List.length_append, List.length_cons, List.length_nil, Nat.zero_add] at ho hm2; have HKP := Lib.hid (HK.out.push (s' := pushT s .quo c) ho hg2 hm2 rfl rfl rfl rfl); clear c0 c1 c2 c3 c4 x0 x1 x2 x3 x4; obtain ⟨c0, c1, c2, c3, c4, x0, x1, x2, x3, x4⟩ := ((HK.out.s.b.alloc _).grown hg2 (ownB_ne htx HK.out.s.b.row (by decide))).at; have hr2 := HK.out.r.same ((hg2.block _ (by have := HK.out.r.lt; simp; omega) (fun e => ownB_ne htx HK.out.r.row (by decide) e.symm)).trans (Below.heap_alloc w1 _ _ HK.out.r.lt)); have q0 := hr2.cell; have q1 := hr2.free; clear ho hg2 hm2 htx hr2)
    have hk := HKP.out.res (mdV .quo)
    exact bodyPost_ret (v := .agg #[mdV .quo]) (ret42 hk.r rfl _ rfl) rfl (hk.done rfl)
  · have h3b : inQuoN c = false := by simpa using h3
    have e : quoS s c = (s, 9) := by unfold quoS; rw [if_neg h1, if_neg h2, if_neg h3]
    rw [e]
    have hin := inQuo_any c hc
    rw [h3b] at hin
    have HIN := Lib.hid hin
    clear hin e h1 h2 h3 h3b
    go_enter Tryz.func43, Tryz.ntmps43
    go_upto_region 1 with fail
    generalize w.alloc (.cells #[.nilFunc] 53) = w1 at *
    obtain ⟨c0, c1, c2, c3, c4, x0, x1, x2, x3, x4⟩ := HK.out.s.b.at
    have hne := HK.out.ne
    have r0 := HK.out.r.cell
    have r1 := HK.out.r.free
    go_wp2_with fail
    refine (HIN.out _).mono ?_
    rintro e w2 ⟨rfl, rfl⟩
    go_wp2_with fail
    refine (fail_any p o t s 9 (by decide) w1 HK.out.s).mono ?_
    rintro e w3 ⟨o', t', he, hs, hf, mo, mt⟩
    obtain rfl : e = .returned (.agg #[.nilFunc]) := he
    have HK3 := Lib.hid (HK.out.call hs hf mo mt)
    clear hs hf mo mt
    have r0 := HK3.out.r.cell
    have r1 := HK3.out.r.free
    go_wp2_with fail
    have hk := HK3.out.res (.nilFunc)
    exact bodyPost_ret (v := .agg #[.nilFunc]) (ret42 hk.r rfl _ rfl) rfl (hk.done (rfl))

set_option maxRecDepth 100000 in
set_option maxHeartbeats 4000000 in
theorem escaped_any (p : Nat) (o t : Value) (s : LS) (c : Nat) (hc : c < 256) (hfit : ∀ n ∈ s.text, n < 256) (hol : s.out.length + 1 ≤ 100000000) (htl : s.text.length ≤ 100000000) (w : World) (k : LexS w p o t s 0) : Calls Tryz.prog 52 #[.pointer (some ⟨p, 0, none⟩), .int .u8 (c : Int)] w (LexIs w p o t (escS s c)) := by
  have HK := Lib.hid (LexK.start k)
  have HKF := Lib.hid hfit
  clear k hfit
  by_cases h1 : c = 34
  · subst h1
    rw [show escS s 34 = (pushT s .quo 34, 0) from rfl]
    go_enter Tryz.func52, Tryz.ntmps52
    go_upto_region 1 with fail
    generalize w.alloc (.cells #[.nilFunc] 53) = w1 at *
    obtain ⟨c0, c1, c2, c3, c4, x0, x1, x2, x3, x4⟩ := HK.out.s.b.at
    have hne := HK.out.ne
    have r0 := HK.out.r.cell
    have r1 := HK.out.r.free
    have htx := HK.out.s.tx
    go_wp2_with (at_builtin; go_loud (refine app1g rfl (.tmp 17) (.tmp 19) rfl htx (Nat.zero_le _) rfl rfl (by omega) (Lib.hid rfl) ?_); intro o' w2 ho hg2 hm2; obtain ⟨oa, oc, rfl⟩ := ho.shape; simp only [List.length_append, List.length_cons, List.length_nil, Nat.zero_add] at ho hm2; have HKP := Lib.hid (HK.out.push (s' := pushT s .quo 34) ho hg2 hm2 rfl rfl rfl rfl); clear c0 c1 c2 c3 c4 x0 x1 x2 x3 x4; obtain ⟨c0, c1, c2, c3, c4, x0, x1, x2, x3, x4⟩ := ((HK.out.s.b.alloc _).grown hg2 (ownB_ne htx HK.out.s.b.row (by decide))).at; have hr2 := HK.out.r.same ((hg2.block _ (by have := HK.out.r.lt; simp; omega) (fun e => ownB_ne htx HK.out.r.row (by decide) e.symm)).trans (Below.heap_alloc w1 _ _ HK.out.r.lt)); have q0 := hr2.cell; have q1 := hr2.free; clear ho hg2 hm2 htx hr2)
    have hk := HKP.out.res (mdV .quo)
    exact bodyPost_ret (v := .agg #[mdV .quo]) (ret42 hk.r rfl _ rfl) rfl (hk.done rfl)
  by_cases h2 : c = 92
  · subst h2
    rw [show escS s 92 = (pushT s .quo 92, 0) from rfl]
    go_enter Tryz.func52, Tryz.ntmps52
    go_upto_region 1 with fail
    generalize w.alloc (.cells #[.nilFunc] 53) = w1 at *
    obtain ⟨c0, c1, c2, c3, c4, x0, x1, x2, x3, x4⟩ := HK.out.s.b.at
    have hne := HK.out.ne
    have r0 := HK.out.r.cell
    have r1 := HK.out.r.free
    have htx := HK.out.s.tx
    go_wp2_with (at_builtin; go_loud (refine app1g rfl (.tmp 17) (.tmp 19) rfl htx (Nat.zero_le _) rfl rfl (by omega) (Lib.hid rfl) ?_); intro o' w2 ho hg2 hm2; obtain ⟨oa, oc, rfl⟩ := ho.shape; simp only [List.length_append, List.length_cons, List.length_nil, Nat.zero_add] at ho hm2; have HKP := Lib.hid (HK.out.push (s' := pushT s .quo 92) ho hg2 hm2 rfl rfl rfl rfl); clear c0 c1 c2 c3 c4 x0 x1 x2 x3 x4; obtain ⟨c0, c1, c2, c3, c4, x0, x1, x2, x3, x4⟩ := ((HK.out.s.b.alloc _).grown hg2 (ownB_ne htx HK.out.s.b.row (by decide))).at; have hr2 := HK.out.r.same ((hg2.block _ (by have := HK.out.r.lt; simp; omega) (fun e => ownB_ne htx HK.out.r.row (by decide) e.symm)).trans (Below.heap_alloc w1 _ _ HK.out.r.lt)); have q0 := hr2.cell; have q1 := hr2.free; clear ho hg2 hm2 htx hr2)
    have hk := HKP.out.res (mdV .quo)
    exact bodyPost_ret (v := .agg #[mdV .quo]) (ret42 hk.r rfl _ rfl) rfl (hk.done rfl)
  have e : escS s c = (s, 9) := by unfold escS; rw [if_pos ⟨h1, h2⟩]
  rw [e]
  have g1 : ¬ (c : Int) = 34 := by omega
  have g2 : ¬ (c : Int) = 92 := by omega
  have g1b : ((c : Int) == 34) = false := beq_false_of_ne g1
  have g2b : ((c : Int) == 92) = false := beq_false_of_ne g2
  have g1n : ((c : Int) != 34) = true := by simp [g1]
  have g2n : ((c : Int) != 92) = true := by simp [g2]
  clear e h1 h2
  go_enter Tryz.func52, Tryz.ntmps52
  go_upto_region 1 with fail
  generalize w.alloc (.cells #[.nilFunc] 53) = w1 at *
  obtain ⟨c0, c1, c2, c3, c4, x0, x1, x2, x3, x4⟩ := HK.out.s.b.at
  have hne := HK.out.ne
  have r0 := HK.out.r.cell
  have r1 := HK.out.r.free
  go_wp2_with fail
  refine (fail_any p o t s 9 (by decide) w1 HK.out.s).mono ?_
  rintro e w3 ⟨o', t', he, hs, hf, mo, mt⟩
  obtain rfl : e = .returned (.agg #[.nilFunc]) := he
  have HK3 := Lib.hid (HK.out.call hs hf mo mt)
  clear hs hf mo mt
  have r0 := HK3.out.r.cell
  have r1 := HK3.out.r.free
  go_wp2_with fail
  have hk := HK3.out.res (.nilFunc)
  exact bodyPost_ret (v := .agg #[.nilFunc]) (ret42 hk.r rfl _ rfl) rfl (hk.done (rfl))

set_option maxRecDepth 100000 in
set_option maxHeartbeats 4000000 in
theorem carriage_any (p : Nat) (o t : Value) (s : LS) (c : Nat) (hc : c < 256) (hfit : ∀ n ∈ s.text, n < 256) (hol : s.out.length + 1 ≤ 100000000) (htl : s.text.length ≤ 100000000) (w : World) (k : LexS w p o t s 0) : Calls Tryz.prog 53 #[.pointer (some ⟨p, 0, none⟩), .int .u8 (c : Int)] w (LexIs w p o t (carS s c)) := by
  have HK := Lib.hid (LexK.start k)
  have HKF := Lib.hid hfit
  clear k hfit
  by_cases h1 : c = 13
  · subst h1
    rw [show carS s 13 = ({ s with m := .fee }, 0) from rfl]
    go_enter Tryz.func53, Tryz.ntmps53
    go_upto_region 1 with fail
    generalize w.alloc (.cells #[.nilFunc] 53) = w1 at *
    obtain ⟨c0, c1, c2, c3, c4, x0, x1, x2, x3, x4⟩ := HK.out.s.b.at
    have hne := HK.out.ne
    have r0 := HK.out.r.cell
    have r1 := HK.out.r.free
    have HK2 : Hid (LexK w w1 p w.heap.size o t o t { s with m := .fee } 0 .nilFunc) := Lib.hid ⟨⟨HK.out.s.b, HK.out.s.ot, HK.out.s.tx⟩, HK.out.r, HK.out.f, HK.out.mo, HK.out.mt, HK.out.kw, HK.out.pk⟩
    go_wp2_with fail
    have hk := HK2.out.res (mdV .fee)
    exact bodyPost_ret (v := .agg #[mdV .fee]) (ret42 hk.r rfl _ rfl) rfl (hk.done (rfl))
  have e : carS s c = (s, 9) := by unfold carS; rw [if_pos h1]
  rw [e]
  have g1 : ¬ (c : Int) = 13 := by omega
  have g1b : ((c : Int) == 13) = false := beq_false_of_ne g1
  have g1n : ((c : Int) != 13) = true := by simp [g1]
  clear e h1
  go_enter Tryz.func53, Tryz.ntmps53
  go_upto_region 1 with fail
  generalize w.alloc (.cells #[.nilFunc] 53) = w1 at *
  obtain ⟨c0, c1, c2, c3, c4, x0, x1, x2, x3, x4⟩ := HK.out.s.b.at
  have hne := HK.out.ne
  have r0 := HK.out.r.cell
  have r1 := HK.out.r.free
  go_wp2_with fail
  refine (fail_any p o t s 9 (by decide) w1 HK.out.s).mono ?_
  rintro e w3 ⟨o', t', he, hs, hf, mo, mt⟩
  obtain rfl : e = .returned (.agg #[.nilFunc]) := he
  have HK3 := Lib.hid (HK.out.call hs hf mo mt)
  clear hs hf mo mt
  have r0 := HK3.out.r.cell
  have r1 := HK3.out.r.free
  go_wp2_with fail
  have hk := HK3.out.res (.nilFunc)
  exact bodyPost_ret (v := .agg #[.nilFunc]) (ret42 hk.r rfl _ rfl) rfl (hk.done (rfl))

set_option maxRecDepth 100000 in
set_option maxHeartbeats 4000000 in
theorem literal_any (p : Nat) (o t : Value) (s : LS) (c : Nat) (hc : c < 256) (hfit : ∀ n ∈ s.text, n < 256) (hol : s.out.length + 1 ≤ 100000000) (htl : s.text.length ≤ 100000000) (hlt : 0 < s.left) (hl2 : s.left ≤ 16384) (w : World) (k : LexS w p o t s 0) : Calls Tryz.prog 77 #[.pointer (some ⟨p, 0, none⟩), .int .u8 (c : Int)] w (LexIs w p o t (litS s c)) := by
  have HK := Lib.hid (LexK.start k)
  have HKF := Lib.hid hfit
  clear k hfit
  by_cases h1 : c = 0
  · subst h1
    rw [show litS s 0 = (s, 9) from rfl]
    go_enter Tryz.func77, Tryz.ntmps77
    go_upto_region 1 with fail
    generalize w.alloc (.cells #[.nilFunc] 53) = w1 at *
    obtain ⟨c0, c1, c2, c3, c4, x0, x1, x2, x3, x4⟩ := HK.out.s.b.at
    have hne := HK.out.ne
    have r0 := HK.out.r.cell
    have r1 := HK.out.r.free
    go_wp2_with fail
    refine (fail_any p o t s 9 (by decide) w1 HK.out.s).mono ?_
    rintro e w3 ⟨o', t', he, hs, hf, mo, mt⟩
    obtain rfl : e = .returned (.agg #[.nilFunc]) := he
    have HK3 := Lib.hid (HK.out.call hs hf mo mt)
    clear hs hf mo mt
    have r0 := HK3.out.r.cell
    have r1 := HK3.out.r.free
    go_wp2_with fail
    have hk := HK3.out.res (.nilFunc)
    exact bodyPost_ret (v := .agg #[.nilFunc]) (ret42 hk.r rfl _ rfl) rfl (hk.done (rfl))
  have g1 : ¬ (c : Int) = 0 := by omega
  have g1b : ((c : Int) == 0) = false := beq_false_of_ne g1
  obtain ⟨lf, hlf⟩ : ∃ n, s.left = n + 1 := ⟨s.left - 1, by omega⟩
  have hwl : IntKind.i64.wrap ((lf : Int) + 1 - 1) = (lf : Int) := by rw [IntWalk.i64_in _ (by omega)]; omega
  have e : litS s c = if lf = 0 then (tellS { pushT s .lit c with left := lf } 3, 0) else ({ pushT s .lit c with left := lf }, 0) := by unfold litS; rw [if_neg h1, show s.left - 1 = lf by omega]
  rw [e]
  have hlb : lf ≤ 16384 := by omega
  have hlc : ((s.left : Nat) : Int) = (lf : Int) + 1 := by omega
  have HLC := Lib.hid hlc
  clear e h1 hlf hlc
  by_cases hz : lf = 0
  · subst hz
    rw [if_pos rfl]
    go_enter Tryz.func77, Tryz.ntmps77
    go_upto_region 1 with fail
    generalize w.alloc (.cells #[.nilFunc] 53) = w1 at *
    obtain ⟨c0, c1, c2, c3, c4, x0, x1, x2, x3, x4⟩ := HK.out.s.b.at
    have hne := HK.out.ne
    have r0 := HK.out.r.cell
    have r1 := HK.out.r.free
    rw [HLC.out] at c2
    have htx := HK.out.s.tx
    go_wp2_with (at_builtin; go_loud (refine app1g rfl (.tmp 13) (.tmp 15) rfl htx (Nat.zero_le _) rfl rfl (by omega) (Lib.hid rfl) ?_); intro o' w2 ho hg2 hm2; obtain ⟨oa, oc, rfl⟩ := ho.shape; simp only [List.length_append, List.length_cons, List.length_nil, Nat.zero_add] at ho hm2; have HKP := Lib.hid (HK.out.push (s' := pushT s .lit c) ho hg2 hm2 rfl rfl rfl rfl); clear c0 c1 c2 c3 c4 x0 x1 x2 x3 x4; obtain ⟨c0, c1, c2, c3, c4, x0, x1, x2, x3, x4⟩ := ((HK.out.s.b.alloc _).grown hg2 (ownB_ne htx HK.out.s.b.row (by decide))).at; rw [HLC.out] at c2; have HKQ := Lib.hid (HKP.out.put (j := 2) (v := .int .i64 (0)) (s' := { pushT s .lit c with left := 0 }) (HKP.out.s.b.set2 (0)) rfl rfl); have hr2 := HK.out.r.same ((hg2.block _ (by have := HK.out.r.lt; simp; omega) (fun e => ownB_ne htx HK.out.r.row (by decide) e.symm)).trans (Below.heap_alloc w1 _ _ HK.out.r.lt)); have q0 := hr2.cell; have q1 := hr2.free; clear ho hg2 hm2 htx hr2)
    have HKQF := Lib.hid (mem_snocN HKF.out hc)
    refine (tell_any p _ _ ({ pushT s .lit c with left := 0 }) 3 HKQF.out hol _ HKQ.out.s).mono ?_
    rintro e w3 ⟨o', t', he, hs, hf, mo, mt⟩
    obtain rfl : e = .returned (.agg #[mdV .btw]) := he
    have HK3 := Lib.hid (HKQ.out.call hs hf mo mt)
    clear hs hf mo mt
    go_wp2_with fail
    rw [HK3.out.r.store (mdV_one _)]
    go_wp2_with fail
    have hk := HK3.out.res (mdV .btw)
    exact bodyPost_ret (v := .agg #[mdV .btw]) (ret42 hk.r rfl _ rfl) rfl (hk.done (rfl))
  · rw [if_neg hz]
    have hz1 : ¬ ((lf : Nat) : Int) = 0 := by omega
    have hz2 : (((lf : Nat) : Int) == 0) = false := beq_false_of_ne hz1
    clear hz
    go_enter Tryz.func77, Tryz.ntmps77
    go_upto_region 1 with fail
    generalize w.alloc (.cells #[.nilFunc] 53) = w1 at *
    obtain ⟨c0, c1, c2, c3, c4, x0, x1, x2, x3, x4⟩ := HK.out.s.b.at
    have hne := HK.out.ne
    have r0 := HK.out.r.cell
    have r1 := HK.out.r.free
    rw [HLC.out] at c2
    have htx := HK.out.s.tx
    go_wp2_with (at_builtin; go_loud (refine app1g rfl (.tmp 13) (.tmp 15) rfl htx (Nat.zero_le _) rfl rfl (by omega) (Lib.hid rfl) ?_); intro o' w2 ho hg2 hm2; obtain ⟨oa, oc, rfl⟩ := ho.shape; simp only [List.length_append, List.length_cons, List.length_nil, Nat.zero_add] at ho hm2; have HKP := Lib.hid (HK.out.push (s' := pushT s .lit c) ho hg2 hm2 rfl rfl rfl rfl); clear c0 c1 c2 c3 c4 x0 x1 x2 x3 x4; obtain ⟨c0, c1, c2, c3, c4, x0, x1, x2, x3, x4⟩ := ((HK.out.s.b.alloc _).grown hg2 (ownB_ne htx HK.out.s.b.row (by decide))).at; rw [HLC.out] at c2; have HKQ := Lib.hid (HKP.out.put (j := 2) (v := .int .i64 ((lf : Nat) : Int)) (s' := { pushT s .lit c with left := lf }) (HKP.out.s.b.set2 ((lf : Nat) : Int)) rfl rfl); have hr2 := HK.out.r.same ((hg2.block _ (by have := HK.out.r.lt; simp; omega) (fun e => ownB_ne htx HK.out.r.row (by decide) e.symm)).trans (Below.heap_alloc w1 _ _ HK.out.r.lt)); have q0 := hr2.cell; have q1 := hr2.free; clear ho hg2 hm2 htx hr2)
    have hk := HKQ.out.res (mdV .lit)
    exact bodyPost_ret (v := .agg #[mdV .lit]) (ret42 hk.r rfl _ rfl) rfl (hk.done rfl)

end Go.Proofs.YtghibofnfjnfcaaGreatDoor
