/-
  The contract of line, at any state and byte.
-/
import Derived.Test.YtgafalobbhoaoaaAnn
namespace Go.Proofs.Ytgafalobbhoaoaa
set_option linter.unusedVariables false
open Go.RowKit

theorem ends_yes {s : St} {c : Nat} (h : endsB s c = true) : s.ahead = 13 ∧ c = 10 := by unfold endsB at h; simpa using h
theorem ends_no {s : St} {c : Nat} (h : endsB s c = false) : (((s.ahead : Int) == 13) = false ∨ (((s.ahead : Int) == 13) = true ∧ ((c : Int) == 10) = false)) := by
  unfold endsB at h
  by_cases h1 : s.ahead = 13
  · right; simp [h1] at h ⊢; omega
  · left; simp; omega

/-- the world behind a line's four stores -/
structure LineW (w w3 : World) (p : Nat) (r h h' : Value) (s : St) (c : Nat) : Prop where
  b : FeedB w3 p (lineV p) r h' s.seg ((s.len + 1 : Nat) : Int) s.lits s.left c
  o : OwnB w3 0 h' (s.H ++ [c])
  f : Foot p h w w3
  m : Moved h h' w

theorem lineW_of {w w2 : World} {p : Nat} {r h : Value} {s : St} {c n : Nat} {oa : Option Addr} {oc : Nat} (hn : n = s.H.length + 1) (hm : s.m = .line) (k : FeedS w p r h s) (ho : OwnB w2 0 (.slice oa n oc) (s.H ++ [c])) (hg : (w.alloc (.cells #[.int .u8 (c : Int)] 5)).grownBy w2 h.ownBlock) (hv : Moved h (.slice oa n oc) w) :
    LineW w (((w2.setCell ⟨p, 2, none⟩ (.slice oa n oc)).setCell ⟨p, 4, none⟩ (.int .i64 ((s.len : Int) + 1))).setCell ⟨p, 7, none⟩ (.int .u8 c)) p r h (.slice oa n oc) s c := by
  have hf2 := (k.b.alloc (.cells #[.int .u8 (c : Int)] 5)).grown hg (feed_row_ne k.b k.o)
  have hne := feed_row_ne hf2 ho
  refine ⟨?_, ((ho.off hne).off hne).off hne, ((Foot.trans ((Foot.refl p h w).alloc _) (Moved.refl h w) (Foot.of_grown hg)).set.set).set, hv⟩
  have h4 := ((hf2.set2 (.slice oa n oc)).set4 ((s.len : Int) + 1)).set7 c
  have e : ((s.len + 1 : Nat) : Int) = (s.len : Int) + 1 := by omega
  rw [e]
  rw [hm] at h4
  exact h4

theorem announced_in (p : Nat) (f r : Value) (g n1 cap1 q n : Nat) (len lits left a : Int) (H L : List Nat) (w : World) (hn1 : n1 = q + n + 2) (hf : FeedB w p f r (.slice (some ⟨g, 0, none⟩) n1 cap1) (q : Int) len lits left a) (hlen : H.length = n1)
    (hh : OwnB w 0 (.slice (some ⟨g, 0, none⟩) n1 cap1) H) (hb : ∀ n ∈ H, n < 256) (hL : L = (H.drop q).take n) (hs : n1 ≤ 200000) :
    Calls Try.prog 28 #[.pointer (some ⟨p, 0, none⟩)] w fun e w' => e = .returned (annV (annP L)) ∧ Below w.heap.size w w' := by
  have hcap : n1 ≤ cap1 := by
    obtain ⟨_, _, _, e, h1, h2, _⟩ := (show OwnB w 0 (.slice (some ⟨g, 0, none⟩) H.length cap1) H by rw [hlen]; exact hh).row hb
    simp only [Value.slice.injEq] at e
    omega
  subst hn1
  obtain ⟨cc, rfl⟩ : ∃ cc, cap1 = q + cc := ⟨cap1 - q, by omega⟩
  exact announced_any p f r g cc q n len lits left a H L w hf hlen hh hb hL hs
theorem annP_le {L : List Nat} {n : Nat} (h : annP L = some n) : n ≤ 16385 := by
  unfold annP at h
  split at h
  · cases h
  · split at h
    · unfold annD at h
      split at h
      · obtain rfl := Option.some.inj h
        exact capv_le _
      · cases h
    · cases h

set_option maxRecDepth 100000 in
set_option maxHeartbeats 4000000 in
theorem line_step (p : Nat) (r h : Value) (s : St) (hok : Ok s) (hm : s.m = .line) (c : Nat) (hc : c < 256) (w : World) (k : FeedS w p r h s) :
    Calls Try.prog 20 #[.pointer (some ⟨p, 0, none⟩), .int .u8 (c : Int)] w (StepIs w p r h (lineS s c).1 (lineS s c).2) := by
  have hH := hok.size
  have hlen := hok.len
  have hlits := hok.lits
  have hleft := hok.ln (by rw [hm]; decide)
  have hcr := hok.cr hm
  have hsg := hok.seg
  have hbb := mem_snoc hok.hb hc
  obtain ⟨c0, c1, c2, c3, c4, c5, c6, c7, x0, x1, x2, x3, x4, x5, x6, x7⟩ := k.b.at
  have HK := Lib.hid k
  have HM := Lib.hid hm
  have HLF := Lib.hid hleft
  have HCR := Lib.hid hcr
  have HBB := Lib.hid hbb
  have hO := k.o
  have hne := Lib.hid (feed_row_ne k.b k.o)
  have hlen0 : (0 : Int) ≤ (s.len : Int) ∧ (s.len : Int) ≤ 4096 := by omega
  clear hm hleft hcr hbb k hok
  by_cases hov : 4096 < s.len + 1
  · have hov' : decide (4096 < (s.len : Int) + 1) = true := by simp; omega
    have HOV := Lib.hid hov
    clear hov
    by_cases he : endsB s c = true
    · have hE : (lineS s c) = (st0, 3) := by unfold lineS; rw [if_pos HOV.out, if_pos he]
      have HE := Lib.hid hE
      obtain ⟨ha, hcc⟩ := ends_yes he
      have h1 : ((s.ahead : Int) == 13) = true := by simp [ha]
      have h2 : ((c : Int) == 10) = true := by simp [hcc]
      clear he hE ha hcc
      go_enter Try.func20, Try.ntmps20
      go_wp2_with (at_builtin; go_loud (refine app1g rfl (.tmp 12) (.tmp 14) rfl hO (Nat.zero_le _) rfl rfl (by omega) (Lib.hid rfl) ?_); intro o' w2 ho hg2 hm2; obtain ⟨oa, oc, rfl⟩ := ho.shape; simp only [List.length_append, List.length_cons, List.length_nil, Nat.zero_add] at ho hm2; have HF2 := Lib.hid ((HK.out.b.alloc _).grown hg2 hne.out); obtain ⟨d0, d1, d2, d3, d4, d5, d6, d7, e0, e1, e2, e3, e4, e5, e6, e7⟩ := HF2.out.at; have HW := Lib.hid (lineW_of rfl HM.out HK.out ho hg2 hm2); clear ho hg2 hm2)
      refine (begin_any p _ _ _ _ _ _ _ _ _ (by have := HW.out.b; rw [show ((s.len + 1 : Nat) : Int) = (s.len : Int) + 1 by omega] at this; exact this)).mono ?_
      rintro e w4 ⟨rfl, hf4, hz4, hb4, hk4⟩
      have HF4 := Lib.hid hf4
      have HK4 := Lib.hid hk4
      have HZ4 := Lib.hid hz4
      have HBL4 := Lib.hid hb4
      clear hf4 hk4 hz4 hb4
      go_wp2_with fail
      go_ret
      rw [HE.out]
      exact ⟨_, rfl, ⟨HF4.out, World.ownsRow_nil _ _ _ _⟩, HW.out.f.trans HW.out.m (Foot.of_kept _ HZ4.out HK4.out HBL4.out), Moved.none _ _⟩
    · have he' : endsB s c = false := by simpa using he
      have hE : (lineS s c) = ({ st0 with m := .skip, ahead := c }, 3) := by unfold lineS; rw [if_pos HOV.out, if_neg he]
      have HE := Lib.hid hE
      have HCs := Lib.hid (ends_no he')
      clear he he' hE
      rcases HCs.out with h1 | ⟨h1, h2⟩
      all_goals
        clear HCs
        go_enter Try.func20, Try.ntmps20
        go_wp2_with (at_builtin; go_loud (refine app1g rfl (.tmp 12) (.tmp 14) rfl hO (Nat.zero_le _) rfl rfl (by omega) (Lib.hid rfl) ?_); intro o' w2 ho hg2 hm2; obtain ⟨oa, oc, rfl⟩ := ho.shape; simp only [List.length_append, List.length_cons, List.length_nil, Nat.zero_add] at ho hm2; have HF2 := Lib.hid ((HK.out.b.alloc _).grown hg2 hne.out); obtain ⟨d0, d1, d2, d3, d4, d5, d6, d7, e0, e1, e2, e3, e4, e5, e6, e7⟩ := HF2.out.at; have HW := Lib.hid (lineW_of rfl HM.out HK.out ho hg2 hm2); clear ho hg2 hm2)
        refine (begin_any p _ _ _ _ _ _ _ _ _ (by have := HW.out.b; rw [show ((s.len + 1 : Nat) : Int) = (s.len : Int) + 1 by omega] at this; exact this)).mono ?_
        rintro e w4 ⟨rfl, hf4, hz4, hb4, hk4⟩
        have HF4 := Lib.hid hf4
        have HK4 := Lib.hid hk4
        have HZ4 := Lib.hid hz4
        have HBL4 := Lib.hid hb4
        obtain ⟨f0, f1, f2, f3, f4, f5, f6, f7, y0, y1, y2, y3, y4, y5, y6, y7⟩ := hf4.at
        clear hf4 hk4 hz4 hb4
        go_wp2_with fail
        go_ret
        rw [HE.out]
        exact ⟨_, rfl, ⟨(HF4.out.set0 (skipV p)).set7 c, World.ownsRow_nil _ _ _ _⟩, ((HW.out.f.trans HW.out.m (Foot.of_kept _ HZ4.out HK4.out HBL4.out)).set).set, Moved.none _ _⟩
  · have hov' : decide (4096 < (s.len : Int) + 1) = false := by simp; omega
    have HOV := Lib.hid hov
    have hlen1 : s.len + 1 ≤ 4096 := by omega
    clear hov
    by_cases he : endsB s c = false
    · have hE : (lineS s c) = (pushS s c, 0) := by unfold lineS; rw [if_neg HOV.out, if_pos he]
      have HE := Lib.hid hE
      have HCs := Lib.hid (ends_no he)
      clear he hE
      rcases HCs.out with h1 | ⟨h1, h2⟩
      all_goals
        clear HCs
        go_enter Try.func20, Try.ntmps20
        go_wp2_with (at_builtin; go_loud (refine app1g rfl (.tmp 12) (.tmp 14) rfl hO (Nat.zero_le _) rfl rfl (by omega) (Lib.hid rfl) ?_); intro o' w2 ho hg2 hm2; obtain ⟨oa, oc, rfl⟩ := ho.shape; simp only [List.length_append, List.length_cons, List.length_nil, Nat.zero_add] at ho hm2; have HF2 := Lib.hid ((HK.out.b.alloc _).grown hg2 hne.out); obtain ⟨d0, d1, d2, d3, d4, d5, d6, d7, e0, e1, e2, e3, e4, e5, e6, e7⟩ := HF2.out.at; have HW := Lib.hid (lineW_of rfl HM.out HK.out ho hg2 hm2); clear ho hg2 hm2)
        go_ret
        rw [HE.out]
        refine ⟨_, rfl, ⟨?_, HW.out.o⟩, HW.out.f, HW.out.m⟩
        have := HW.out.b
        unfold pushS
        rw [HM.out]
        exact this
    · have he' : endsB s c = true := by simpa using he
      obtain ⟨ha, rfl⟩ := ends_yes he'
      have h1 : ((s.ahead : Int) == 13) = true := by simp [ha]
      have hcr2 := HCR.out ha
      obtain ⟨n, hn⟩ : ∃ n, s.H.length + 1 = s.seg + n + 2 := ⟨s.H.length - 1 - s.seg, by omega⟩
      have hLp : partS (pushS s 10) = ((s.H ++ [10]).drop s.seg).take n := by
        have e : (s.H ++ [10]).length - 2 - s.seg = n := by rw [List.length_append]; simp only [List.length_cons, List.length_nil]; omega
        show ((s.H ++ [10]).drop s.seg).take ((s.H ++ [10]).length - 2 - s.seg) = _
        rw [e]
      have HL := Lib.hid hLp
      have HNN := Lib.hid hn
      have hE0 : (lineS s 10) = (match annP (partS (pushS s 10)) with
          | none => (pushS s 10, 1)
          | some n => if 16384 < n ∨ s.lits = 8 then (st0, 3) else (nextS { pushS s 10 with lits := s.lits + 1, left := n }, 2)) := by
        unfold lineS
        rw [if_neg HOV.out, if_neg (by rw [he']; decide)]
        rfl
      have HE0 := Lib.hid hE0
      clear he he' ha hLp hn hE0 hcr2
      go_enter Try.func20, Try.ntmps20
      go_wp2_with (at_builtin; go_loud (refine app1g rfl (.tmp 12) (.tmp 14) rfl hO (Nat.zero_le _) rfl rfl (by omega) (Lib.hid (show (10 : Int) = ((10 : Nat) : Int) from rfl)) ?_); intro o' w2 ho hg2 hm2; obtain ⟨g, oc, rfl, _, _⟩ := ho.some (by simp); simp only [List.length_append, List.length_cons, List.length_nil, Nat.zero_add] at ho hm2; have HF2 := Lib.hid ((HK.out.b.alloc _).grown hg2 hne.out); obtain ⟨d0, d1, d2, d3, d4, d5, d6, d7, e0, e1, e2, e3, e4, e5, e6, e7⟩ := HF2.out.at; have HW := Lib.hid (lineW_of rfl HM.out HK.out ho hg2 hm2); clear ho hg2 hm2)
      refine (announced_in p _ _ g _ oc s.seg n _ _ _ _ (s.H ++ [10]) (partS (pushS s 10)) _ HNN.out HW.out.b (by simp) HW.out.o HBB.out HL.out (by omega)).mono ?_
      rintro e w4 ⟨rfl, hb4⟩
      have HB4 := Lib.hid hb4
      have HF4 := Lib.hid (HW.out.b.keep hb4 HW.out.b.lt)
      have HO4 := Lib.hid (HW.out.o.keep hb4 (ownB_lt HW.out.o))
      have HFo4 := Lib.hid (HW.out.f.trans HW.out.m (Foot.of_below _ hb4))
      have hm4 := Lib.hid HW.out.m
      clear hb4 HB4 HF2 d0 d1 d2 d3 d4 d5 d6 d7 e0 e1 e2 e3 e4 e5 e6 e7 HW c0 c1 c2 c3 c4 c5 c6 c7 x0 x1 x2 x3 x4 x5 x6 x7
      cases hA : annP (partS (pushS s 10)) with
      | none =>
        have hE : lineS s 10 = (pushS s 10, 1) := by rw [HE0.out, hA]
        have HE := Lib.hid hE
        clear hE hA
        unfold annV
        go_wp2_with fail
        go_ret
        rw [HE.out]
        refine ⟨_, rfl, ⟨?_, HO4.out⟩, HFo4.out, hm4.out⟩
        have := HF4.out
        unfold pushS
        rw [HM.out]
        exact this
      | some v =>
        have hv := annP_le hA
        by_cases hbad : 16384 < v ∨ s.lits = 8
        · have hE : lineS s 10 = (st0, 3) := by rw [HE0.out, hA]; simp only; rw [if_pos hbad]
          have HE := Lib.hid hE
          have hcs : (decide (16384 < (v : Int)) = true ∨ (decide (16384 < (v : Int)) = false ∧ ((s.lits : Int) == 8) = true)) := by
            by_cases h : 16384 < v
            · left; simp; omega
            · right
              rcases hbad with h' | h'
              · exact absurd h' h
              · constructor
                · simp; omega
                · simp [h']
          have HCX := Lib.hid hcs
          obtain ⟨c0, c1, c2, c3, c4, c5, c6, c7, x0, x1, x2, x3, x4, x5, x6, x7⟩ := HF4.out.at
          clear hE hA hcs hbad
          unfold annV
          rcases HCX.out with g1 | ⟨g1, g2⟩
          all_goals
            clear HCX
            go_wp2_with fail
            refine (begin_any p _ _ _ _ _ _ _ _ _ HF4.out).mono ?_
            rintro e w5 ⟨rfl, hf5, hz5, hb5, hk5⟩
            have HF5 := Lib.hid hf5
            have HK5 := Lib.hid hk5
            have HZ5 := Lib.hid hz5
            have HBL5 := Lib.hid hb5
            clear hf5 hk5 hz5 hb5
            go_wp2_with fail
            go_ret
            rw [HE.out]
            exact ⟨_, rfl, ⟨HF5.out, World.ownsRow_nil _ _ _ _⟩, HFo4.out.trans hm4.out (Foot.of_kept _ HZ5.out HK5.out HBL5.out), Moved.none _ _⟩
        · have hE : lineS s 10 = (nextS { pushS s 10 with lits := s.lits + 1, left := v }, 2) := by rw [HE0.out, hA]; simp only; rw [if_neg hbad]
          have HE := Lib.hid hE
          have g1 : decide (16384 < (v : Int)) = false := by simp; omega
          have g2 : ((s.lits : Int) == 8) = false := by simp; omega
          obtain ⟨c0, c1, c2, c3, c4, c5, c6, c7, x0, x1, x2, x3, x4, x5, x6, x7⟩ := HF4.out.at
          clear hE hA hbad
          unfold annV
          go_wp2_with fail
          have HF5 := Lib.hid ((HF4.out.set5 ((s.lits : Int) + 1)).set6 (v : Int))
          have HFo5 := Lib.hid ((HFo4.out.set (j := 5) (v := .int .i64 ((s.lits : Int) + 1))).set (j := 6) (v := .int .i64 (v : Int)))
          have hne4 := feed_row_ne HF4.out HO4.out
          have HO5 := Lib.hid ((HO4.out.off (j := 5) (u := .int .i64 ((s.lits : Int) + 1)) hne4).off (j := 6) (u := .int .i64 (v : Int)) hne4)
          clear hne4
          by_cases hv0 : v = 0
          · subst hv0
            refine (next_zero p _ _ _ _ _ _ _ _ _ _ HF5.out).mono ?_
            rintro e w6 ⟨rfl, hf6, hz6, hk6, hb6⟩
            have HF6 := Lib.hid hf6
            have HK6 := Lib.hid hk6
            have HZ6 := Lib.hid hz6
            have HBL6 := Lib.hid hb6
            clear hf6 hk6 hz6 hb6
            go_wp2_with fail
            go_ret
            have e1 : nextS { pushS s 10 with lits := s.lits + 1, left := 0 } = { pushS s 10 with lits := s.lits + 1, left := 0, m := .line, seg := (s.H ++ [10]).length, ahead := 0 } := by unfold nextS; rfl
            rw [HE.out, e1]
            refine ⟨_, rfl, ⟨?_, kept_own HF5.out HO5.out HK6.out⟩, HFo5.out.trans hm4.out (Foot.of_kept _ HZ6.out HK6.out HBL6.out), hm4.out⟩
            have hl1 : (s.H ++ [10]).length = s.H.length + 1 := by simp
            show FeedB _ p (lineV p) r _ ((s.H ++ [10]).length : Nat) ((s.len + 1 : Nat) : Int) ((s.lits + 1 : Nat) : Int) 0 0
            rw [hl1]
            exact HF6.out
          · have hvp : 0 < (v : Int) := by omega
            refine (next_more p _ _ _ _ _ _ _ _ _ hvp HF5.out).mono ?_
            rintro e w6 ⟨rfl, hf6, hz6, hk6, hb6⟩
            have HF6 := Lib.hid hf6
            have HK6 := Lib.hid hk6
            have HZ6 := Lib.hid hz6
            have HBL6 := Lib.hid hb6
            clear hf6 hk6 hz6 hb6
            go_wp2_with fail
            go_ret
            have e1 : nextS { pushS s 10 with lits := s.lits + 1, left := v } = { pushS s 10 with lits := s.lits + 1, left := v, m := .lit } := by unfold nextS; simp [hv0]
            rw [HE.out, e1]
            exact ⟨_, rfl, ⟨HF6.out, kept_own HF5.out HO5.out HK6.out⟩, HFo5.out.trans hm4.out (Foot.of_kept _ HZ6.out HK6.out HBL6.out), hm4.out⟩
end Go.Proofs.Ytgafalobbhoaoaa
